/- Drawing a rule. No condition. -/
import Derived.Test.YtpcependeealfaaOpen
import Derived.Test.YtpcependeealfaaRules2
namespace Go.Proofs.Ytpcependeealfaa
open Go.RowKit

/-- what drawing a rule leaves -/
def RulePost (B R : Nat) (a : Option Addr) (len cap k : Nat) (w : World) (e : Ending) (w' : World) : Prop :=
  ∃ (kind : Int) (letter thn : ByteArray) (many : Int), e = .returned (.agg #[.int .i64 kind, .string letter, .string thn, .int .i64 many]) ∧ 0 ≤ kind ∧ kind ≤ 5 ∧ letter.size = 1 ∧ thn.size ≤ 1 ∧ -1 ≤ many ∧ many ≤ 6 ∧
    ∃ k', k ≤ k' ∧ k' ≤ k + 10 ∧ RdAt B R a len cap k' w' ∧ KeepsBut R w w'

/-- a block that holds a rule that is being drawn -/
structure RuF (B : Nat) (kind : Int) (letter thn : ByteArray) (many : Int) (w : World) : Prop where
  hB : B < w.heap.size
  c0 : w.cell? ⟨B, 0, none⟩ = some (.int .i64 kind)
  c1 : w.cell? ⟨B, 1, none⟩ = some (.string letter)
  c2 : w.cell? ⟨B, 2, none⟩ = some (.string thn)
  c3 : w.cell? ⟨B, 3, none⟩ = some (.int .i64 many)
  f : ∀ i, w.frozen? ⟨B, i, none⟩ = false
theorem RuF.keeps {B R : Nat} {kind : Int} {letter thn : ByteArray} {many : Int} {w w' : World} (h : RuF B kind letter thn many w) (hk : KeepsBut R w w') (hne : B ≠ R) : RuF B kind letter thn many w' :=
  ⟨Nat.lt_of_lt_of_le h.hB hk.size, (hk.cell (p := ⟨B, 0, none⟩) h.hB hne).trans h.c0, (hk.cell (p := ⟨B, 1, none⟩) h.hB hne).trans h.c1, (hk.cell (p := ⟨B, 2, none⟩) h.hB hne).trans h.c2, (hk.cell (p := ⟨B, 3, none⟩) h.hB hne).trans h.c3,
    fun i => (hk.frozen (p := ⟨B, i, none⟩) h.hB hne).trans (h.f i)⟩
theorem RuF.new (w : World) (kind : Int) (letter thn : ByteArray) (many : Int) (t : TypeId) : RuF w.heap.size kind letter thn many (w.alloc (.cells #[.int .i64 kind, .string letter, .string thn, .int .i64 many] t)) :=
  ⟨by simp, World.cell?_alloc_new w _ _ 0, World.cell?_alloc_new w _ _ 1, World.cell?_alloc_new w _ _ 2, World.cell?_alloc_new w _ _ 3, fun i => World.frozen?_alloc_new w _ _ i⟩
theorem keeps_set (w : World) (b i : Nat) (u : Value) : KeepsBut b w (w.setCell ⟨b, i, none⟩ u) := (KeepsBut.refl b w).setCell i u
theorem RdAt.other {B R : Nat} {a : Option Addr} {len cap k : Nat} {w : World} (h : RdAt B R a len cap k w) (b i : Nat) (u : Value) (hb : b ≠ R) (hB : B ≤ b) : RdAt B R a len cap k (w.setCell ⟨b, i, none⟩ u) := by
  have hk := keeps_set w b i u
  refine ⟨h.hB, by simpa using h.hR, (hk.cell (p := ⟨R, 0, none⟩) h.hR (Ne.symm hb)).trans h.c0, (hk.cell (p := ⟨R, 1, none⟩) h.hR (Ne.symm hb)).trans h.c1, (hk.frozen (p := ⟨R, 1, none⟩) h.hR (Ne.symm hb)).trans h.f1, h.hlen, ?_⟩
  refine h.row.imp id (fun ⟨c, off, z, ha, hc, hz⟩ => ⟨c, off, z, ha, hc, fun i hi => ⟨(hz i hi).1, ?_⟩⟩)
  have h1 := h.hB
  have h2 := h.hR
  exact (hk.cell (p := ⟨c, off + i, none⟩) (by show c < _; omega) (by show c ≠ b; omega)).trans (hz i hi).2

/-- a rule that is being drawn, and the place where it will be laid -/
structure Dr (B R : Nat) (a : Option Addr) (len cap : Nat) (w0 : World) (RB RU : Nat) (k : Nat) (kind : Int) (letter thn : ByteArray) (many : Int) (w : World) : Prop where
  rd : RdAt B R a len cap k w
  kp : KeepsBut R w0 w
  ru : RuF RU kind letter thn many w
  rb : RuF RB 0 ⟨#[]⟩ ⟨#[]⟩ 0 w
  hRB : w0.heap.size ≤ RB
  hRU : w0.heap.size ≤ RU
  hR0 : R < w0.heap.size
  ne : RB ≠ RU
section
variable {B R : Nat} {a : Option Addr} {len cap : Nat} {w0 : World} {RB RU k : Nat} {kind : Int} {letter thn : ByteArray} {many : Int} {w w' : World}
theorem Dr.keeps {k' : Nat} (h : Dr B R a len cap w0 RB RU k kind letter thn many w) (hR : RdAt B R a len cap k' w') (hK : KeepsBut R w w') : Dr B R a len cap w0 RB RU k' kind letter thn many w' :=
  ⟨hR, h.kp.trans hK, h.ru.keeps hK (by have := h.hRU; have := h.hR0; omega), h.rb.keeps hK (by have := h.hRB; have := h.hR0; omega), h.hRB, h.hRU, h.hR0, h.ne⟩
theorem Dr.alloc (h : Dr B R a len cap w0 RB RU k kind letter thn many w) (o : Obj) : Dr B R a len cap w0 RB RU k kind letter thn many (w.alloc o) :=
  h.keeps (h.rd.keeps ((Below.refl _ _).alloc (Nat.le_refl _) o)) ((KeepsBut.refl R w).alloc o)
theorem set_kp (h : Dr B R a len cap w0 RB RU k kind letter thn many w) (b i : Nat) (u : Value) (hb : w0.heap.size ≤ b) : KeepsBut R w0 (w.setCell ⟨b, i, none⟩ u) :=
  ⟨h.kp.os, h.kp.tape, h.kp.output, by simpa using h.kp.size, fun j hj hr => (Below.heap_setCell w ⟨b, i, none⟩ u j (by show j ≠ b; omega)).trans (h.kp.block j hj hr)⟩
theorem Dr.set3 (h : Dr B R a len cap w0 RB RU k kind letter thn many w) (u : Int) : Dr B R a len cap w0 RB RU k kind letter thn u (w.setCell ⟨RU, 3, none⟩ (.int .i64 u)) := by
  have hne : RU ≠ R := by have := h.hRU; have := h.hR0; omega
  have hB := h.rd.hB
  have c := h.ru
  refine ⟨h.rd.other RU 3 _ hne (by have := h.hRU; have := h.hR0; omega), set_kp h RU 3 _ h.hRU, ⟨by simpa using c.hB, ?_, ?_, ?_, ?_, fun i => ?_⟩, h.rb.keeps (keeps_set w RU 3 _) h.ne, h.hRB, h.hRU, h.hR0, h.ne⟩
  · rw [World.cell?_setCell_other _ _ _ _ (by simp)]; exact c.c0
  · rw [World.cell?_setCell_other _ _ _ _ (by simp)]; exact c.c1
  · rw [World.cell?_setCell_other _ _ _ _ (by simp)]; exact c.c2
  · exact World.cell?_setCell_same' _ _ _ (by rw [c.c3]; rfl)
  · rw [World.frozen?_setCell]; exact c.f i
theorem Dr.set2 (h : Dr B R a len cap w0 RB RU k kind letter thn many w) (u : ByteArray) : Dr B R a len cap w0 RB RU k kind letter u many (w.setCell ⟨RU, 2, none⟩ (.string u)) := by
  have hne : RU ≠ R := by have := h.hRU; have := h.hR0; omega
  have hB := h.rd.hB
  have c := h.ru
  refine ⟨h.rd.other RU 2 _ hne (by have := h.hRU; have := h.hR0; omega), set_kp h RU 2 _ h.hRU, ⟨by simpa using c.hB, ?_, ?_, ?_, ?_, fun i => ?_⟩, h.rb.keeps (keeps_set w RU 2 _) h.ne, h.hRB, h.hRU, h.hR0, h.ne⟩
  · rw [World.cell?_setCell_other _ _ _ _ (by simp)]; exact c.c0
  · rw [World.cell?_setCell_other _ _ _ _ (by simp)]; exact c.c1
  · exact World.cell?_setCell_same' _ _ _ (by rw [c.c2]; rfl)
  · rw [World.cell?_setCell_other _ _ _ _ (by simp)]; exact c.c3
  · rw [World.frozen?_setCell]; exact c.f i
theorem Dr.set1 (h : Dr B R a len cap w0 RB RU k kind letter thn many w) (u : ByteArray) : Dr B R a len cap w0 RB RU k kind u thn many (w.setCell ⟨RU, 1, none⟩ (.string u)) := by
  have hne : RU ≠ R := by have := h.hRU; have := h.hR0; omega
  have hB := h.rd.hB
  have c := h.ru
  refine ⟨h.rd.other RU 1 _ hne (by have := h.hRU; have := h.hR0; omega), set_kp h RU 1 _ h.hRU, ⟨by simpa using c.hB, ?_, ?_, ?_, ?_, fun i => ?_⟩, h.rb.keeps (keeps_set w RU 1 _) h.ne, h.hRB, h.hRU, h.hR0, h.ne⟩
  · rw [World.cell?_setCell_other _ _ _ _ (by simp)]; exact c.c0
  · exact World.cell?_setCell_same' _ _ _ (by rw [c.c1]; rfl)
  · rw [World.cell?_setCell_other _ _ _ _ (by simp)]; exact c.c2
  · rw [World.cell?_setCell_other _ _ _ _ (by simp)]; exact c.c3
  · rw [World.frozen?_setCell]; exact c.f i
theorem Dr.set0 (h : Dr B R a len cap w0 RB RU k kind letter thn many w) (u : Int) : Dr B R a len cap w0 RB RU k u letter thn many (w.setCell ⟨RU, 0, none⟩ (.int .i64 u)) := by
  have hne : RU ≠ R := by have := h.hRU; have := h.hR0; omega
  have hB := h.rd.hB
  have c := h.ru
  refine ⟨h.rd.other RU 0 _ hne (by have := h.hRU; have := h.hR0; omega), set_kp h RU 0 _ h.hRU, ⟨by simpa using c.hB, ?_, ?_, ?_, ?_, fun i => ?_⟩, h.rb.keeps (keeps_set w RU 0 _) h.ne, h.hRB, h.hRU, h.hR0, h.ne⟩
  · exact World.cell?_setCell_same' _ _ _ (by rw [c.c0]; rfl)
  · rw [World.cell?_setCell_other _ _ _ _ (by simp)]; exact c.c1
  · rw [World.cell?_setCell_other _ _ _ _ (by simp)]; exact c.c2
  · rw [World.cell?_setCell_other _ _ _ _ (by simp)]; exact c.c3
  · rw [World.frozen?_setCell]; exact c.f i
/-- the rule laid at its place -/
theorem Dr.fin (h : Dr B R a len cap w0 RB RU k kind letter thn many w) {W : World} (hW : W = (((w.setCell ⟨RB, 0, none⟩ (.int .i64 kind)).setCell ⟨RB, 1, none⟩ (.string letter)).setCell ⟨RB, 2, none⟩ (.string thn)).setCell ⟨RB, 3, none⟩ (.int .i64 many)) :
    W.cell? ⟨RB, 0, none⟩ = some (.int .i64 kind) ∧ W.cell? ⟨RB, 1, none⟩ = some (.string letter) ∧ W.cell? ⟨RB, 2, none⟩ = some (.string thn) ∧ W.cell? ⟨RB, 3, none⟩ = some (.int .i64 many) ∧ RdAt B R a len cap k W ∧ KeepsBut R w0 W := by
  subst hW
  have hne : RB ≠ R := by have := h.hRB; have := h.hR0; omega
  have hB := h.rd.hB
  have hBB : B ≤ RB := by have := h.hRB; have := h.hR0; omega
  have c := h.rb
  have b0 := c.c0
  have b1 := c.c1
  have b2 := c.c2
  have b3 := c.c3
  refine ⟨by go_simp, by go_simp, by go_simp, by go_simp, (((h.rd.other RB 0 _ hne hBB).other RB 1 _ hne hBB).other RB 2 _ hne hBB).other RB 3 _ hne hBB, ?_⟩
  have hsame : ∀ (x : World) (i : Nat) (u : Value), KeepsBut R w0 x → KeepsBut R w0 (x.setCell ⟨RB, i, none⟩ u) := fun x i u hx =>
    ⟨hx.os, hx.tape, hx.output, by simpa using hx.size, fun j hj hr => (Below.heap_setCell x ⟨RB, i, none⟩ u j (by have := h.hRB; show j ≠ RB; omega)).trans (hx.block j hj hr)⟩
  exact hsame _ _ _ (hsame _ _ _ (hsame _ _ _ (hsame _ _ _ h.kp)))
theorem Dr.cells (h : Dr B R a len cap w0 RB RU k kind letter thn many w) : (w.cell? ⟨RU, 0, none⟩ = some (.int .i64 kind) ∧ w.cell? ⟨RU, 1, none⟩ = some (.string letter) ∧ w.cell? ⟨RU, 2, none⟩ = some (.string thn) ∧ w.cell? ⟨RU, 3, none⟩ = some (.int .i64 many)) ∧
    (w.frozen? ⟨RU, 0, none⟩ = false ∧ w.frozen? ⟨RU, 1, none⟩ = false ∧ w.frozen? ⟨RU, 2, none⟩ = false ∧ w.frozen? ⟨RU, 3, none⟩ = false) := ⟨⟨h.ru.c0, h.ru.c1, h.ru.c2, h.ru.c3⟩, h.ru.f 0, h.ru.f 1, h.ru.f 2, h.ru.f 3⟩
theorem Dr.cellsB (h : Dr B R a len cap w0 RB RU k kind letter thn many w) : (w.cell? ⟨RB, 0, none⟩ = some (.int .i64 0) ∧ w.cell? ⟨RB, 1, none⟩ = some (.string ⟨#[]⟩) ∧ w.cell? ⟨RB, 2, none⟩ = some (.string ⟨#[]⟩) ∧ w.cell? ⟨RB, 3, none⟩ = some (.int .i64 0)) ∧
    (w.frozen? ⟨RB, 0, none⟩ = false ∧ w.frozen? ⟨RB, 1, none⟩ = false ∧ w.frozen? ⟨RB, 2, none⟩ = false ∧ w.frozen? ⟨RB, 3, none⟩ = false) := ⟨⟨h.rb.c0, h.rb.c1, h.rb.c2, h.rb.c3⟩, h.rb.f 0, h.rb.f 1, h.rb.f 2, h.rb.f 3⟩
end
end Go.Proofs.Ytpcependeealfaa
