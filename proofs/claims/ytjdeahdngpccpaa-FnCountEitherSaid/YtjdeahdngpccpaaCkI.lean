/- Drawing a rule. No condition. Drawing a rule that is one. No condition. Rows that a drawing call owns, by their places in a list, beside the code that is read. No condition. Drawing a term: what lies in memory meanwhile. No condition. Drawing a term: the walk. No condition. -/
import Derived.Test.YtjdeahdngpccpaaCkH
import Derived.Test.YtjdeahdngpccpaaCkA
import Derived.Test.YtjdeahdngpccpaaQueue
import Derived.Laws.AppendOwnNone
import Derived.Deep.RegionLaw
import Derived.Deep.RegionWith
import Derived.Deep.CutBlock
import Derived.Deep.RegionHeld3

namespace Go.Proofs.Ytjdeahdngpccpaa
open Go.RowKit

/-- what drawing a rule leaves -/
def RulePost (B R : Nat) (a : Option Addr) (len cap k : Nat) (w : World) (e : Ending) (w' : World) : Prop :=
  ∃ (kind : Int) (letter thn : ByteArray) (many : Int), e = .returned (.agg #[.int .i64 kind, .string letter, .string thn, .int .i64 many]) ∧ 0 ≤ kind ∧ kind ≤ 5 ∧ letter.size = 1 ∧ thn.size ≤ 1 ∧ -1 ≤ many ∧ many ≤ 6 ∧
    ∃ k', k ≤ k' ∧ k' ≤ k + 10 ∧ RdAt B R a len cap k' w' ∧ KeepsBut R w w'

/-- a block that holds a rule that is being drawn -/
structure RuF (B : Nat) (kind : Int) (letter thn : ByteArray) (many : Int) (w : World) : Prop where
  hB : B < w.heap.size
  c0 : w.cell? ⟨B, 0, none⟩ = some (.int .i64 kind)
  c1 : w.cell? ⟨B, 1, none⟩ = some (.string letter)
  c2 : w.cell? ⟨B, 2, none⟩ = some (.string thn)
  c3 : w.cell? ⟨B, 3, none⟩ = some (.int .i64 many)
  f : ∀ i, w.frozen? ⟨B, i, none⟩ = false
theorem RuF.keeps {B R : Nat} {kind : Int} {letter thn : ByteArray} {many : Int} {w w' : World} (h : RuF B kind letter thn many w) (hk : KeepsBut R w w') (hne : B ≠ R) : RuF B kind letter thn many w' :=
  ⟨Nat.lt_of_lt_of_le h.hB hk.size, (hk.cell (p := ⟨B, 0, none⟩) h.hB hne).trans h.c0, (hk.cell (p := ⟨B, 1, none⟩) h.hB hne).trans h.c1, (hk.cell (p := ⟨B, 2, none⟩) h.hB hne).trans h.c2, (hk.cell (p := ⟨B, 3, none⟩) h.hB hne).trans h.c3,
    fun i => (hk.frozen (p := ⟨B, i, none⟩) h.hB hne).trans (h.f i)⟩
theorem RuF.new (w : World) (kind : Int) (letter thn : ByteArray) (many : Int) (t : TypeId) : RuF w.heap.size kind letter thn many (w.alloc (.cells #[.int .i64 kind, .string letter, .string thn, .int .i64 many] t)) :=
  ⟨by simp, World.cell?_alloc_new w _ _ 0, World.cell?_alloc_new w _ _ 1, World.cell?_alloc_new w _ _ 2, World.cell?_alloc_new w _ _ 3, fun i => World.frozen?_alloc_new w _ _ i⟩
theorem keeps_set (w : World) (b i : Nat) (u : Value) : KeepsBut b w (w.setCell ⟨b, i, none⟩ u) := (KeepsBut.refl b w).setCell i u
theorem RdAt.other {B R : Nat} {a : Option Addr} {len cap k : Nat} {w : World} (h : RdAt B R a len cap k w) (b i : Nat) (u : Value) (hb : b ≠ R) (hB : B ≤ b) : RdAt B R a len cap k (w.setCell ⟨b, i, none⟩ u) := by
  have hk := keeps_set w b i u
  refine ⟨h.hB, by simpa using h.hR, (hk.cell (p := ⟨R, 0, none⟩) h.hR (Ne.symm hb)).trans h.c0, (hk.cell (p := ⟨R, 1, none⟩) h.hR (Ne.symm hb)).trans h.c1, (hk.frozen (p := ⟨R, 1, none⟩) h.hR (Ne.symm hb)).trans h.f1, h.hlen, ?_⟩
  refine h.row.imp id (fun ⟨c, off, z, ha, hc, hz⟩ => ⟨c, off, z, ha, hc, fun i hi => ⟨(hz i hi).1, ?_⟩⟩)
  have h1 := h.hB
  have h2 := h.hR
  exact (hk.cell (p := ⟨c, off + i, none⟩) (by show c < _; omega) (by show c ≠ b; omega)).trans (hz i hi).2

/-- a rule that is being drawn, and the place where it will be laid -/
structure Dr (B R : Nat) (a : Option Addr) (len cap : Nat) (w0 : World) (RB RU : Nat) (k : Nat) (kind : Int) (letter thn : ByteArray) (many : Int) (w : World) : Prop where
  rd : RdAt B R a len cap k w
  kp : KeepsBut R w0 w
  ru : RuF RU kind letter thn many w
  rb : RuF RB 0 ⟨#[]⟩ ⟨#[]⟩ 0 w
  hRB : w0.heap.size ≤ RB
  hRU : w0.heap.size ≤ RU
  hR0 : R < w0.heap.size
  ne : RB ≠ RU
section
variable {B R : Nat} {a : Option Addr} {len cap : Nat} {w0 : World} {RB RU k : Nat} {kind : Int} {letter thn : ByteArray} {many : Int} {w w' : World}
theorem Dr.keeps {k' : Nat} (h : Dr B R a len cap w0 RB RU k kind letter thn many w) (hR : RdAt B R a len cap k' w') (hK : KeepsBut R w w') : Dr B R a len cap w0 RB RU k' kind letter thn many w' :=
  ⟨hR, h.kp.trans hK, h.ru.keeps hK (by have := h.hRU; have := h.hR0; omega), h.rb.keeps hK (by have := h.hRB; have := h.hR0; omega), h.hRB, h.hRU, h.hR0, h.ne⟩
theorem Dr.alloc (h : Dr B R a len cap w0 RB RU k kind letter thn many w) (o : Obj) : Dr B R a len cap w0 RB RU k kind letter thn many (w.alloc o) :=
  h.keeps (h.rd.keeps ((Below.refl _ _).alloc (Nat.le_refl _) o)) ((KeepsBut.refl R w).alloc o)
theorem set_kp (h : Dr B R a len cap w0 RB RU k kind letter thn many w) (b i : Nat) (u : Value) (hb : w0.heap.size ≤ b) : KeepsBut R w0 (w.setCell ⟨b, i, none⟩ u) :=
  ⟨h.kp.os, h.kp.tape, h.kp.output, by simpa using h.kp.size, fun j hj hr => (Below.heap_setCell w ⟨b, i, none⟩ u j (by show j ≠ b; omega)).trans (h.kp.block j hj hr)⟩
theorem Dr.set3 (h : Dr B R a len cap w0 RB RU k kind letter thn many w) (u : Int) : Dr B R a len cap w0 RB RU k kind letter thn u (w.setCell ⟨RU, 3, none⟩ (.int .i64 u)) := by
  have hne : RU ≠ R := by have := h.hRU; have := h.hR0; omega
  have hB := h.rd.hB
  have c := h.ru
  refine ⟨h.rd.other RU 3 _ hne (by have := h.hRU; have := h.hR0; omega), set_kp h RU 3 _ h.hRU, ⟨by simpa using c.hB, ?_, ?_, ?_, ?_, fun i => ?_⟩, h.rb.keeps (keeps_set w RU 3 _) h.ne, h.hRB, h.hRU, h.hR0, h.ne⟩
  · rw [World.cell?_setCell_other _ _ _ _ (by simp)]; exact c.c0
  · rw [World.cell?_setCell_other _ _ _ _ (by simp)]; exact c.c1
  · rw [World.cell?_setCell_other _ _ _ _ (by simp)]; exact c.c2
  · exact World.cell?_setCell_same' _ _ _ (by rw [c.c3]; rfl)
  · rw [World.frozen?_setCell]; exact c.f i
theorem Dr.set2 (h : Dr B R a len cap w0 RB RU k kind letter thn many w) (u : ByteArray) : Dr B R a len cap w0 RB RU k kind letter u many (w.setCell ⟨RU, 2, none⟩ (.string u)) := by
  have hne : RU ≠ R := by have := h.hRU; have := h.hR0; omega
  have hB := h.rd.hB
  have c := h.ru
  refine ⟨h.rd.other RU 2 _ hne (by have := h.hRU; have := h.hR0; omega), set_kp h RU 2 _ h.hRU, ⟨by simpa using c.hB, ?_, ?_, ?_, ?_, fun i => ?_⟩, h.rb.keeps (keeps_set w RU 2 _) h.ne, h.hRB, h.hRU, h.hR0, h.ne⟩
  · rw [World.cell?_setCell_other _ _ _ _ (by simp)]; exact c.c0
  · rw [World.cell?_setCell_other _ _ _ _ (by simp)]; exact c.c1
  · exact World.cell?_setCell_same' _ _ _ (by rw [c.c2]; rfl)
  · rw [World.cell?_setCell_other _ _ _ _ (by simp)]; exact c.c3
  · rw [World.frozen?_setCell]; exact c.f i
theorem Dr.set1 (h : Dr B R a len cap w0 RB RU k kind letter thn many w) (u : ByteArray) : Dr B R a len cap w0 RB RU k kind u thn many (w.setCell ⟨RU, 1, none⟩ (.string u)) := by
  have hne : RU ≠ R := by have := h.hRU; have := h.hR0; omega
  have hB := h.rd.hB
  have c := h.ru
  refine ⟨h.rd.other RU 1 _ hne (by have := h.hRU; have := h.hR0; omega), set_kp h RU 1 _ h.hRU, ⟨by simpa using c.hB, ?_, ?_, ?_, ?_, fun i => ?_⟩, h.rb.keeps (keeps_set w RU 1 _) h.ne, h.hRB, h.hRU, h.hR0, h.ne⟩
  · rw [World.cell?_setCell_other _ _ _ _ (by simp)]; exact c.c0
  · exact World.cell?_setCell_same' _ _ _ (by rw [c.c1]; rfl)
  · rw [World.cell?_setCell_other _ _ _ _ (by simp)]; exact c.c2
  · rw [World.cell?_setCell_other _ _ _ _ (by simp)]; exact c.c3
  · rw [World.frozen?_setCell]; exact c.f i
theorem Dr.set0 (h : Dr B R a len cap w0 RB RU k kind letter thn many w) (u : Int) : Dr B R a len cap w0 RB RU k u letter thn many (w.setCell ⟨RU, 0, none⟩ (.int .i64 u)) := by
  have hne : RU ≠ R := by have := h.hRU; have := h.hR0; omega
  have hB := h.rd.hB
  have c := h.ru
  refine ⟨h.rd.other RU 0 _ hne (by have := h.hRU; have := h.hR0; omega), set_kp h RU 0 _ h.hRU, ⟨by simpa using c.hB, ?_, ?_, ?_, ?_, fun i => ?_⟩, h.rb.keeps (keeps_set w RU 0 _) h.ne, h.hRB, h.hRU, h.hR0, h.ne⟩
  · exact World.cell?_setCell_same' _ _ _ (by rw [c.c0]; rfl)
  · rw [World.cell?_setCell_other _ _ _ _ (by simp)]; exact c.c1
  · rw [World.cell?_setCell_other _ _ _ _ (by simp)]; exact c.c2
  · rw [World.cell?_setCell_other _ _ _ _ (by simp)]; exact c.c3
  · rw [World.frozen?_setCell]; exact c.f i
/-- the rule laid at its place -/
theorem Dr.fin (h : Dr B R a len cap w0 RB RU k kind letter thn many w) {W : World} (hW : W = (((w.setCell ⟨RB, 0, none⟩ (.int .i64 kind)).setCell ⟨RB, 1, none⟩ (.string letter)).setCell ⟨RB, 2, none⟩ (.string thn)).setCell ⟨RB, 3, none⟩ (.int .i64 many)) :
    W.cell? ⟨RB, 0, none⟩ = some (.int .i64 kind) ∧ W.cell? ⟨RB, 1, none⟩ = some (.string letter) ∧ W.cell? ⟨RB, 2, none⟩ = some (.string thn) ∧ W.cell? ⟨RB, 3, none⟩ = some (.int .i64 many) ∧ RdAt B R a len cap k W ∧ KeepsBut R w0 W := by
  subst hW
  have hne : RB ≠ R := by have := h.hRB; have := h.hR0; omega
  have hB := h.rd.hB
  have hBB : B ≤ RB := by have := h.hRB; have := h.hR0; omega
  have c := h.rb
  have b0 := c.c0
  have b1 := c.c1
  have b2 := c.c2
  have b3 := c.c3
  refine ⟨by go_simp, by go_simp, by go_simp, by go_simp, (((h.rd.other RB 0 _ hne hBB).other RB 1 _ hne hBB).other RB 2 _ hne hBB).other RB 3 _ hne hBB, ?_⟩
  have hsame : ∀ (x : World) (i : Nat) (u : Value), KeepsBut R w0 x → KeepsBut R w0 (x.setCell ⟨RB, i, none⟩ u) := fun x i u hx =>
    ⟨hx.os, hx.tape, hx.output, by simpa using hx.size, fun j hj hr => (Below.heap_setCell x ⟨RB, i, none⟩ u j (by have := h.hRB; show j ≠ RB; omega)).trans (hx.block j hj hr)⟩
  exact hsame _ _ _ (hsame _ _ _ (hsame _ _ _ (hsame _ _ _ h.kp)))
theorem Dr.cells (h : Dr B R a len cap w0 RB RU k kind letter thn many w) : (w.cell? ⟨RU, 0, none⟩ = some (.int .i64 kind) ∧ w.cell? ⟨RU, 1, none⟩ = some (.string letter) ∧ w.cell? ⟨RU, 2, none⟩ = some (.string thn) ∧ w.cell? ⟨RU, 3, none⟩ = some (.int .i64 many)) ∧
    (w.frozen? ⟨RU, 0, none⟩ = false ∧ w.frozen? ⟨RU, 1, none⟩ = false ∧ w.frozen? ⟨RU, 2, none⟩ = false ∧ w.frozen? ⟨RU, 3, none⟩ = false) := ⟨⟨h.ru.c0, h.ru.c1, h.ru.c2, h.ru.c3⟩, h.ru.f 0, h.ru.f 1, h.ru.f 2, h.ru.f 3⟩
theorem Dr.cellsB (h : Dr B R a len cap w0 RB RU k kind letter thn many w) : (w.cell? ⟨RB, 0, none⟩ = some (.int .i64 0) ∧ w.cell? ⟨RB, 1, none⟩ = some (.string ⟨#[]⟩) ∧ w.cell? ⟨RB, 2, none⟩ = some (.string ⟨#[]⟩) ∧ w.cell? ⟨RB, 3, none⟩ = some (.int .i64 0)) ∧
    (w.frozen? ⟨RB, 0, none⟩ = false ∧ w.frozen? ⟨RB, 1, none⟩ = false ∧ w.frozen? ⟨RB, 2, none⟩ = false ∧ w.frozen? ⟨RB, 3, none⟩ = false) := ⟨⟨h.rb.c0, h.rb.c1, h.rb.c2, h.rb.c3⟩, h.rb.f 0, h.rb.f 1, h.rb.f 2, h.rb.f 3⟩
end
end Go.Proofs.Ytjdeahdngpccpaa

namespace Go.Proofs.Ytjdeahdngpccpaa
open Go.RowKit

theorem odd0_any (R : Nat) (w : World) :
    Calls Try.prog 116 #[.pointer (some ⟨R, 0, none⟩), .int .i64 0] w fun e w' => e = .returned (.bool false) ∧ w = w' := by
  go_enter Try.func116, Try.ntmps116
  go_wp2_with fail
  go_ret
  exact ⟨rfl, rfl⟩

set_option maxHeartbeats 4000000 in
set_option maxRecDepth 100000 in
theorem l20Rule0_any (B R : Nat) (a : Option Addr) (len cap k : Nat) (w : World) (H : RdAt B R a len cap k w) (hk : k ≤ 900000) :
    Calls Try.prog 144 #[.pointer (some ⟨R, 0, none⟩), .int .i64 0] w (RulePost B R a len cap k w) := by
  have R1 := Lib.hid (H.keeps ((Below.refl _ w).alloc (Nat.le_refl _) (.cells #[.int .i64 0, .string ⟨#[]⟩, .string ⟨#[]⟩, .int .i64 0] 106)))
  have K1 := Lib.hid ((KeepsBut.refl R w).alloc (.cells #[.int .i64 0, .string ⟨#[]⟩, .string ⟨#[]⟩, .int .i64 0] 106))
  have F1 := Lib.hid (RuF.new w 0 ⟨#[]⟩ ⟨#[]⟩ 0 106)
  have HR := Lib.hid H.hR
  have HNE : Hid (w.heap.size ≠ R) := Lib.hid (Nat.ne_of_gt H.hR)
  clear H
  go_enter Try.func144, Try.ntmps144
  go_wp2_with fail
  refine (pick_any B R a len cap k 5 _ R1.out (by omega) (by omega) (by omega)).mono ?_
  rintro e w2 ⟨v, rfl, hv0, hv1, hR2, hK2⟩
  have hv5 := hv1 (by omega)
  have F2 := Lib.hid (F1.out.keeps hK2 HNE.out)
  have K2 := Lib.hid (K1.out.trans hK2)
  have R2 := Lib.hid hR2
  clear hv1 hR2 hK2 F1 K1 R1
  go_wp2_with fail
  refine (pick_any B R a len cap (k + 1) 3 _ (R2.out.keeps ((Below.refl _ _).alloc (Nat.le_refl _) _)) (by omega) (by omega) (by omega)).mono ?_
  rintro e w3 ⟨v3, rfl, hv30, hv31, hR3, hK3⟩
  obtain ⟨j, s3, rfl, hj, hs3, hcell⟩ := three_cells _ _ _ _ _ _ R R2.out.hR hK3 v3 hv30 (hv31 (by omega))
  have hsz3 : s3.size = 1 := by rcases hs3 with rfl | rfl | rfl <;> simp [ByteArray.size]
  have F3 := Lib.hid ((F2.out.keeps ((KeepsBut.refl R w2).alloc (.cells #[.string ⟨#[114]⟩, .string ⟨#[100]⟩, .string ⟨#[110]⟩] 9)) HNE.out).keeps hK3 HNE.out)
  have K3 := Lib.hid ((K2.out.alloc (.cells #[.string ⟨#[114]⟩, .string ⟨#[100]⟩, .string ⟨#[110]⟩] 9)).trans hK3)
  have R3 := Lib.hid hR3
  clear hv31 hR3 hK3 F2 K2 R2 hs3 hv30
  have hD : ∀ x : Int, Dr B R a len cap w w.heap.size w3.heap.size (k + 2) x s3 ⟨#[]⟩ 0 (w3.alloc (.cells #[.int .i64 x, .string s3, .string ⟨#[]⟩, .int .i64 0] 106)) := fun x =>
    ⟨R3.out.keeps ((Below.refl _ _).alloc (Nat.le_refl _) _), K3.out.alloc _, RuF.new w3 x s3 ⟨#[]⟩ 0 106, F3.out.keeps (R := R) ((KeepsBut.refl R w3).alloc _) HNE.out, Nat.le_refl _, K3.out.size, HR.out, Nat.ne_of_lt F3.out.hB⟩
  have HD := Lib.hid hD
  clear hD F3 K3 R3 HNE HR
  generalize hRB : w.heap.size = RB at *
  generalize hRU : w3.heap.size = RU at *
  obtain rfl | rfl | rfl | rfl | rfl : v = 0 ∨ v = 1 ∨ v = 2 ∨ v = 3 ∨ v = 4 := by omega
  · go_wp2_with fail
    refine (pick_any B R a len cap (k + 2) 4 _ (HD.out 0).rd (by omega) (by omega) (by omega)).mono ?_
    rintro e w5 ⟨v5, rfl, p0, p1, hR5, hK5⟩
    have p2 := p1 (by omega)
    have D5 := Lib.hid ((HD.out 0).keeps hR5 hK5)
    clear hR5 hK5 p1
    have hwr : IntKind.i64.wrap (v5) = v5 := IntWalk.i64_in _ (by omega)
    have D6 := Lib.hid (D5.out.set3 (v5))
    obtain ⟨⟨y0, y1, y2, y3⟩, f0, f1, f2, f3⟩ := D5.out.cells
    go_wp2_with fail
    clear y0 y1 y2 y3 f0 f1 f2 f3 D5
    refine (odd0_any R _).mono ?_
    rintro e w7 ⟨rfl, rfl⟩
    have D7 := D6
    clear D6
    obtain ⟨⟨y0, y1, y2, y3⟩, f0, f1, f2, f3⟩ := D7.out.cells
    obtain ⟨⟨z0, z1, z2, z3⟩, g0, g1, g2, g3⟩ := D7.out.cellsB
    have hq1 : RB ≠ RU := D7.out.ne
    have hq2 : RU ≠ RB := Ne.symm hq1
    have FI := Lib.hid (fun W hW => D7.out.fin (W := W) hW)
    go_wp2
    obtain ⟨r0, r1, r2, r3, r4, r5⟩ := FI.out _ rfl
    refine bodyPost_ret (v := .agg #[.int .i64 0, .string s3, .string ⟨#[]⟩, .int .i64 (v5)]) ?_ rfl ⟨0, s3, ⟨#[]⟩, (v5), rfl, by omega, by omega, hsz3, Nat.zero_le _, by omega, by omega, k + 3, by omega, by omega, r4, r5⟩
    simp [results, Try.results144, go_sem, r0, r1, r2, r3]
  · go_wp2_with fail
    refine (pick_any B R a len cap (k + 2) 2 _ (HD.out 1).rd (by omega) (by omega) (by omega)).mono ?_
    rintro e w5 ⟨v5, rfl, p0, p1, hR5, hK5⟩
    have p2 := p1 (by omega)
    have D5 := Lib.hid ((HD.out 1).keeps hR5 hK5)
    clear hR5 hK5 p1
    have hwr : IntKind.i64.wrap (2 + v5) = 2 + v5 := IntWalk.i64_in _ (by omega)
    have D6 := Lib.hid (D5.out.set3 (2 + v5))
    obtain ⟨⟨y0, y1, y2, y3⟩, f0, f1, f2, f3⟩ := D5.out.cells
    go_wp2_with fail
    clear y0 y1 y2 y3 f0 f1 f2 f3 D5
    refine (odd0_any R _).mono ?_
    rintro e w7 ⟨rfl, rfl⟩
    have D7 := D6
    clear D6
    obtain ⟨⟨y0, y1, y2, y3⟩, f0, f1, f2, f3⟩ := D7.out.cells
    obtain ⟨⟨z0, z1, z2, z3⟩, g0, g1, g2, g3⟩ := D7.out.cellsB
    have hq1 : RB ≠ RU := D7.out.ne
    have hq2 : RU ≠ RB := Ne.symm hq1
    have FI := Lib.hid (fun W hW => D7.out.fin (W := W) hW)
    go_wp2
    obtain ⟨r0, r1, r2, r3, r4, r5⟩ := FI.out _ rfl
    refine bodyPost_ret (v := .agg #[.int .i64 1, .string s3, .string ⟨#[]⟩, .int .i64 (2 + v5)]) ?_ rfl ⟨1, s3, ⟨#[]⟩, (2 + v5), rfl, by omega, by omega, hsz3, Nat.zero_le _, by omega, by omega, k + 3, by omega, by omega, r4, r5⟩
    simp [results, Try.results144, go_sem, r0, r1, r2, r3]
  · go_wp2_with fail
    have DA := Lib.hid ((HD.out 2).alloc (.cells #[.string ⟨#[114]⟩, .string ⟨#[100]⟩, .string ⟨#[110]⟩] 9))
    refine (pick_any B R a len cap (k + 2) 3 _ DA.out.rd (by omega) (by omega) (by omega)).mono ?_
    rintro e w5 ⟨v5, rfl, p0, p1, hR5, hK5⟩
    obtain ⟨j5, s5, rfl, hj5, hs5, hc5⟩ := three_cells _ _ _ _ _ _ R (HD.out 2).rd.hR hK5 v5 p0 (p1 (by omega))
    rw [World.size_alloc, hRU] at hc5
    have hsz5 : s5.size ≤ 1 := by rcases hs5 with rfl | rfl | rfl <;> simp [ByteArray.size]
    have D5 := Lib.hid (DA.out.keeps hR5 hK5)
    clear hR5 hK5 p1 DA hs5
    have D6 := Lib.hid (D5.out.set2 s5)
    obtain ⟨⟨y0, y1, y2, y3⟩, f0, f1, f2, f3⟩ := D5.out.cells
    go_wp2_with fail
    clear y0 y1 y2 y3 f0 f1 f2 f3 D5
    refine (odd0_any R _).mono ?_
    rintro e w7 ⟨rfl, rfl⟩
    have D7 := D6
    clear D6
    obtain ⟨⟨y0, y1, y2, y3⟩, f0, f1, f2, f3⟩ := D7.out.cells
    obtain ⟨⟨z0, z1, z2, z3⟩, g0, g1, g2, g3⟩ := D7.out.cellsB
    have hq1 : RB ≠ RU := D7.out.ne
    have hq2 : RU ≠ RB := Ne.symm hq1
    have FI := Lib.hid (fun W hW => D7.out.fin (W := W) hW)
    go_wp2
    obtain ⟨r0, r1, r2, r3, r4, r5⟩ := FI.out _ rfl
    refine bodyPost_ret (v := .agg #[.int .i64 2, .string s3, .string s5, .int .i64 0]) ?_ rfl ⟨2, s3, s5, 0, rfl, by omega, by omega, hsz3, hsz5, by omega, by omega, k + 3, by omega, by omega, r4, r5⟩
    simp [results, Try.results144, go_sem, r0, r1, r2, r3]
  · go_wp2_with fail
    refine (pick_any B R a len cap (k + 2) 5 _ (HD.out 3).rd (by omega) (by omega) (by omega)).mono ?_
    rintro e w5 ⟨v5, rfl, p0, p1, hR5, hK5⟩
    have p2 := p1 (by omega)
    have D5 := Lib.hid ((HD.out 3).keeps hR5 hK5)
    clear hR5 hK5 p1
    have hwr : IntKind.i64.wrap (v5) = v5 := IntWalk.i64_in _ (by omega)
    have D6 := Lib.hid (D5.out.set3 (v5))
    obtain ⟨⟨y0, y1, y2, y3⟩, f0, f1, f2, f3⟩ := D5.out.cells
    go_wp2_with fail
    clear y0 y1 y2 y3 f0 f1 f2 f3 D5
    refine (odd0_any R _).mono ?_
    rintro e w7 ⟨rfl, rfl⟩
    have D7 := D6
    clear D6
    obtain ⟨⟨y0, y1, y2, y3⟩, f0, f1, f2, f3⟩ := D7.out.cells
    obtain ⟨⟨z0, z1, z2, z3⟩, g0, g1, g2, g3⟩ := D7.out.cellsB
    have hq1 : RB ≠ RU := D7.out.ne
    have hq2 : RU ≠ RB := Ne.symm hq1
    have FI := Lib.hid (fun W hW => D7.out.fin (W := W) hW)
    go_wp2
    obtain ⟨r0, r1, r2, r3, r4, r5⟩ := FI.out _ rfl
    refine bodyPost_ret (v := .agg #[.int .i64 3, .string s3, .string ⟨#[]⟩, .int .i64 (v5)]) ?_ rfl ⟨3, s3, ⟨#[]⟩, (v5), rfl, by omega, by omega, hsz3, Nat.zero_le _, by omega, by omega, k + 3, by omega, by omega, r4, r5⟩
    simp [results, Try.results144, go_sem, r0, r1, r2, r3]
  · go_wp2_with fail
    refine (pick_any B R a len cap (k + 2) 3 _ (HD.out 4).rd (by omega) (by omega) (by omega)).mono ?_
    rintro e w5 ⟨v5, rfl, p0, p1, hR5, hK5⟩
    have p2 := p1 (by omega)
    have D5 := Lib.hid ((HD.out 4).keeps hR5 hK5)
    clear hR5 hK5 p1
    have hwr : IntKind.i64.wrap (1 + v5) = 1 + v5 := IntWalk.i64_in _ (by omega)
    have D6 := Lib.hid (D5.out.set3 (1 + v5))
    obtain ⟨⟨y0, y1, y2, y3⟩, f0, f1, f2, f3⟩ := D5.out.cells
    go_wp2_with fail
    clear y0 y1 y2 y3 f0 f1 f2 f3 D5
    refine (odd0_any R _).mono ?_
    rintro e w7 ⟨rfl, rfl⟩
    have D7 := D6
    clear D6
    obtain ⟨⟨y0, y1, y2, y3⟩, f0, f1, f2, f3⟩ := D7.out.cells
    obtain ⟨⟨z0, z1, z2, z3⟩, g0, g1, g2, g3⟩ := D7.out.cellsB
    have hq1 : RB ≠ RU := D7.out.ne
    have hq2 : RU ≠ RB := Ne.symm hq1
    have FI := Lib.hid (fun W hW => D7.out.fin (W := W) hW)
    go_wp2
    obtain ⟨r0, r1, r2, r3, r4, r5⟩ := FI.out _ rfl
    refine bodyPost_ret (v := .agg #[.int .i64 4, .string s3, .string ⟨#[]⟩, .int .i64 (1 + v5)]) ?_ rfl ⟨4, s3, ⟨#[]⟩, (1 + v5), rfl, by omega, by omega, hsz3, Nat.zero_le _, by omega, by omega, k + 3, by omega, by omega, r4, r5⟩
    simp [results, Try.results144, go_sem, r0, r1, r2, r3]
end Go.Proofs.Ytjdeahdngpccpaa

namespace Go.Proofs.Ytjdeahdngpccpaa
open Go.RowKit

/-- nothing is put behind a row of the call's own -/
theorem run_append_zero {P : Program} {w : World} (base : Nat) (t ty e : TypeId) (i : TypeInfo) (size : Nat) (ht : P.underlying t = some (.slice e)) (hi : P.info? e = some i)
    (v : Value) (n : Nat) (xs : List Value) (hown : w.ownsRow base e size v n xs) (p : Option Addr) (c : Nat) :
    (Builtin.append_ #[t, t] ty #[v, .slice p 0 c]).run P w = .ok v w := by
  rcases hown.2 with ⟨rfl, rfl⟩ | ⟨g, cap, cur, rfl, _, _, hnc, _⟩
  · cases p <;> simp [Builtin.append_, run_underlying ht, sizeOf, typeInfo, hi, Builtin.lenOf, Builtin.firstCells, loadCells, loadCellsFrom, Result.andThen]
  · cases p <;> simp [Builtin.append_, run_underlying ht, sizeOf, typeInfo, hi, Builtin.lenOf, Builtin.firstCells, hnc, storeCells, loadCells, loadCellsFrom, Result.andThen]
theorem wpList_append_zero {P : Program} {w : World} {ops : Array Oper} {rest : List Oper} {o : Oper} {a : Act} {Q : Exit → Act → World → Prop} (hgd : o.guard = none) (s x : Operand) (t : TypeId)
    (ho : o.op = .call { callee := .builtin .append, args := #[s, x], argTypes := #[t, t] })
    (base : Nat) (e : TypeId) (i : TypeInfo) (size : Nat) (ht : P.underlying t = some (.slice e)) (hi : P.info? e = some i)
    (v : Value) (n : Nat) (xs : List Value) (hs : a.eval s = v) (hown : w.ownsRow base e size v n xs) (p : Option Addr) (c : Nat) (hx : a.eval x = .slice p 0 c)
    (h : wpList P ops Q rest (a.put o.dst v) w) : wpList P ops Q (o :: rest) a w := by
  refine wpList_plain hgd fun K hK => ?_
  have hrun := run_append_zero (P := P) (w := w) base t o.type e i size ht hi v n xs hown p c
  unfold Oper.wp
  simp [execOp, ho, resolve, invoke, builtin, hs, hx, hrun, Result.andThen]
  exact hK _ _ h

/-- the cells of marks in memory -/
theorem marks_news {w : World} {b : Nat} {e : TypeId} {g c n : Nat} {xs : List Value} (h : w.ownsRow b e 5 (.slice (some ⟨g, 0, none⟩) n c) n xs) : ∀ j u, xs[j]? = some u → w.cell? ((⟨g, 0, none⟩ : Addr).add j) = some u := by
  intro j u hj
  have hl := h.1
  have hlt : j < xs.length := by
    rcases Nat.lt_or_ge j xs.length with h | h
    · exact h
    · rw [List.getElem?_eq_none h] at hj; cases hj
  have := World.ownsRow.cellAt h j (by omega)
  rw [show (⟨g, 0, none⟩ : Addr).add j = ⟨g, j, none⟩ by unfold Addr.add; split <;> simp_all, this, hj]
theorem row_news {w : World} {b : Nat} {e : TypeId} {g c n : Nat} {xs : List Value} (h : w.ownsRow b e 1 (.slice (some ⟨g, 0, none⟩) n c) n xs) : ∀ j u, xs[j]? = some u → w.cell? ((⟨g, 0, none⟩ : Addr).add j) = some u := by
  intro j u hj
  have hlt : j < xs.length := by
    rcases Nat.lt_or_ge j xs.length with h | h
    · exact h
    · rw [List.getElem?_eq_none h] at hj; cases hj
  have := World.ownsRow.cellAt h j (by have := h.1; omega)
  rw [show (⟨g, 0, none⟩ : Addr).add j = ⟨g, j, none⟩ by unfold Addr.add; split <;> simp_all, this, hj]
theorem cellsM_one (ms : List Mk) : ∀ u ∈ cellsM ms, u.oneCell' = true := by
  induction ms with
  | nil => intro u h; cases h
  | cons m ms ih =>
    intro u h
    rw [cellsM, List.mem_append] at h
    rcases h with h | h
    · simp only [Mk.cells, List.mem_cons, List.not_mem_nil, or_false] at h
      rcases h with rfl | rfl | rfl | rfl | rfl <;> rfl
    · exact ih u h
/-- a block that was just laid, read as a slice -/
theorem new_news (w : World) (cs : Array Value) (t : TypeId) (b : Nat) (hb : b = w.heap.size) : ∀ j u, cs.toList[j]? = some u → (w.alloc (.cells cs t)).cell? ((⟨b, 0, none⟩ : Addr).add j) = some u := by
  subst hb
  intro j u hj
  rw [show (⟨w.heap.size, 0, none⟩ : Addr).add j = ⟨w.heap.size, j, none⟩ by unfold Addr.add; split <;> simp_all, World.cell?_alloc_new]
  simpa using hj
theorem infoMarkD : (Try.prog.info? 108).map (fun i => (i.zero, i.size, i.bytes)) = some (some (.agg #[.int .i64 0, .int .i64 0, .string ⟨#[]⟩, .string ⟨#[]⟩, .int .i64 0]), 5, 56) := by kernel_rfl
theorem infoMarkS : (Try.prog.info? 60).map (fun i => (i.zero, i.size, i.bytes)) = some (some (.slice none 0 0), 1, 24) := by kernel_rfl
end Go.Proofs.Ytjdeahdngpccpaa

namespace Go.Proofs.Ytjdeahdngpccpaa
open Go.RowKit

/-- the row of the parts -/
def outT (ov : Value) (ps : List (Value × List Mk)) : Thing := rowT 60 1 ov ps.length (ps.map Prod.fst)
/-- a part -/
def innM (p : Value × List Mk) : Thing := rowT 108 5 p.1 p.2.length (cellsM p.2)
/-- all marks -/
def totM (ps : List (Value × List Mk)) : Nat := (ps.map fun p => p.2.length).sum
/-- parts that are being put together -/
structure PartsOk (ps : List (Value × List Mk)) (left : Nat) : Prop where
  n1 : 1 ≤ ps.length
  n3 : ps.length ≤ 3
  tot : totM ps + left + ps.length ≤ 8
  one : ∀ p ∈ ps, 1 ≤ p.2.length
  wf : ∀ p ∈ ps, ∀ m ∈ p.2, m.wf
/-- the length of a slice -/
def lenV : Value → Nat
  | .slice _ n _ => n
  | _ => 0
theorem lenV_slice (p : Option Addr) (n c : Nat) : lenV (.slice p n c) = n := rfl
/-- what drawing a term leaves -/
def TermDrawn (B R : Nat) (a : Option Addr) (len cap k : Nat) (w : World) (e : Ending) (w' : World) : Prop :=
  ∃ (ms : List Mk) (v : Value) (k' : Nat), e = .returned v ∧ ms.length ≤ 10 ∧ (∀ m ∈ ms, m.wf) ∧ k ≤ k' ∧ k' ≤ k + 100 ∧ OwR B R a len cap w k' [rowT 108 5 v ms.length (cellsM ms)] w'
theorem markOf_wf (k : Int) (h0 : 0 ≤ k) (h1 : k ≤ 3) : (markOf k).wf := by
  refine ⟨?_, (show (Lit.int .i64 0).wf = true by decide), Nat.zero_le _, Nat.zero_le _, (show (Lit.int .i64 0).wf = true by decide)⟩
  obtain rfl | rfl | rfl | rfl : k = 0 ∨ k = 1 ∨ k = 2 ∨ k = 3 := by omega
  all_goals decide
theorem rule_wf {kind many : Int} {letter thn : ByteArray} (p1 : 0 ≤ kind) (p2 : kind ≤ 5) (p3 : letter.size = 1) (p4 : thn.size ≤ 1) (p5 : -1 ≤ many) (p6 : many ≤ 6) : (Mk.mk 0 ⟨kind, letter, thn, many⟩).wf := by
  refine ⟨(show (Lit.int .i64 0).wf = true by decide), ?_, by show letter.size ≤ _; unfold maxLen; omega, by show thn.size ≤ _; unfold maxLen; omega, ?_⟩
  · show (Lit.int .i64 kind).wf = true
    exact WalkArith.wf_i64 (by omega)
  · show (Lit.int .i64 many).wf = true
    exact WalkArith.wf_i64 (by omega)
theorem OwR.start1 {B R : Nat} {a : Option Addr} {len cap k : Nat} {w : World} (h : RdAt B R a len cap k w) (t : TypeId) (cs : Array Value) (n sz : Nat) (hs : cs.size = n * sz) (hm : n ≤ maxLen) : OwR B R a len cap w k [rowT t sz (.slice (some ⟨w.heap.size, 0, none⟩) n n) n cs.toList] (w.alloc (.cells cs t)) := (OwR.start h).lit cs t n sz hs hm
section
variable {B R : Nat} {a : Option Addr} {len cap : Nat} {w0 : World} {k : Nat} {ov : Value} {ps : List (Value × List Mk)} {w w1 : World}
/-- a part more -/
theorem OwR.part {p : Value × List Mk} {g cp : Nat} {tt : TypeId} (h : OwR B R a len cap w0 k (innM p :: outT ov ps :: ps.map innM) w) (hg : (w.alloc (.cells #[p.1] tt)).grownBy w1 ov.ownBlock)
    (ho : w1.ownsRow 0 60 1 (.slice (some ⟨g, 0, none⟩) (ps.length + 1) cp) (ps.length + 1) (ps.map Prod.fst ++ [p.1])) (hat : ov.ownBlock = some g ∨ g = (w.alloc (.cells #[p.1] tt)).heap.size) :
    OwR B R a len cap w0 k (outT (.slice (some ⟨g, 0, none⟩) (ps.length + 1) cp) (ps ++ [p]) :: (ps ++ [p]).map innM) w1 := by
  have h1 := (h.alloc (.cells #[p.1] tt)).turn (i := 1) (by simp) rfl hg ho hat
  have e : outT (.slice (some ⟨g, 0, none⟩) (ps.length + 1) cp) (ps ++ [p]) = rowT 60 1 (.slice (some ⟨g, 0, none⟩) (ps.length + 1) cp) (ps.length + 1) (ps.map Prod.fst ++ [p.1]) := by
    rw [outT, List.length_append, List.map_append]; rfl
  rw [e, List.map_append]
  refine h1.perm ?_
  show (innM p :: rowT 60 1 _ _ _ :: ps.map innM).Perm _
  exact (List.Perm.swap _ _ _).trans (List.Perm.cons _ (List.perm_append_singleton _ _).symm)
end
theorem PartsOk.not {ps qs : List (Value × List Mk)} {p : Value × List Mk} {v : Value} {left : Nat} (h : PartsOk (ps ++ p :: qs) (left + 1)) : PartsOk (ps ++ (v, p.2 ++ [markOf 3]) :: qs) left := by
  refine ⟨by simp; omega, by have := h.n3; simpa using this, ?_, ?_, ?_⟩
  · have := h.tot
    simp [totM] at this ⊢
    omega
  · intro q hq
    rcases List.mem_append.1 hq with g | g
    · exact h.one q (List.mem_append.2 (.inl g))
    · rcases List.mem_cons.1 g with rfl | g
      · simp
      · exact h.one q (List.mem_append.2 (.inr (List.mem_cons_of_mem _ g)))
  · intro q hq
    rcases List.mem_append.1 hq with g | g
    · exact h.wf q (List.mem_append.2 (.inl g))
    · rcases List.mem_cons.1 g with rfl | g
      · intro m hm
        rcases List.mem_append.1 hm with f | f
        · exact h.wf p (List.mem_append.2 (.inr List.mem_cons_self)) m f
        · rw [List.mem_singleton] at f; subst f; exact markOf_wf 3 (by omega) (by omega)
      · exact h.wf q (List.mem_append.2 (.inr (List.mem_cons_of_mem _ g)))
theorem PartsOk.join {ps qs : List (Value × List Mk)} {p r : Value × List Mk} {v : Value} {left : Nat} {k : Int} (k0 : 0 ≤ k) (k3 : k ≤ 3) (h : PartsOk (ps ++ p :: r :: qs) left) : PartsOk (ps ++ (v, p.2 ++ r.2 ++ [markOf k]) :: qs) left := by
  refine ⟨by simp; omega, by have := h.n3; simp at this ⊢; omega, ?_, ?_, ?_⟩
  · have := h.tot
    simp [totM] at this ⊢
    omega
  · intro q hq
    rcases List.mem_append.1 hq with g | g
    · exact h.one q (List.mem_append.2 (.inl g))
    · rcases List.mem_cons.1 g with rfl | g
      · simp; omega
      · exact h.one q (List.mem_append.2 (.inr (List.mem_cons_of_mem _ (List.mem_cons_of_mem _ g))))
  · intro q hq
    rcases List.mem_append.1 hq with g | g
    · exact h.wf q (List.mem_append.2 (.inl g))
    · rcases List.mem_cons.1 g with rfl | g
      · intro m hm
        rcases List.mem_append.1 hm with f | f
        · rcases List.mem_append.1 f with f | f
          · exact h.wf p (List.mem_append.2 (.inr List.mem_cons_self)) m f
          · exact h.wf r (List.mem_append.2 (.inr (List.mem_cons_of_mem _ List.mem_cons_self))) m f
        · rw [List.mem_singleton] at f; subst f; exact markOf_wf k k0 k3
      · exact h.wf q (List.mem_append.2 (.inr (List.mem_cons_of_mem _ (List.mem_cons_of_mem _ g))))
theorem le_tot {ps : List (Value × List Mk)} {p : Value × List Mk} (hp : p ∈ ps) : p.2.length ≤ totM ps := by
  induction ps with
  | nil => cases hp
  | cons q qs ih =>
    rw [totM, List.map_cons, List.sum_cons]
    rcases List.mem_cons.1 hp with rfl | h
    · omega
    · have := ih h
      rw [totM] at this; omega
theorem PartsOk.le {ps : List (Value × List Mk)} {left : Nat} (h : PartsOk ps left) (p : Value × List Mk) (hp : p ∈ ps) : 1 ≤ p.2.length ∧ p.2.length ≤ 7 := by
  refine ⟨h.one p hp, ?_⟩
  have h1 : p.2.length ≤ totM ps := by
    exact le_tot hp
  have h2 := h.tot
  have h3 := h.n1
  omega
section
variable {B R : Nat} {a : Option Addr} {len cap : Nat} {w0 : World} {k : Nat} {ts : List Thing} {w : World}
theorem OwR.formM (h : OwR B R a len cap w0 k ts w) (i : Nat) (hi : i < ts.length) {p : Value × List Mk} (he : ts[i] = innM p) (hn : 1 ≤ p.2.length) : ∃ g c, p.1 = .slice (some ⟨g, 0, none⟩) p.2.length c := by
  have hr := h.row i hi he
  rcases hr.2 with ⟨_, hz⟩ | ⟨g, cap, cur, e, _⟩
  · omega
  · exact ⟨g, cap, e⟩
theorem OwR.formO (h : OwR B R a len cap w0 k ts w) (i : Nat) (hi : i < ts.length) {oa : Option Addr} {n c : Nat} {e : TypeId} {xs : List Value} (he : ts[i] = rowT e 1 (.slice oa n c) n xs) (hn : 1 ≤ n) : ∃ g, oa = some ⟨g, 0, none⟩ ∧ n ≤ c ∧ c ≤ maxLen ∧ R < g ∧ g < w.heap.size := by
  have hr := h.row i hi he
  have hlt := h.ap.ltAt i hi
  have hR := h.hR
  rcases hr.2 with ⟨e1, hz⟩ | ⟨g, cap, cur, e1, _, hg, h1, h2, _⟩
  · omega
  · simp only [Value.slice.injEq, true_and] at e1
    obtain ⟨rfl, rfl⟩ := e1
    have hb := hlt g (by rw [he]; rfl)
    exact ⟨g, rfl, h1, h2, by omega, hb.2⟩
/-- what a row of one-cell elements holds, read in whatever world the row is owned in -/
theorem OwR.cell (h : OwR B R a len cap w0 k ts w) (i : Nat) (hi : i < ts.length) {g n c : Nat} {e : TypeId} {xs : List Value} (he : ts[i] = rowT e 1 (.slice (some ⟨g, 0, none⟩) n c) n xs) (j : Nat) (hj : j < n) : w.cell? ⟨g, j, none⟩ = xs[j]? ∧ w.frozen? ⟨g, j, none⟩ = false :=
  have hr := h.row i hi he
  ⟨World.ownsRow.cellAt hr j (by omega), World.ownsRow.frozenAt hr j⟩
end
theorem seg_news {w : World} {b : Nat} {e : TypeId} {g c n : Nat} {xs : List Value} (h : w.ownsRow b e 1 (.slice (some ⟨g, 0, none⟩) n c) n xs) (k : Nat) (x : Value) (hx : xs[k]? = some x) : ∀ j u, [x][j]? = some u → w.cell? ((⟨g, k, none⟩ : Addr).add j) = some u := by
  intro j u hj
  cases j with
  | zero =>
    simp only [List.getElem?_cons_zero, Option.some.injEq] at hj
    subst hj
    have hlt : k < xs.length := by
      rcases Nat.lt_or_ge k xs.length with h | h
      · exact h
      · rw [List.getElem?_eq_none h] at hx; cases hx
    have := World.ownsRow.cellAt h k (by have := h.1; omega)
    rw [hx] at this
    exact this
  | succ j => simp at hj
theorem mark_kind (v : Int) (h0 : 0 ≤ v) (h3 : v < 3) : ∃ kd, IntKind.i64.wrap (1 + IntKind.i64.wrap (v.tdiv 2)) = kd ∧ 0 ≤ kd ∧ kd ≤ 3 := by
  obtain rfl | rfl | rfl : v = 0 ∨ v = 1 ∨ v = 2 := by omega
  all_goals exact ⟨_, rfl, by decide, by decide⟩
theorem innM_snoc (v : Value) (ms : List Mk) (m : Mk) (n : Nat) (h : n = ms.length + 1) : innM (v, ms ++ [m]) = rowT 108 5 v n (cellsM (ms ++ [m])) := by
  subst h
  rw [innM]; simp only [List.length_append, List.length_singleton]
theorem cellsM_snoc (ms : List Mk) (m : Mk) : cellsM (ms ++ [m]) = cellsM ms ++ m.cells := by rw [cellsM_append]; simp [cellsM]
end Go.Proofs.Ytjdeahdngpccpaa

namespace Go.Proofs.Ytjdeahdngpccpaa
open Go.RowKit

theorem oddN_any (B R : Nat) (a : Option Addr) (len cap k : Nat) (n : Int) (w : World) (H : RdAt B R a len cap k w) (hk : k ≤ 900000) (hn : 0 ≤ n) (hn2 : n ≤ 1000) :
    Calls Try.prog 116 #[.pointer (some ⟨R, 0, none⟩), .int .i64 n] w fun e w' => ∃ b : Bool, e = .returned (.bool b) ∧ ∃ k', k ≤ k' ∧ k' ≤ k + 1 ∧ RdAt B R a len cap k' w' ∧ KeepsBut R w w' := by
  by_cases h : n = 0
  · subst h
    refine (odd0_any R w).mono ?_
    rintro e w' ⟨rfl, rfl⟩
    exact ⟨false, rfl, k, Nat.le_refl _, Nat.le_succ _, H, KeepsBut.refl _ _⟩
  · refine (odd_any B R a len cap k n w H (by omega) (by omega) (by omega)).mono ?_
    rintro e w' ⟨b, rfl, h1, h2⟩
    exact ⟨b, rfl, k + 1, Nat.le_succ _, Nat.le_refl _, h1, h2⟩

set_option maxHeartbeats 12000000 in
set_option maxRecDepth 100000 in
theorem l20Term_any (B R : Nat) (a : Option Addr) (len cap k : Nat) (n : Int) (w : World) (H : RdAt B R a len cap k w) (hk : k ≤ 800000) (hn : 0 ≤ n) (hn2 : n ≤ 1000) :
    Calls Try.prog 126 #[.pointer (some ⟨R, 0, none⟩), .int .i64 n] w (TermDrawn B R a len cap k w) := by
  obtain ⟨i0, hi, hz0, hz1, hz2⟩ := info_parts infoMarkD
  obtain ⟨s0, hs, hy0, hy1, hy2⟩ := info_parts infoMarkS
  have HI := Lib.hid (And.intro hi (And.intro hz0 (And.intro hz1 hz2)))
  have HS := Lib.hid (And.intro hs (And.intro hy0 (And.intro hy1 hy2)))
  clear hi hz0 hz1 hz2 hs hy0 hy1 hy2
  have O0 := Lib.hid (OwR.start1 H 60 #[] 0 1 rfl (Nat.zero_le _))
  have HRW := Lib.hid H.hR
  clear H
  go_enter Try.func126, Try.ntmps126
  go_wp2_with fail
  refine (pick_any B R a len cap k 3 _ O0.out.rd (by omega) (by omega) (by omega)).mono ?_
  rintro e w2 ⟨v, rfl, hv0, hv1, hR2, hK2⟩
  have hv3 := hv1 (by omega)
  have O1 := Lib.hid (O0.out.picked hR2 hK2)
  clear hv1 hR2 hK2 O0
  generalize hB0 : w.heap.size = B0 at *
  have HB0 := Lib.hid hB0
  clear hB0
  go_wp2_with fail
  go_loopw [5, 6] (fun ov rv wr => ∃ (ps : List (Value × List Mk)) (rm : Nat) (ri : Int) (k' : Nat), ri = (rm : Int) ∧ rv = .int .i64 ri ∧ 1 ≤ ps.length + rm ∧ ps.length + rm ≤ 3 ∧ totM ps = ps.length ∧ (∀ p ∈ ps, 1 ≤ p.2.length) ∧ (∀ p ∈ ps, ∀ m ∈ p.2, m.wf) ∧ k' ≤ k + 1 + 10 * ps.length ∧ k ≤ k' ∧ OwR B R a len cap w k' (outT ov ps :: ps.map innM) wr) (fun _ rv _ => (intOf rv).toNat)
  case atStart => exact ⟨[], (1 + v).toNat, 1 + v, k + 1, by omega, rfl, by simp; omega, by simp; omega, rfl, by simp, by simp, by simp, by omega, O1.out⟩
  case round =>
    obtain ⟨ps, rm, ri, k1, hri, rfl, hp1, hp3, htot, hone, hwf, hk1, hk2, hO⟩ := hrel
    have O2 := Lib.hid hO
    have HRI := Lib.hid hri
    have HALL := Lib.hid (And.intro htot (And.intro hone hwf))
    have HNP := Lib.hid (And.intro hp1 (And.intro hp3 (And.intro hk1 hk2)))
    obtain ⟨oa, oc, rfl⟩ := ownsRow_sliceD (hO.row 0 (by simp) rfl)
    clear hO htot hone hwf O1
    by_cases hlt : 0 < rm
    · have hltI : 0 < ri := by omega
      have hq : IntKind.i64.wrap (ri - 1) = ri - 1 := IntWalk.i64_in _ (by omega)
      have hpl : ps.length ≤ 3 := by omega
      clear hri hp1
      go_wp2_with fail
      refine (l20Rule0_any B R a len cap k1 wr O2.out.rd (by omega)).mono ?_
      rintro e w3 ⟨kind, letter, thn, many, rfl, p1, p2, p3, p4, p5, p6, k3, hk3, hk4, hR3, hK3⟩
      have O3 := Lib.hid (O2.out.picked hR3 hK3)
      generalize hmk : Mk.mk 0 ⟨kind, letter, thn, many⟩ = mk at *
      have O4 : Hid (OwR B R a len cap w k3 (innM (.slice (some ⟨w3.heap.size, 0, none⟩) 1 1, [Mk.mk 0 ⟨kind, letter, thn, many⟩]) :: outT (.slice oa ps.length oc) ps :: ps.map innM) (w3.alloc (.cells #[.int .i64 0, .int .i64 kind, .string letter, .string thn, .int .i64 many] 108))) := Lib.hid (O3.out.lit #[.int .i64 0, .int .i64 kind, .string letter, .string thn, .int .i64 many] 108 1 5 rfl (by unfold maxLen; omega))
      have HWF := Lib.hid (rule_wf p1 p2 p3 p4 p5 p6)
      clear hR3 hK3 p1 p2 p3 p4 p5 p6 hmk
      go_wp2_with (at_builtin; refine wpList_append_lies _ rfl _ _ 141 rfl 0 60 s0 (.slice none 0 0) 1 24 Try.underlying141 HS.out.1 HS.out.2.1 HS.out.2.2.1 HS.out.2.2.2 rfl (by decide) (.slice oa ps.length oc) ps.length (ps.map Prod.fst) rfl ((O4.out.row 1 (by simp) rfl).alloc _) ⟨w3.heap.size + 1, 0, none⟩ 1 1 [.slice (some ⟨w3.heap.size, 0, none⟩) 1 1] rfl rfl (new_news _ #[.slice (some ⟨w3.heap.size, 0, none⟩) 1 1] _ _ (by simp)) (by simp [Value.oneCell']) (by omega) (by unfold maxLen; omega) (by omega) (Nat.zero_le _) _ rfl ?_; intro g9 cp w6 hown hgrow hat hlt3; have O5 := Lib.hid (O4.out.part hgrow hown hat); clear hown hgrow hat hlt3)
      go_roundw
      case rel =>
        refine ⟨ps ++ [_], rm - 1, ri - 1, k3, by have := HRI.out; omega, by first | rfl | rw [hq], ?_, ?_, ?_, ?_, ?_, ?_, ?_, O5.out⟩
        · rw [List.length_append, List.length_singleton]; have := HNP.out.1; omega
        · rw [List.length_append, List.length_singleton]; have := HNP.out.2.1; omega
        · rw [List.length_append, List.length_singleton, totM, List.map_append, List.sum_append]
          have := HALL.out.1
          rw [totM] at this
          simp [this]
        · intro q hq2
          rcases List.mem_append.1 hq2 with h | h
          · exact HALL.out.2.1 q h
          · rw [List.mem_singleton] at h; subst h; exact Nat.le_refl _
        · intro q hq2
          rcases List.mem_append.1 hq2 with h | h
          · exact HALL.out.2.2 q h
          · rw [List.mem_singleton] at h; subst h
            intro m hm
            rw [List.mem_singleton] at hm; subst hm
            exact HWF.out
        · rw [List.length_append, List.length_singleton]; have := HNP.out.2.2.1; omega
        · have := HNP.out.2.2.2; omega
      case measure => simp [intOf]; omega
    · skip
      have hrm : rm = 0 := by omega
      have hnlt : ¬ 0 < ri := by omega
      have HPO := Lib.hid (show PartsOk ps 2 from ⟨by omega, by omega, by have := HALL.out.1; omega, HALL.out.2.1, HALL.out.2.2⟩)
      have HKB := Lib.hid (show k1 + 10 * (2 + ps.length) ≤ k + 81 ∧ k ≤ k1 by have := HNP.out.2.2.1; have := HNP.out.2.2.2; omega)
      clear hri hp1 hp3 hk1 hk2 hlt HALL HNP hrm
      go_wp2_with fail
      clear hnlt
      go_loopw [5, 7, 8, 9, 10] (fun ov lv _ _ _ wr => ∃ (ps : List (Value × List Mk)) (left : Nat) (li : Int) (k' : Nat), li = (left : Int) ∧ lv = .int .i64 li ∧ left ≤ 2 ∧ PartsOk ps left ∧ k' + 10 * (left + ps.length) ≤ k + 81 ∧ k ≤ k' ∧ OwR B R a len cap w k' (outT ov ps :: ps.map innM) wr) (fun ov lv _ _ _ _ => lenV ov + (intOf lv).toNat)
      case atStart => exact ⟨ps, 2, 2, k1, rfl, rfl, Nat.le_refl _, HPO.out, HKB.out.1, HKB.out.2, O2.out⟩
      case round =>
        clear HPO HKB O2
        obtain ⟨ps, left, li, k2, hli, rfl, hl2, hpo, hkb1, hkb2, hO⟩ := hrel
        have HPO := Lib.hid hpo
        have HLI := Lib.hid hli
        have HKB := Lib.hid (And.intro hkb1 hkb2)
        have O2 := Lib.hid hO
        have hn1 := hpo.n1
        have hn3 := hpo.n3
        have hli0 : 0 ≤ li := by omega
        have hli2 : li ≤ 2 := by omega
        have hqL : IntKind.i64.wrap (li - 1) = li - 1 := IntWalk.i64_in _ (by omega)
        obtain ⟨oa, oc, rfl⟩ := ownsRow_sliceD (hO.row 0 (by simp) rfl)
        clear hO hpo hkb1 hkb2 hli
        rcases ps with _ | ⟨⟨v1, m1⟩, _ | ⟨⟨v2, m2⟩, _ | ⟨⟨v3, m3⟩, _ | ⟨p4, rest⟩⟩⟩⟩
        · simp at hn1
        · have HONE := Lib.hid (HPO.out)
          have h1a := HPO.out.le (v1, m1) (by simp)
          obtain ⟨g1, c1, hv1⟩ := O2.out.formM 1 (by simp) (p := (v1, m1)) rfl h1a.1
          simp only at hv1 h1a
          subst hv1
          obtain ⟨go, rfl, hoc1, hoc2, hgR, hgo⟩ := O2.out.formO 0 (by simp) (n := 1) rfl (by omega)
          unfold maxLen at hoc2
          clear hn1 hn3
          have x1 := (O2.out.cell (i := 0) (n := 1) (by simp) rfl 0 (by omega)).1
          simp only [List.map_cons, List.map_nil, List.getElem?_cons_zero] at x1
          replace HKB := Lib.hid (show k2 + 10 * (left + 1) ≤ k + 81 ∧ k ≤ k2 by have h1 := HKB.out.1; have h2 := HKB.out.2; simp at h1; omega)
          have HW1 := Lib.hid (fun m hm => HPO.out.wf (.slice (some ⟨g1, 0, none⟩) m1.length c1, m1) (by simp) m hm)
          have HL1 := Lib.hid h1a
          clear HONE
          go_wp2_with fail
          clear x1
          refine (pick_any B R a len cap k2 6 _ O2.out.rd (by have := HKB.out.1; omega) (by omega) (by omega)).mono ?_
          rintro e w4 ⟨v6, rfl, q0, q1, hR4, hK4⟩
          have O3 := Lib.hid (O2.out.picked hR4 hK4)
          clear q1 hR4 hK4 O2
          by_cases h60 : v6 = 0
          · subst h60
            go_wp2_with (at_builtin; refine wpList_append_lies _ rfl _ _ 60 rfl 0 108 i0 (.agg #[.int .i64 0, .int .i64 0, .string ⟨#[]⟩, .string ⟨#[]⟩, .int .i64 0]) 5 56 Try.underlying60 HI.out.1 HI.out.2.1 HI.out.2.2.1 HI.out.2.2.2 rfl (by decide) (.slice (some ⟨g1, 0, none⟩) m1.length c1) m1.length (cellsM m1) rfl ((O3.out.alloc _).row 1 (by simp) rfl) ⟨w4.heap.size, 0, none⟩ 1 1 (markOf 3).cells rfl rfl (new_news w4 #[.int .i64 3, .int .i64 0, .string ⟨#[]⟩, .string ⟨#[]⟩, .int .i64 0] _ _ rfl) (by intro u hu; exact cellsM_one [markOf 3] u (by simpa [cellsM] using hu)) (by omega) (by unfold maxLen; omega) (by omega) (Nat.zero_le _) _ rfl ?_; intro gT cT wT hown hgrow hat hlt3; rw [← cellsM_snoc] at hown; have O4 := Lib.hid ((O3.out.alloc (.cells #[.int .i64 3, .int .i64 0, .string ⟨#[]⟩, .string ⟨#[]⟩, .int .i64 0] 108)).turn (i := 1) (by simp) rfl hgrow hown hat); clear hown hgrow hat hlt3)
            have HLE := Lib.hid (show (m1.length + 1) = ((m1 ++ [markOf 3])).length from by simp)
            have HWF := Lib.hid (fun m hm => (List.mem_append.1 hm).elim (fun h => HW1.out m h) (fun h => by rw [List.mem_singleton] at h; subst h; exact markOf_wf 3 (by omega) (by omega)) : ∀ m ∈ (m1 ++ [markOf 3]), m.wf)
            have HLL := Lib.hid (by have := HL1.out; omega : 1 ≤ (m1.length + 1) ∧ (m1.length + 1) ≤ 8)
            have hll2 := HLL.out.2
            refine (oddN_any B R a len cap (k2 + 1) n _ O4.out.rd (by have := HKB.out.1; omega) hn (by omega)).mono ?_
            rintro e wo ⟨b, rfl, k5, hk5, hk6, hR5, hK5⟩
            have O5 := Lib.hid (O4.out.picked hR5 hK5)
            clear hR5 hK5
            cases b with
            | false =>
              go_wp2_with fail
              go_ret
              refine ⟨(m1 ++ [markOf 3]), (.slice (some ⟨gT, 0, none⟩) (m1.length + 1) cT), k5, rfl, by have h1 := HLE.out; have h2 := HLL.out.2; omega, HWF.out, by have := HKB.out.2; omega, by have := HKB.out.1; omega, ?_⟩
              have hz := O5.out.sub (us := [rowT 108 5 (.slice (some ⟨gT, 0, none⟩) (m1.length + 1) cT) (m1.length + 1) (cellsM ((m1 ++ [markOf 3])))]) (List.Sublist.cons _ (List.Sublist.cons_cons _ (List.nil_sublist _)))
              rw [HLE.out] at hz ⊢
              exact hz
            | true =>
              go_wp2_with fail
              refine (pick_any B R a len cap k5 3 _ O5.out.rd (by have := HKB.out.1; omega) (by omega) (by omega)).mono ?_
              rintro e wq ⟨v5, rfl, q0, q1, hR6, hK6⟩
              have q2 := q1 (by omega)
              have O6 := Lib.hid (O5.out.picked hR6 hK6)
              clear q1 hR6 hK6 O5
              obtain rfl | rfl | rfl : v5 = 0 ∨ v5 = 1 ∨ v5 = 2 := by omega
              · have O7 := Lib.hid (O6.out.lit #[] 108 0 5 rfl (Nat.zero_le _))
                go_wp2_with fail
                go_ret
                exact ⟨[], _, k5 + 1, rfl, Nat.zero_le _, (fun m hm => by cases hm), by have := HKB.out.2; omega, by have := HKB.out.1; omega, O7.out.sub (List.Sublist.cons_cons _ (List.nil_sublist _))⟩
              · go_wp2_with (at_builtin; refine wpList_append_lies _ rfl _ _ 60 rfl 0 108 i0 (.agg #[.int .i64 0, .int .i64 0, .string ⟨#[]⟩, .string ⟨#[]⟩, .int .i64 0]) 5 56 Try.underlying60 HI.out.1 HI.out.2.1 HI.out.2.2.1 HI.out.2.2.2 rfl (by decide) (.slice (some ⟨gT, 0, none⟩) (m1.length + 1) cT) (m1.length + 1) (cellsM ((m1 ++ [markOf 3]))) rfl ((O6.out.alloc _).row 1 (by simp) rfl) ⟨wq.heap.size, 0, none⟩ 1 1 (markOf 1).cells rfl rfl (new_news wq #[.int .i64 1, .int .i64 0, .string ⟨#[]⟩, .string ⟨#[]⟩, .int .i64 0] _ _ rfl) (by intro u hu; exact cellsM_one [markOf 1] u (by simpa [cellsM] using hu)) (by omega) (by unfold maxLen; omega) (by omega) (Nat.zero_le _) _ rfl ?_; intro gZ cZ wZ hown hgrow hat hlt3; rw [← cellsM_snoc] at hown; have O7 := Lib.hid ((O6.out.alloc (.cells #[.int .i64 1, .int .i64 0, .string ⟨#[]⟩, .string ⟨#[]⟩, .int .i64 0] 108)).turn (i := 1) (by simp) rfl hgrow hown hat); clear hown hgrow hat hlt3)
                go_ret
                refine ⟨(m1 ++ [markOf 3]) ++ [markOf 1], .slice (some ⟨gZ, 0, none⟩) ((m1.length + 1) + 1) cZ, k5 + 1, rfl, by rw [List.length_append, List.length_singleton]; have h1 := HLE.out; have h2 := HLL.out.2; omega, ?_, by have := HKB.out.2; omega, by have := HKB.out.1; omega, ?_⟩
                · intro m hm
                  rcases List.mem_append.1 hm with h | h
                  · exact HWF.out m h
                  · rw [List.mem_singleton] at h; subst h; exact markOf_wf 1 (by omega) (by omega)
                · have hz := O7.out.sub (us := [rowT 108 5 (.slice (some ⟨gZ, 0, none⟩) ((m1.length + 1) + 1) cZ) ((m1.length + 1) + 1) (cellsM ((m1 ++ [markOf 3]) ++ [markOf 1]))]) (List.Sublist.cons _ (List.Sublist.cons_cons _ (List.nil_sublist _)))
                  rw [show ((m1 ++ [markOf 3]) ++ [markOf 1]).length = (m1.length + 1) + 1 by rw [List.length_append, List.length_singleton, ← HLE.out]]
                  exact hz
              · have hrow := O6.out.row 1 (by simp) (n := (m1.length + 1)) (sz := 5) rfl
                have d0 := World.ownsRow.cellAt hrow 0 (by have := HLL.out.1; omega)
                have f0 := World.ownsRow.frozenAt hrow 0
                have d1 := World.ownsRow.cellAt hrow 1 (by have := HLL.out.1; omega)
                have f1 := World.ownsRow.frozenAt hrow 1
                have d2 := World.ownsRow.cellAt hrow 2 (by have := HLL.out.1; omega)
                have f2 := World.ownsRow.frozenAt hrow 2
                have d3 := World.ownsRow.cellAt hrow 3 (by have := HLL.out.1; omega)
                have f3 := World.ownsRow.frozenAt hrow 3
                have d4 := World.ownsRow.cellAt hrow 4 (by have := HLL.out.1; omega)
                have f4 := World.ownsRow.frozenAt hrow 4
                obtain ⟨mz, mzs, hmz⟩ : ∃ mz mzs, (m1 ++ [markOf 3]) = mz :: mzs := by
                  cases hc : (m1 ++ [markOf 3]) with
                  | nil => have h1 := HLE.out; have h2 := HLL.out.1; rw [hc] at h1; simp at h1
                  | cons x y => exact ⟨x, y, rfl⟩
                have HC := Lib.hid (cellsM_set ((m1 ++ [markOf 3])) 0 (by have h1 := HLE.out; have h2 := HLL.out.1; omega) (Mk.mk 0 Ru.void))
                rw [hmz] at d0 d1 d2 d3 d4
                obtain ⟨kz, ⟨rz, lz, tz, nz⟩⟩ := mz
                simp only [cellsM, Mk.cells, List.cons_append, List.getElem?_cons_zero, List.getElem?_cons_succ] at d0 d1 d2 d3 d4
                have S0 := O6.out.store (i := 1) (by simp) (n := (m1.length + 1)) (sz := 5) rfl 0 (.int .i64 0)
                have S1 := S0.store (i := 1) (by simp) (n := (m1.length + 1)) (sz := 5) rfl 1 (.int .i64 0)
                have S2 := S1.store (i := 1) (by simp) (n := (m1.length + 1)) (sz := 5) rfl 2 (.string ⟨#[]⟩)
                have S3 := S2.store (i := 1) (by simp) (n := (m1.length + 1)) (sz := 5) rfl 3 (.string ⟨#[]⟩)
                have S4 := S3.store (i := 1) (by simp) (n := (m1.length + 1)) (sz := 5) rfl 4 (.int .i64 0)
                have S5 := Lib.hid S4
                clear S0 S1 S2 S3 S4 hrow hmz
                go_wp2_with fail
                go_ret
                refine ⟨((m1 ++ [markOf 3])).set 0 (Mk.mk 0 Ru.void), (.slice (some ⟨gT, 0, none⟩) (m1.length + 1) cT), k5 + 1, rfl, by rw [List.length_set]; have h1 := HLE.out; have h2 := HLL.out.2; omega, ?_, by have := HKB.out.2; omega, by have := HKB.out.1; omega, ?_⟩
                · intro m hm
                  rcases List.mem_or_eq_of_mem_set hm with h | h
                  · exact HWF.out m h
                  · subst h; exact markOf_wf 0 (by omega) (by omega)
                · have hz := S5.out.sub (us := [rowT 108 5 (.slice (some ⟨gT, 0, none⟩) (m1.length + 1) cT) (m1.length + 1) (cellsM (((m1 ++ [markOf 3])).set 0 (Mk.mk 0 Ru.void)))]) (by rw [← HC.out]; exact (List.Sublist.cons _ (List.Sublist.cons_cons _ (List.nil_sublist _))))
                  rw [List.length_set, ← HLE.out]
                  exact hz
          · have h6b : (v6 == 0) = false := by simpa using h60
            clear h60
            go_wp2_with fail
            have HWF := Lib.hid (HW1.out : ∀ m ∈ m1, m.wf)
            have HLL := Lib.hid (by have := HL1.out; omega : 1 ≤ m1.length ∧ m1.length ≤ 8)
            have hll2 := HLL.out.2
            refine (oddN_any B R a len cap (k2 + 1) n _ O3.out.rd (by have := HKB.out.1; omega) hn (by omega)).mono ?_
            rintro e wo ⟨b, rfl, k5, hk5, hk6, hR5, hK5⟩
            have O5 := Lib.hid (O3.out.picked hR5 hK5)
            clear hR5 hK5
            cases b with
            | false =>
              go_wp2_with fail
              go_ret
              refine ⟨m1, (.slice (some ⟨g1, 0, none⟩) m1.length c1), k5, rfl, by have h2 := HLL.out.2; omega, HWF.out, by have := HKB.out.2; omega, by have := HKB.out.1; omega, ?_⟩
              have hz := O5.out.sub (us := [rowT 108 5 (.slice (some ⟨g1, 0, none⟩) m1.length c1) m1.length (cellsM (m1))]) (List.Sublist.cons _ (List.Sublist.cons_cons _ (List.nil_sublist _)))
              exact hz
            | true =>
              go_wp2_with fail
              refine (pick_any B R a len cap k5 3 _ O5.out.rd (by have := HKB.out.1; omega) (by omega) (by omega)).mono ?_
              rintro e wq ⟨v5, rfl, q0, q1, hR6, hK6⟩
              have q2 := q1 (by omega)
              have O6 := Lib.hid (O5.out.picked hR6 hK6)
              clear q1 hR6 hK6 O5
              obtain rfl | rfl | rfl : v5 = 0 ∨ v5 = 1 ∨ v5 = 2 := by omega
              · have O7 := Lib.hid (O6.out.lit #[] 108 0 5 rfl (Nat.zero_le _))
                go_wp2_with fail
                go_ret
                exact ⟨[], _, k5 + 1, rfl, Nat.zero_le _, (fun m hm => by cases hm), by have := HKB.out.2; omega, by have := HKB.out.1; omega, O7.out.sub (List.Sublist.cons_cons _ (List.nil_sublist _))⟩
              · go_wp2_with (at_builtin; refine wpList_append_lies _ rfl _ _ 60 rfl 0 108 i0 (.agg #[.int .i64 0, .int .i64 0, .string ⟨#[]⟩, .string ⟨#[]⟩, .int .i64 0]) 5 56 Try.underlying60 HI.out.1 HI.out.2.1 HI.out.2.2.1 HI.out.2.2.2 rfl (by decide) (.slice (some ⟨g1, 0, none⟩) m1.length c1) m1.length (cellsM (m1)) rfl ((O6.out.alloc _).row 1 (by simp) rfl) ⟨wq.heap.size, 0, none⟩ 1 1 (markOf 1).cells rfl rfl (new_news wq #[.int .i64 1, .int .i64 0, .string ⟨#[]⟩, .string ⟨#[]⟩, .int .i64 0] _ _ rfl) (by intro u hu; exact cellsM_one [markOf 1] u (by simpa [cellsM] using hu)) (by omega) (by unfold maxLen; omega) (by omega) (Nat.zero_le _) _ rfl ?_; intro gZ cZ wZ hown hgrow hat hlt3; rw [← cellsM_snoc] at hown; have O7 := Lib.hid ((O6.out.alloc (.cells #[.int .i64 1, .int .i64 0, .string ⟨#[]⟩, .string ⟨#[]⟩, .int .i64 0] 108)).turn (i := 1) (by simp) rfl hgrow hown hat); clear hown hgrow hat hlt3)
                go_ret
                refine ⟨m1 ++ [markOf 1], .slice (some ⟨gZ, 0, none⟩) (m1.length + 1) cZ, k5 + 1, rfl, by rw [List.length_append, List.length_singleton]; have h2 := HLL.out.2; omega, ?_, by have := HKB.out.2; omega, by have := HKB.out.1; omega, ?_⟩
                · intro m hm
                  rcases List.mem_append.1 hm with h | h
                  · exact HWF.out m h
                  · rw [List.mem_singleton] at h; subst h; exact markOf_wf 1 (by omega) (by omega)
                · have hz := O7.out.sub (us := [rowT 108 5 (.slice (some ⟨gZ, 0, none⟩) (m1.length + 1) cZ) (m1.length + 1) (cellsM (m1 ++ [markOf 1]))]) (List.Sublist.cons _ (List.Sublist.cons_cons _ (List.nil_sublist _)))
                  rw [show (m1 ++ [markOf 1]).length = m1.length + 1 by rw [List.length_append, List.length_singleton]]
                  exact hz
              · have hrow := O6.out.row 1 (by simp) (n := m1.length) (sz := 5) rfl
                have d0 := World.ownsRow.cellAt hrow 0 (by have := HLL.out.1; omega)
                have f0 := World.ownsRow.frozenAt hrow 0
                have d1 := World.ownsRow.cellAt hrow 1 (by have := HLL.out.1; omega)
                have f1 := World.ownsRow.frozenAt hrow 1
                have d2 := World.ownsRow.cellAt hrow 2 (by have := HLL.out.1; omega)
                have f2 := World.ownsRow.frozenAt hrow 2
                have d3 := World.ownsRow.cellAt hrow 3 (by have := HLL.out.1; omega)
                have f3 := World.ownsRow.frozenAt hrow 3
                have d4 := World.ownsRow.cellAt hrow 4 (by have := HLL.out.1; omega)
                have f4 := World.ownsRow.frozenAt hrow 4
                obtain ⟨mz, mzs, hmz⟩ : ∃ mz mzs, m1 = mz :: mzs := by
                  cases hc : m1 with
                  | nil => have h2 := HLL.out.1; rw [hc] at h2; simp at h2
                  | cons x y => exact ⟨x, y, rfl⟩
                have HC := Lib.hid (cellsM_set (m1) 0 (by have h2 := HLL.out.1; omega) (Mk.mk 0 Ru.void))
                rw [hmz] at d0 d1 d2 d3 d4
                obtain ⟨kz, ⟨rz, lz, tz, nz⟩⟩ := mz
                simp only [cellsM, Mk.cells, List.cons_append, List.getElem?_cons_zero, List.getElem?_cons_succ] at d0 d1 d2 d3 d4
                have S0 := O6.out.store (i := 1) (by simp) (n := m1.length) (sz := 5) rfl 0 (.int .i64 0)
                have S1 := S0.store (i := 1) (by simp) (n := m1.length) (sz := 5) rfl 1 (.int .i64 0)
                have S2 := S1.store (i := 1) (by simp) (n := m1.length) (sz := 5) rfl 2 (.string ⟨#[]⟩)
                have S3 := S2.store (i := 1) (by simp) (n := m1.length) (sz := 5) rfl 3 (.string ⟨#[]⟩)
                have S4 := S3.store (i := 1) (by simp) (n := m1.length) (sz := 5) rfl 4 (.int .i64 0)
                have S5 := Lib.hid S4
                clear S0 S1 S2 S3 S4 hrow hmz
                go_wp2_with fail
                go_ret
                refine ⟨(m1).set 0 (Mk.mk 0 Ru.void), (.slice (some ⟨g1, 0, none⟩) m1.length c1), k5 + 1, rfl, by rw [List.length_set]; have h2 := HLL.out.2; omega, ?_, by have := HKB.out.2; omega, by have := HKB.out.1; omega, ?_⟩
                · intro m hm
                  rcases List.mem_or_eq_of_mem_set hm with h | h
                  · exact HWF.out m h
                  · subst h; exact markOf_wf 0 (by omega) (by omega)
                · have hz := S5.out.sub (us := [rowT 108 5 (.slice (some ⟨g1, 0, none⟩) m1.length c1) m1.length (cellsM ((m1).set 0 (Mk.mk 0 Ru.void)))]) (by rw [← HC.out]; exact (List.Sublist.cons _ (List.Sublist.cons_cons _ (List.nil_sublist _))))
                  rw [List.length_set]
                  exact hz
        · have HTWO := Lib.hid (HPO.out)
          have h1a := HPO.out.le (v1, m1) (by simp)
          obtain ⟨g1, c1, hv1⟩ := O2.out.formM 1 (by simp) (p := (v1, m1)) rfl h1a.1
          simp only at hv1 h1a
          subst hv1
          have h2a := HPO.out.le (v2, m2) (by simp)
          obtain ⟨g2, c2, hv2⟩ := O2.out.formM 2 (by simp) (p := (v2, m2)) rfl h2a.1
          simp only at hv2 h2a
          subst hv2
          obtain ⟨go, rfl, hoc1, hoc2, hgR, hgo⟩ := O2.out.formO 0 (by simp) (n := 2) rfl (by omega)
          unfold maxLen at hoc2
          clear hn1 hn3
          go_wp2_with fail
          refine (pick_any B R a len cap k2 1 _ O2.out.rd (by have := HKB.out.1; omega) (by omega) (by omega)).mono ?_
          rintro e w3 ⟨v8, rfl, q0, q1, hR3, hK3⟩
          obtain rfl : v8 = 0 := by have := q1 (by omega); omega
          have O3 := Lib.hid (O2.out.picked hR3 hK3)
          obtain ⟨k3, hk3⟩ : ∃ k3, k3 = k2 + 1 := ⟨_, rfl⟩
          rw [← hk3] at O3
          replace HKB := Lib.hid (show k3 + 10 * (left + 2) ≤ k + 82 ∧ k ≤ k3 by have h1 := HKB.out.1; have h2 := HKB.out.2; simp at h1; omega)
          clear hR3 hK3 q1 O2 hk3 q0
          by_cases hl0 : 0 < left
          · have hl0I : 0 < li := by have := HLI.out; omega
            go_wp2_with fail
            refine (pick_any B R a len cap k3 4 _ O3.out.rd (by have := HKB.out.1; omega) (by omega) (by omega)).mono ?_
            rintro e wp ⟨v4, rfl, q0, q1, hR4, hK4⟩
            have O4 := Lib.hid (O3.out.picked hR4 hK4)
            clear q1 hR4 hK4
            by_cases h40 : v4 = 0
            · subst h40
              obtain ⟨l, rfl⟩ : ∃ l, left = l + 1 := ⟨left - 1, by omega⟩
              have O5 := Lib.hid (O4.out.lit #[] 108 0 5 rfl (Nat.zero_le _))
              have x1 := (O5.out.cell (i := 1) (n := 2) (by simp) rfl 0 (by omega)).1
              simp only [List.map_cons, List.map_nil, List.getElem?_cons_zero] at x1
              go_wp2_with (first | (at_builtin; refine wpList_append_lies _ rfl _ _ 60 rfl 0 108 i0 (.agg #[.int .i64 0, .int .i64 0, .string ⟨#[]⟩, .string ⟨#[]⟩, .int .i64 0]) 5 56 Try.underlying60 HI.out.1 HI.out.2.1 HI.out.2.2.1 HI.out.2.2.2 rfl (by decide) (.slice (some ⟨gA, 0, none⟩) m1.length cA) m1.length (cellsM m1) rfl ((O6.out.alloc _).row 0 (by simp) rfl) ⟨wA.heap.size, 0, none⟩ 1 1 (markOf 3).cells rfl rfl (new_news wA #[.int .i64 3, .int .i64 0, .string ⟨#[]⟩, .string ⟨#[]⟩, .int .i64 0] _ _ rfl) (by intro u hu; exact cellsM_one [markOf 3] u (by simpa [cellsM] using hu)) (by omega) (by unfold maxLen; omega) (by omega) (Nat.zero_le _) _ rfl ?_; intro gB cB wB hown hgrow hat hlt3; rw [← cellsM_snoc] at hown; have O7 := Lib.hid ((O6.out.alloc (.cells #[.int .i64 3, .int .i64 0, .string ⟨#[]⟩, .string ⟨#[]⟩, .int .i64 0] 108)).turn (i := 0) (by simp) rfl hgrow hown hat); obtain ⟨cS, fS⟩ := O7.out.cell (i := 1) (n := 2) (by simp) rfl 0 (by omega); simp only [List.map_cons, List.map_nil, List.getElem?_cons_zero] at cS; clear hown hgrow hat hlt3) | (at_builtin; refine wpList_append_lies _ rfl _ _ 60 rfl 0 108 i0 (.agg #[.int .i64 0, .int .i64 0, .string ⟨#[]⟩, .string ⟨#[]⟩, .int .i64 0]) 5 56 Try.underlying60 HI.out.1 HI.out.2.1 HI.out.2.2.1 HI.out.2.2.2 rfl (by decide) (.slice (some ⟨wp.heap.size, 0, none⟩) 0 0) 0 [] rfl (O5.out.row 0 (by simp) rfl) ⟨g1, 0, none⟩ m1.length c1 (cellsM m1) rfl (cellsM_length m1) (marks_news (O5.out.row 2 (by simp) rfl)) (cellsM_one m1) h1a.1 (by unfold maxLen; omega) (by omega) (Nat.zero_le _) _ rfl ?_; intro gA cA wA hown hgrow hat hlt3; simp only [Nat.zero_add, List.nil_append] at hown ⊢; have O6 := Lib.hid (O5.out.turn (i := 0) (by simp) rfl hgrow hown hat); clear hown hgrow hat hlt3))
              have O8 := Lib.hid (O7.out.store (i := 1) (by simp) rfl 0 (.slice (some ⟨gB, 0, none⟩) (m1.length + 1) cB))
              go_roundw
              case rel =>
                refine ⟨[(.slice (some ⟨gB, 0, none⟩) (m1.length + 1) cB, m1 ++ [markOf 3]), (.slice (some ⟨g2, 0, none⟩) m2.length c2, m2)], l, li - 1, (k3 + 1), by have := HLI.out; omega, by first | rfl | rw [hqL], by omega, PartsOk.not (ps := []) (qs := [(.slice (some ⟨g2, 0, none⟩) m2.length c2, m2)]) HPO.out, by have := HKB.out.1; simp at this ⊢; omega, by have := HKB.out.2; omega, ?_⟩
                have hz := (O8.out.perm (List.Perm.swap _ _ _)).sub (List.Sublist.cons_cons _ (List.Sublist.cons_cons _ (List.Sublist.cons _ (List.Sublist.cons_cons _ (List.nil_sublist _)))))
                simp only [List.map_cons, List.map_nil]
                rw [innM_snoc _ m1 (markOf 3) (m1.length + 1) rfl]
                exact hz
              case measure => simp [intOf, lenV]; omega
            · have h4b : (v4 == 0) = false := by simpa using h40
              clear h40
              have OL := Lib.hid (O4.out.lit #[] 108 0 5 rfl (Nat.zero_le _))
              have O5 := Lib.hid OL.out.drew
              have x1 := (O4.out.cell (i := 0) (n := 2) (by simp) rfl 0 (by omega)).1
              simp only [List.map_cons, List.map_nil, List.getElem?_cons_zero] at x1
              have x2 := (OL.out.cell (i := 1) (n := 2) (by simp) rfl 0 (by omega)).1
              simp only [List.map_cons, List.map_nil, List.getElem?_cons_zero] at x2
              have x3 := (O4.out.cell (i := 0) (n := 2) (by simp) rfl 1 (by omega)).1
              simp only [List.map_cons, List.map_nil, List.getElem?_cons_zero, List.getElem?_cons_succ] at x3
              have x4 := (OL.out.cell (i := 1) (n := 2) (by simp) rfl 1 (by omega)).1
              simp only [List.map_cons, List.map_nil, List.getElem?_cons_zero, List.getElem?_cons_succ] at x4
              have hw1 : IntKind.i64.wrap 1 = 1 := by decide
              have hw2 : IntKind.i64.wrap 2 = 2 := by decide
              go_upto_region 12 with fail
              go_region_held3 (fun w' => w'.cell? ⟨go, 0, none⟩ = some (.slice (some ⟨g1, 0, none⟩) m1.length c1) ∧ w'.cell? ⟨go, 1, none⟩ = some (.slice (some ⟨g2, 0, none⟩) m2.length c2))
                (refine ⟨?_, ?_⟩ <;> go_simp)
                (first | (refine step_append_lies _ rfl _ _ 60 rfl 0 108 i0 (.agg #[.int .i64 0, .int .i64 0, .string ⟨#[]⟩, .string ⟨#[]⟩, .int .i64 0]) 5 56 Try.underlying60 HI.out.1 HI.out.2.1 HI.out.2.2.1 HI.out.2.2.2 rfl (by decide) (.slice (some ⟨gB, 0, none⟩) (m1.length + m2.length) cB) (m1.length + m2.length) (cellsM (m1 ++ m2)) rfl ((O8.out.alloc _).row 0 (by simp) rfl) ⟨wC.heap.size, 0, none⟩ 1 1 (markOf kd).cells rfl rfl (new_news wC #[.int .i64 kd, .int .i64 0, .string ⟨#[]⟩, .string ⟨#[]⟩, .int .i64 0] _ _ rfl) (by intro u hu; exact cellsM_one [markOf kd] u (by simpa [cellsM] using hu)) (by omega) (by unfold maxLen; omega) (by omega) (Nat.zero_le _) _ rfl ?_; intro gE cE wE hown hgrow hat hlt3; rw [← cellsM_snoc] at hown; have O9 := Lib.hid ((O8.out.alloc (.cells #[.int .i64 kd, .int .i64 0, .string ⟨#[]⟩, .string ⟨#[]⟩, .int .i64 0] 108)).turn (i := 0) (by simp) rfl hgrow hown hat); have z1 := (O9.out.cell (i := 1) (n := 2) (by simp) rfl 0 (by omega)).1; simp only [List.map_cons, List.map_nil, List.getElem?_cons_zero] at z1; have z2 := (O9.out.cell (i := 1) (n := 2) (by simp) rfl 1 (by omega)).1; simp only [List.map_cons, List.map_nil, List.getElem?_cons_zero, List.getElem?_cons_succ] at z2; clear hown hgrow hat hlt3) | (go_at_call 81; refine (pick_any B R a len cap (k3 + 1) 3 _ O7.out.rd (by have := HKB.out.1; omega) (by omega) (by omega)).mono ?_; rintro e wC ⟨vC, rfl, q0, q1, hRC, hKC⟩; have q2 := q1 (by omega); have O8 := Lib.hid (O7.out.picked hRC hKC); obtain ⟨kd, hw3, hd0, hd1⟩ := mark_kind vC q0 q2; have y1 := fun o => ((O8.out.alloc o).cell (i := 1) (n := 2) (by simp) rfl 0 (by omega)).1; simp only [List.map_cons, List.map_nil, List.getElem?_cons_zero] at y1; have y2 := fun o => ((O8.out.alloc o).cell (i := 1) (n := 2) (by simp) rfl 1 (by omega)).1; simp only [List.map_cons, List.map_nil, List.getElem?_cons_zero, List.getElem?_cons_succ] at y2; have y3 := (O8.out.cell (i := 1) (n := 2) (by simp) rfl 0 (by omega)).1; simp only [List.map_cons, List.map_nil, List.getElem?_cons_zero] at y3; have y4 := (O8.out.cell (i := 1) (n := 2) (by simp) rfl 1 (by omega)).1; simp only [List.map_cons, List.map_nil, List.getElem?_cons_zero, List.getElem?_cons_succ] at y4; clear hRC hKC q1) | (refine step_append_lies _ rfl _ _ 60 rfl 0 108 i0 (.agg #[.int .i64 0, .int .i64 0, .string ⟨#[]⟩, .string ⟨#[]⟩, .int .i64 0]) 5 56 Try.underlying60 HI.out.1 HI.out.2.1 HI.out.2.2.1 HI.out.2.2.2 rfl (by decide) (.slice (some ⟨gA, 0, none⟩) m1.length cA) m1.length (cellsM m1) rfl (O6.out.row 0 (by simp) rfl) ⟨g2, 0, none⟩ m2.length c2 (cellsM m2) rfl (cellsM_length m2) (marks_news (O6.out.row 3 (by simp) rfl)) (cellsM_one m2) h2a.1 (by unfold maxLen; omega) (by omega) (Nat.zero_le _) _ rfl ?_; intro gB cB wB hown hgrow hat hlt3; rw [← cellsM_append] at hown; have O7 := Lib.hid (O6.out.turn (i := 0) (by simp) rfl hgrow hown hat); have x7 := (O7.out.cell (i := 1) (n := 2) (by simp) rfl 0 (by omega)).1; simp only [List.map_cons, List.map_nil, List.getElem?_cons_zero] at x7; have x8 := (O7.out.cell (i := 1) (n := 2) (by simp) rfl 1 (by omega)).1; simp only [List.map_cons, List.map_nil, List.getElem?_cons_zero, List.getElem?_cons_succ] at x8; clear hown hgrow hat hlt3) | (refine step_append_lies _ rfl _ _ 60 rfl 0 108 i0 (.agg #[.int .i64 0, .int .i64 0, .string ⟨#[]⟩, .string ⟨#[]⟩, .int .i64 0]) 5 56 Try.underlying60 HI.out.1 HI.out.2.1 HI.out.2.2.1 HI.out.2.2.2 rfl (by decide) (.slice (some ⟨wp.heap.size, 0, none⟩) 0 0) 0 [] rfl (O5.out.row 0 (by simp) rfl) ⟨g1, 0, none⟩ m1.length c1 (cellsM m1) rfl (cellsM_length m1) (marks_news (O5.out.row 2 (by simp) rfl)) (cellsM_one m1) h1a.1 (by unfold maxLen; omega) (by omega) (Nat.zero_le _) _ rfl ?_; intro gA cA wA hown hgrow hat hlt3; simp only [Nat.zero_add, List.nil_append] at hown ⊢; have O6 := Lib.hid (O5.out.turn (i := 0) (by simp) rfl hgrow hown hat); have x5 := (O6.out.cell (i := 1) (n := 2) (by simp) rfl 0 (by omega)).1; simp only [List.map_cons, List.map_nil, List.getElem?_cons_zero] at x5; have x6 := (O6.out.cell (i := 1) (n := 2) (by simp) rfl 1 (by omega)).1; simp only [List.map_cons, List.map_nil, List.getElem?_cons_zero, List.getElem?_cons_succ] at x6; clear hown hgrow hat hlt3))
              all_goals
                have OA := Lib.hid (O9.out.lit #[] 60 0 1 rfl (Nat.zero_le _))
                go_wp2_with (first | (at_builtin; refine wpList_append_zero rfl _ _ 141 rfl 0 60 s0 1 Try.underlying141 HS.out.1 (.slice (some ⟨gG, 0, none⟩) 1 cG) 1 [(.slice (some ⟨gE, 0, none⟩) (m1.length + m2.length + 1) cE)] rfl (OC.out.row 0 (by simp) rfl) _ _ rfl ?_; have OE := OC) | (at_builtin; refine wpList_append_lies _ rfl _ _ 141 rfl 0 60 s0 (.slice none 0 0) 1 24 Try.underlying141 HS.out.1 HS.out.2.1 HS.out.2.2.1 HS.out.2.2.2 rfl (by decide) (.slice (some ⟨wE.heap.size, 0, none⟩) 0 0) 0 [] rfl ((OB.out.alloc _).row 0 (by simp) rfl) ⟨wE.heap.size + 1, 0, none⟩ 1 1 [(.slice (some ⟨gE, 0, none⟩) (m1.length + m2.length + 1) cE)] rfl rfl (new_news _ #[(.slice (some ⟨gE, 0, none⟩) (m1.length + m2.length + 1) cE)] _ _ (by simp)) (by simp [Value.oneCell']) (by omega) (by unfold maxLen; omega) (by omega) (Nat.zero_le _) _ rfl ?_; intro gG cG wG hown hgrow hat hlt3; have OC := Lib.hid ((OB.out.alloc _).turn (i := 0) (by simp) rfl hgrow hown hat); clear hown hgrow hat hlt3) | (at_builtin; refine wpList_append_zero rfl _ _ 141 rfl 0 60 s0 1 Try.underlying141 HS.out.1 (.slice (some ⟨wE.heap.size, 0, none⟩) 0 0) 0 [] rfl (OA.out.row 0 (by simp) rfl) _ _ rfl ?_; have OB := OA))
                go_roundw
                case rel =>
                  refine ⟨[(.slice (some ⟨gE, 0, none⟩) (m1.length + m2.length + 1) cE, m1 ++ m2 ++ [markOf kd])], left, li, (k3 + 1) + 1, HLI.out, by first | rfl | trivial, by omega, PartsOk.join (ps := []) (qs := []) (p := (.slice (some ⟨g1, 0, none⟩) m1.length c1, m1)) (r := (.slice (some ⟨g2, 0, none⟩) m2.length c2, m2)) (by omega) (by omega) HPO.out, by have := HKB.out.1; simp at this ⊢; omega, by have := HKB.out.2; omega, ?_⟩
                  have hz := OE.out.sub (List.Sublist.cons_cons _ (List.Sublist.cons_cons _ (List.nil_sublist _)))
                  simp only [List.map_cons, List.map_nil]
                  rw [innM_snoc _ (m1 ++ m2) (markOf kd) (m1.length + m2.length + 1) (by rw [List.length_append])]
                  exact hz
                case measure => simp [intOf, lenV]; try omega
          · have hl0I : ¬ 0 < li := by have := HLI.out; omega
            generalize w3 = wp at *
            have OL := Lib.hid (O3.out.lit #[] 108 0 5 rfl (Nat.zero_le _))
            have O5 := Lib.hid OL.out.drew
            have x1 := (O3.out.cell (i := 0) (n := 2) (by simp) rfl 0 (by omega)).1
            simp only [List.map_cons, List.map_nil, List.getElem?_cons_zero] at x1
            have x2 := (OL.out.cell (i := 1) (n := 2) (by simp) rfl 0 (by omega)).1
            simp only [List.map_cons, List.map_nil, List.getElem?_cons_zero] at x2
            have x3 := (O3.out.cell (i := 0) (n := 2) (by simp) rfl 1 (by omega)).1
            simp only [List.map_cons, List.map_nil, List.getElem?_cons_zero, List.getElem?_cons_succ] at x3
            have x4 := (OL.out.cell (i := 1) (n := 2) (by simp) rfl 1 (by omega)).1
            simp only [List.map_cons, List.map_nil, List.getElem?_cons_zero, List.getElem?_cons_succ] at x4
            have hw1 : IntKind.i64.wrap 1 = 1 := by decide
            have hw2 : IntKind.i64.wrap 2 = 2 := by decide
            go_upto_region 12 with fail
            go_region_held3 (fun w' => w'.cell? ⟨go, 0, none⟩ = some (.slice (some ⟨g1, 0, none⟩) m1.length c1) ∧ w'.cell? ⟨go, 1, none⟩ = some (.slice (some ⟨g2, 0, none⟩) m2.length c2))
              (refine ⟨?_, ?_⟩ <;> go_simp)
              (first | (refine step_append_lies _ rfl _ _ 60 rfl 0 108 i0 (.agg #[.int .i64 0, .int .i64 0, .string ⟨#[]⟩, .string ⟨#[]⟩, .int .i64 0]) 5 56 Try.underlying60 HI.out.1 HI.out.2.1 HI.out.2.2.1 HI.out.2.2.2 rfl (by decide) (.slice (some ⟨gB, 0, none⟩) (m1.length + m2.length) cB) (m1.length + m2.length) (cellsM (m1 ++ m2)) rfl ((O8.out.alloc _).row 0 (by simp) rfl) ⟨wC.heap.size, 0, none⟩ 1 1 (markOf kd).cells rfl rfl (new_news wC #[.int .i64 kd, .int .i64 0, .string ⟨#[]⟩, .string ⟨#[]⟩, .int .i64 0] _ _ rfl) (by intro u hu; exact cellsM_one [markOf kd] u (by simpa [cellsM] using hu)) (by omega) (by unfold maxLen; omega) (by omega) (Nat.zero_le _) _ rfl ?_; intro gE cE wE hown hgrow hat hlt3; rw [← cellsM_snoc] at hown; have O9 := Lib.hid ((O8.out.alloc (.cells #[.int .i64 kd, .int .i64 0, .string ⟨#[]⟩, .string ⟨#[]⟩, .int .i64 0] 108)).turn (i := 0) (by simp) rfl hgrow hown hat); have z1 := (O9.out.cell (i := 1) (n := 2) (by simp) rfl 0 (by omega)).1; simp only [List.map_cons, List.map_nil, List.getElem?_cons_zero] at z1; have z2 := (O9.out.cell (i := 1) (n := 2) (by simp) rfl 1 (by omega)).1; simp only [List.map_cons, List.map_nil, List.getElem?_cons_zero, List.getElem?_cons_succ] at z2; clear hown hgrow hat hlt3) | (go_at_call 81; refine (pick_any B R a len cap k3 3 _ O7.out.rd (by have := HKB.out.1; omega) (by omega) (by omega)).mono ?_; rintro e wC ⟨vC, rfl, q0, q1, hRC, hKC⟩; have q2 := q1 (by omega); have O8 := Lib.hid (O7.out.picked hRC hKC); obtain ⟨kd, hw3, hd0, hd1⟩ := mark_kind vC q0 q2; have y1 := fun o => ((O8.out.alloc o).cell (i := 1) (n := 2) (by simp) rfl 0 (by omega)).1; simp only [List.map_cons, List.map_nil, List.getElem?_cons_zero] at y1; have y2 := fun o => ((O8.out.alloc o).cell (i := 1) (n := 2) (by simp) rfl 1 (by omega)).1; simp only [List.map_cons, List.map_nil, List.getElem?_cons_zero, List.getElem?_cons_succ] at y2; have y3 := (O8.out.cell (i := 1) (n := 2) (by simp) rfl 0 (by omega)).1; simp only [List.map_cons, List.map_nil, List.getElem?_cons_zero] at y3; have y4 := (O8.out.cell (i := 1) (n := 2) (by simp) rfl 1 (by omega)).1; simp only [List.map_cons, List.map_nil, List.getElem?_cons_zero, List.getElem?_cons_succ] at y4; clear hRC hKC q1) | (refine step_append_lies _ rfl _ _ 60 rfl 0 108 i0 (.agg #[.int .i64 0, .int .i64 0, .string ⟨#[]⟩, .string ⟨#[]⟩, .int .i64 0]) 5 56 Try.underlying60 HI.out.1 HI.out.2.1 HI.out.2.2.1 HI.out.2.2.2 rfl (by decide) (.slice (some ⟨gA, 0, none⟩) m1.length cA) m1.length (cellsM m1) rfl (O6.out.row 0 (by simp) rfl) ⟨g2, 0, none⟩ m2.length c2 (cellsM m2) rfl (cellsM_length m2) (marks_news (O6.out.row 3 (by simp) rfl)) (cellsM_one m2) h2a.1 (by unfold maxLen; omega) (by omega) (Nat.zero_le _) _ rfl ?_; intro gB cB wB hown hgrow hat hlt3; rw [← cellsM_append] at hown; have O7 := Lib.hid (O6.out.turn (i := 0) (by simp) rfl hgrow hown hat); have x7 := (O7.out.cell (i := 1) (n := 2) (by simp) rfl 0 (by omega)).1; simp only [List.map_cons, List.map_nil, List.getElem?_cons_zero] at x7; have x8 := (O7.out.cell (i := 1) (n := 2) (by simp) rfl 1 (by omega)).1; simp only [List.map_cons, List.map_nil, List.getElem?_cons_zero, List.getElem?_cons_succ] at x8; clear hown hgrow hat hlt3) | (refine step_append_lies _ rfl _ _ 60 rfl 0 108 i0 (.agg #[.int .i64 0, .int .i64 0, .string ⟨#[]⟩, .string ⟨#[]⟩, .int .i64 0]) 5 56 Try.underlying60 HI.out.1 HI.out.2.1 HI.out.2.2.1 HI.out.2.2.2 rfl (by decide) (.slice (some ⟨wp.heap.size, 0, none⟩) 0 0) 0 [] rfl (O5.out.row 0 (by simp) rfl) ⟨g1, 0, none⟩ m1.length c1 (cellsM m1) rfl (cellsM_length m1) (marks_news (O5.out.row 2 (by simp) rfl)) (cellsM_one m1) h1a.1 (by unfold maxLen; omega) (by omega) (Nat.zero_le _) _ rfl ?_; intro gA cA wA hown hgrow hat hlt3; simp only [Nat.zero_add, List.nil_append] at hown ⊢; have O6 := Lib.hid (O5.out.turn (i := 0) (by simp) rfl hgrow hown hat); have x5 := (O6.out.cell (i := 1) (n := 2) (by simp) rfl 0 (by omega)).1; simp only [List.map_cons, List.map_nil, List.getElem?_cons_zero] at x5; have x6 := (O6.out.cell (i := 1) (n := 2) (by simp) rfl 1 (by omega)).1; simp only [List.map_cons, List.map_nil, List.getElem?_cons_zero, List.getElem?_cons_succ] at x6; clear hown hgrow hat hlt3))
            all_goals
              have OA := Lib.hid (O9.out.lit #[] 60 0 1 rfl (Nat.zero_le _))
              go_wp2_with (first | (at_builtin; refine wpList_append_zero rfl _ _ 141 rfl 0 60 s0 1 Try.underlying141 HS.out.1 (.slice (some ⟨gG, 0, none⟩) 1 cG) 1 [(.slice (some ⟨gE, 0, none⟩) (m1.length + m2.length + 1) cE)] rfl (OC.out.row 0 (by simp) rfl) _ _ rfl ?_; have OE := OC) | (at_builtin; refine wpList_append_lies _ rfl _ _ 141 rfl 0 60 s0 (.slice none 0 0) 1 24 Try.underlying141 HS.out.1 HS.out.2.1 HS.out.2.2.1 HS.out.2.2.2 rfl (by decide) (.slice (some ⟨wE.heap.size, 0, none⟩) 0 0) 0 [] rfl ((OB.out.alloc _).row 0 (by simp) rfl) ⟨wE.heap.size + 1, 0, none⟩ 1 1 [(.slice (some ⟨gE, 0, none⟩) (m1.length + m2.length + 1) cE)] rfl rfl (new_news _ #[(.slice (some ⟨gE, 0, none⟩) (m1.length + m2.length + 1) cE)] _ _ (by simp)) (by simp [Value.oneCell']) (by omega) (by unfold maxLen; omega) (by omega) (Nat.zero_le _) _ rfl ?_; intro gG cG wG hown hgrow hat hlt3; have OC := Lib.hid ((OB.out.alloc _).turn (i := 0) (by simp) rfl hgrow hown hat); clear hown hgrow hat hlt3) | (at_builtin; refine wpList_append_zero rfl _ _ 141 rfl 0 60 s0 1 Try.underlying141 HS.out.1 (.slice (some ⟨wE.heap.size, 0, none⟩) 0 0) 0 [] rfl (OA.out.row 0 (by simp) rfl) _ _ rfl ?_; have OB := OA))
              go_roundw
              case rel =>
                refine ⟨[(.slice (some ⟨gE, 0, none⟩) (m1.length + m2.length + 1) cE, m1 ++ m2 ++ [markOf kd])], left, li, k3 + 1, HLI.out, by first | rfl | trivial, by omega, PartsOk.join (ps := []) (qs := []) (p := (.slice (some ⟨g1, 0, none⟩) m1.length c1, m1)) (r := (.slice (some ⟨g2, 0, none⟩) m2.length c2, m2)) (by omega) (by omega) HPO.out, by have := HKB.out.1; simp at this ⊢; omega, by have := HKB.out.2; omega, ?_⟩
                have hz := OE.out.sub (List.Sublist.cons_cons _ (List.Sublist.cons_cons _ (List.nil_sublist _)))
                simp only [List.map_cons, List.map_nil]
                rw [innM_snoc _ (m1 ++ m2) (markOf kd) (m1.length + m2.length + 1) (by rw [List.length_append])]
                exact hz
              case measure => simp [intOf, lenV]; try omega
        · have HTHR := Lib.hid (HPO.out)
          have h1a := HPO.out.le (v1, m1) (by simp)
          obtain ⟨g1, c1, hv1⟩ := O2.out.formM 1 (by simp) (p := (v1, m1)) rfl h1a.1
          simp only at hv1 h1a
          subst hv1
          have h2a := HPO.out.le (v2, m2) (by simp)
          obtain ⟨g2, c2, hv2⟩ := O2.out.formM 2 (by simp) (p := (v2, m2)) rfl h2a.1
          simp only at hv2 h2a
          subst hv2
          have h3a := HPO.out.le (v3, m3) (by simp)
          obtain ⟨g3, c3, hv3⟩ := O2.out.formM 3 (by simp) (p := (v3, m3)) rfl h3a.1
          simp only at hv3 h3a
          subst hv3
          obtain ⟨go, rfl, hoc1, hoc2, hgR, hgo⟩ := O2.out.formO 0 (by simp) (n := 3) rfl (by omega)
          unfold maxLen at hoc2
          have hoc3 : ¬ oc = 2 := by omega
          have hoc4 : (oc == 2) = false := by simpa using hoc3
          have hoc5 : oc ≠ 2 := hoc3
          clear hn1 hn3
          go_wp2_with fail
          refine (pick_any B R a len cap k2 2 _ O2.out.rd (by have := HKB.out.1; omega) (by omega) (by omega)).mono ?_
          rintro e w3 ⟨v8, rfl, q0, q1, hR3, hK3⟩
          have O3 := Lib.hid (O2.out.picked hR3 hK3)
          obtain ⟨k3, hk3⟩ : ∃ k3, k3 = k2 + 1 := ⟨_, rfl⟩
          rw [← hk3] at O3
          replace HKB := Lib.hid (show k3 + 10 * (left + 3) ≤ k + 82 ∧ k ≤ k3 by have h1 := HKB.out.1; have h2 := HKB.out.2; simp at h1; omega)
          have q2 := q1 (by omega)
          clear hR3 hK3 q1 O2 hk3
          obtain rfl | rfl : v8 = 0 ∨ v8 = 1 := by omega
          · clear q0 q2
            by_cases hl0 : 0 < left
            · have hl0I : 0 < li := by have := HLI.out; omega
              go_wp2_with fail
              refine (pick_any B R a len cap k3 4 _ O3.out.rd (by have := HKB.out.1; omega) (by omega) (by omega)).mono ?_
              rintro e wp ⟨v4, rfl, q0, q1, hR4, hK4⟩
              have O4 := Lib.hid (O3.out.picked hR4 hK4)
              clear q1 hR4 hK4
              by_cases h40 : v4 = 0
              · subst h40
                obtain ⟨l, rfl⟩ : ∃ l, left = l + 1 := ⟨left - 1, by omega⟩
                have O5 := Lib.hid (O4.out.lit #[] 108 0 5 rfl (Nat.zero_le _))
                have x1 := (O5.out.cell (i := 1) (n := 3) (by simp) rfl 0 (by omega)).1
                simp only [List.map_cons, List.map_nil, List.getElem?_cons_zero] at x1
                go_wp2_with (first | (at_builtin; refine wpList_append_lies _ rfl _ _ 60 rfl 0 108 i0 (.agg #[.int .i64 0, .int .i64 0, .string ⟨#[]⟩, .string ⟨#[]⟩, .int .i64 0]) 5 56 Try.underlying60 HI.out.1 HI.out.2.1 HI.out.2.2.1 HI.out.2.2.2 rfl (by decide) (.slice (some ⟨gA, 0, none⟩) m1.length cA) m1.length (cellsM m1) rfl ((O6.out.alloc _).row 0 (by simp) rfl) ⟨wA.heap.size, 0, none⟩ 1 1 (markOf 3).cells rfl rfl (new_news wA #[.int .i64 3, .int .i64 0, .string ⟨#[]⟩, .string ⟨#[]⟩, .int .i64 0] _ _ rfl) (by intro u hu; exact cellsM_one [markOf 3] u (by simpa [cellsM] using hu)) (by omega) (by unfold maxLen; omega) (by omega) (Nat.zero_le _) _ rfl ?_; intro gB cB wB hown hgrow hat hlt3; rw [← cellsM_snoc] at hown; have O7 := Lib.hid ((O6.out.alloc (.cells #[.int .i64 3, .int .i64 0, .string ⟨#[]⟩, .string ⟨#[]⟩, .int .i64 0] 108)).turn (i := 0) (by simp) rfl hgrow hown hat); obtain ⟨cS, fS⟩ := O7.out.cell (i := 1) (n := 3) (by simp) rfl 0 (by omega); simp only [List.map_cons, List.map_nil, List.getElem?_cons_zero] at cS; clear hown hgrow hat hlt3) | (at_builtin; refine wpList_append_lies _ rfl _ _ 60 rfl 0 108 i0 (.agg #[.int .i64 0, .int .i64 0, .string ⟨#[]⟩, .string ⟨#[]⟩, .int .i64 0]) 5 56 Try.underlying60 HI.out.1 HI.out.2.1 HI.out.2.2.1 HI.out.2.2.2 rfl (by decide) (.slice (some ⟨wp.heap.size, 0, none⟩) 0 0) 0 [] rfl (O5.out.row 0 (by simp) rfl) ⟨g1, 0, none⟩ m1.length c1 (cellsM m1) rfl (cellsM_length m1) (marks_news (O5.out.row 2 (by simp) rfl)) (cellsM_one m1) h1a.1 (by unfold maxLen; omega) (by omega) (Nat.zero_le _) _ rfl ?_; intro gA cA wA hown hgrow hat hlt3; simp only [Nat.zero_add, List.nil_append] at hown ⊢; have O6 := Lib.hid (O5.out.turn (i := 0) (by simp) rfl hgrow hown hat); clear hown hgrow hat hlt3))
                have O8 := Lib.hid (O7.out.store (i := 1) (by simp) rfl 0 (.slice (some ⟨gB, 0, none⟩) (m1.length + 1) cB))
                go_roundw
                case rel =>
                  refine ⟨[(.slice (some ⟨gB, 0, none⟩) (m1.length + 1) cB, m1 ++ [markOf 3]), (.slice (some ⟨g2, 0, none⟩) m2.length c2, m2), (.slice (some ⟨g3, 0, none⟩) m3.length c3, m3)], l, li - 1, (k3 + 1), by have := HLI.out; omega, by first | rfl | rw [hqL], by omega, PartsOk.not (ps := []) (qs := [(.slice (some ⟨g2, 0, none⟩) m2.length c2, m2), (.slice (some ⟨g3, 0, none⟩) m3.length c3, m3)]) HPO.out, by have := HKB.out.1; simp at this ⊢; omega, by have := HKB.out.2; omega, ?_⟩
                  have hz := (O8.out.perm (List.Perm.swap _ _ _)).sub (List.Sublist.cons_cons _ (List.Sublist.cons_cons _ (List.Sublist.cons _ (List.Sublist.cons_cons _ (List.Sublist.cons_cons _ (List.nil_sublist _))))))
                  simp only [List.map_cons, List.map_nil]
                  rw [innM_snoc _ m1 (markOf 3) (m1.length + 1) rfl]
                  exact hz
                case measure => simp [intOf, lenV]; omega
              · have h4b : (v4 == 0) = false := by simpa using h40
                clear h40
                have OL := Lib.hid (O4.out.lit #[] 108 0 5 rfl (Nat.zero_le _))
                have O5 := Lib.hid OL.out.drew
                have x1 := (O4.out.cell (i := 0) (n := 3) (by simp) rfl 0 (by omega)).1
                simp only [List.map_cons, List.map_nil, List.getElem?_cons_zero] at x1
                have x2 := (OL.out.cell (i := 1) (n := 3) (by simp) rfl 0 (by omega)).1
                simp only [List.map_cons, List.map_nil, List.getElem?_cons_zero] at x2
                have x3 := (O4.out.cell (i := 0) (n := 3) (by simp) rfl 1 (by omega)).1
                simp only [List.map_cons, List.map_nil, List.getElem?_cons_zero, List.getElem?_cons_succ] at x3
                have x4 := (OL.out.cell (i := 1) (n := 3) (by simp) rfl 1 (by omega)).1
                simp only [List.map_cons, List.map_nil, List.getElem?_cons_zero, List.getElem?_cons_succ] at x4
                have hw1 : IntKind.i64.wrap 1 = 1 := by decide
                have hw2 : IntKind.i64.wrap 2 = 2 := by decide
                go_upto_region 12 with fail
                go_region_held3 (fun w' => w'.cell? ⟨go, 0, none⟩ = some (.slice (some ⟨g1, 0, none⟩) m1.length c1) ∧ w'.cell? ⟨go, 1, none⟩ = some (.slice (some ⟨g2, 0, none⟩) m2.length c2))
                  (refine ⟨?_, ?_⟩ <;> go_simp)
                  (first | (refine step_append_lies _ rfl _ _ 60 rfl 0 108 i0 (.agg #[.int .i64 0, .int .i64 0, .string ⟨#[]⟩, .string ⟨#[]⟩, .int .i64 0]) 5 56 Try.underlying60 HI.out.1 HI.out.2.1 HI.out.2.2.1 HI.out.2.2.2 rfl (by decide) (.slice (some ⟨gB, 0, none⟩) (m1.length + m2.length) cB) (m1.length + m2.length) (cellsM (m1 ++ m2)) rfl ((O8.out.alloc _).row 0 (by simp) rfl) ⟨wC.heap.size, 0, none⟩ 1 1 (markOf kd).cells rfl rfl (new_news wC #[.int .i64 kd, .int .i64 0, .string ⟨#[]⟩, .string ⟨#[]⟩, .int .i64 0] _ _ rfl) (by intro u hu; exact cellsM_one [markOf kd] u (by simpa [cellsM] using hu)) (by omega) (by unfold maxLen; omega) (by omega) (Nat.zero_le _) _ rfl ?_; intro gE cE wE hown hgrow hat hlt3; rw [← cellsM_snoc] at hown; have O9 := Lib.hid ((O8.out.alloc (.cells #[.int .i64 kd, .int .i64 0, .string ⟨#[]⟩, .string ⟨#[]⟩, .int .i64 0] 108)).turn (i := 0) (by simp) rfl hgrow hown hat); have z1 := (O9.out.cell (i := 1) (n := 3) (by simp) rfl 0 (by omega)).1; simp only [List.map_cons, List.map_nil, List.getElem?_cons_zero] at z1; have z2 := (O9.out.cell (i := 1) (n := 3) (by simp) rfl 1 (by omega)).1; simp only [List.map_cons, List.map_nil, List.getElem?_cons_zero, List.getElem?_cons_succ] at z2; clear hown hgrow hat hlt3) | (go_at_call 81; refine (pick_any B R a len cap (k3 + 1) 3 _ O7.out.rd (by have := HKB.out.1; omega) (by omega) (by omega)).mono ?_; rintro e wC ⟨vC, rfl, q0, q1, hRC, hKC⟩; have q2 := q1 (by omega); have O8 := Lib.hid (O7.out.picked hRC hKC); obtain ⟨kd, hw3, hd0, hd1⟩ := mark_kind vC q0 q2; have y1 := fun o => ((O8.out.alloc o).cell (i := 1) (n := 3) (by simp) rfl 0 (by omega)).1; simp only [List.map_cons, List.map_nil, List.getElem?_cons_zero] at y1; have y2 := fun o => ((O8.out.alloc o).cell (i := 1) (n := 3) (by simp) rfl 1 (by omega)).1; simp only [List.map_cons, List.map_nil, List.getElem?_cons_zero, List.getElem?_cons_succ] at y2; have y3 := (O8.out.cell (i := 1) (n := 3) (by simp) rfl 0 (by omega)).1; simp only [List.map_cons, List.map_nil, List.getElem?_cons_zero] at y3; have y4 := (O8.out.cell (i := 1) (n := 3) (by simp) rfl 1 (by omega)).1; simp only [List.map_cons, List.map_nil, List.getElem?_cons_zero, List.getElem?_cons_succ] at y4; clear hRC hKC q1) | (refine step_append_lies _ rfl _ _ 60 rfl 0 108 i0 (.agg #[.int .i64 0, .int .i64 0, .string ⟨#[]⟩, .string ⟨#[]⟩, .int .i64 0]) 5 56 Try.underlying60 HI.out.1 HI.out.2.1 HI.out.2.2.1 HI.out.2.2.2 rfl (by decide) (.slice (some ⟨gA, 0, none⟩) m1.length cA) m1.length (cellsM m1) rfl (O6.out.row 0 (by simp) rfl) ⟨g2, 0, none⟩ m2.length c2 (cellsM m2) rfl (cellsM_length m2) (marks_news (O6.out.row 3 (by simp) rfl)) (cellsM_one m2) h2a.1 (by unfold maxLen; omega) (by omega) (Nat.zero_le _) _ rfl ?_; intro gB cB wB hown hgrow hat hlt3; rw [← cellsM_append] at hown; have O7 := Lib.hid (O6.out.turn (i := 0) (by simp) rfl hgrow hown hat); have x7 := (O7.out.cell (i := 1) (n := 3) (by simp) rfl 0 (by omega)).1; simp only [List.map_cons, List.map_nil, List.getElem?_cons_zero] at x7; have x8 := (O7.out.cell (i := 1) (n := 3) (by simp) rfl 1 (by omega)).1; simp only [List.map_cons, List.map_nil, List.getElem?_cons_zero, List.getElem?_cons_succ] at x8; clear hown hgrow hat hlt3) | (refine step_append_lies _ rfl _ _ 60 rfl 0 108 i0 (.agg #[.int .i64 0, .int .i64 0, .string ⟨#[]⟩, .string ⟨#[]⟩, .int .i64 0]) 5 56 Try.underlying60 HI.out.1 HI.out.2.1 HI.out.2.2.1 HI.out.2.2.2 rfl (by decide) (.slice (some ⟨wp.heap.size, 0, none⟩) 0 0) 0 [] rfl (O5.out.row 0 (by simp) rfl) ⟨g1, 0, none⟩ m1.length c1 (cellsM m1) rfl (cellsM_length m1) (marks_news (O5.out.row 2 (by simp) rfl)) (cellsM_one m1) h1a.1 (by unfold maxLen; omega) (by omega) (Nat.zero_le _) _ rfl ?_; intro gA cA wA hown hgrow hat hlt3; simp only [Nat.zero_add, List.nil_append] at hown ⊢; have O6 := Lib.hid (O5.out.turn (i := 0) (by simp) rfl hgrow hown hat); have x5 := (O6.out.cell (i := 1) (n := 3) (by simp) rfl 0 (by omega)).1; simp only [List.map_cons, List.map_nil, List.getElem?_cons_zero] at x5; have x6 := (O6.out.cell (i := 1) (n := 3) (by simp) rfl 1 (by omega)).1; simp only [List.map_cons, List.map_nil, List.getElem?_cons_zero, List.getElem?_cons_succ] at x6; clear hown hgrow hat hlt3))
                all_goals
                  have OA := Lib.hid (O9.out.lit #[] 60 0 1 rfl (Nat.zero_le _))
                  go_wp2_with (first | (at_builtin; refine wpList_append_lies _ rfl _ _ 141 rfl 0 60 s0 (.slice none 0 0) 1 24 Try.underlying141 HS.out.1 HS.out.2.1 HS.out.2.2.1 HS.out.2.2.2 rfl (by decide) (.slice (some ⟨gG, 0, none⟩) 1 cG) 1 [(.slice (some ⟨gE, 0, none⟩) (m1.length + m2.length + 1) cE)] rfl (OC.out.row 0 (by simp) rfl) ⟨go, 2, none⟩ 1 _ [.slice (some ⟨g3, 0, none⟩) m3.length c3] rfl rfl (seg_news (OC.out.row 2 (by simp) (n := 3) rfl) 2 _ rfl) (by simp [Value.oneCell']) (by omega) (by unfold maxLen; omega) (by omega) (Nat.zero_le _) _ rfl ?_; intro gH cH wH hown hgrow hat hlt3; have OE := Lib.hid (OC.out.turn (i := 0) (by simp) rfl hgrow hown hat); clear hown hgrow hat hlt3) | (at_builtin; refine wpList_append_lies _ rfl _ _ 141 rfl 0 60 s0 (.slice none 0 0) 1 24 Try.underlying141 HS.out.1 HS.out.2.1 HS.out.2.2.1 HS.out.2.2.2 rfl (by decide) (.slice (some ⟨wE.heap.size, 0, none⟩) 0 0) 0 [] rfl ((OB.out.alloc _).row 0 (by simp) rfl) ⟨wE.heap.size + 1, 0, none⟩ 1 1 [(.slice (some ⟨gE, 0, none⟩) (m1.length + m2.length + 1) cE)] rfl rfl (new_news _ #[(.slice (some ⟨gE, 0, none⟩) (m1.length + m2.length + 1) cE)] _ _ (by simp)) (by simp [Value.oneCell']) (by omega) (by unfold maxLen; omega) (by omega) (Nat.zero_le _) _ rfl ?_; intro gG cG wG hown hgrow hat hlt3; have OC := Lib.hid ((OB.out.alloc _).turn (i := 0) (by simp) rfl hgrow hown hat); clear hown hgrow hat hlt3) | (at_builtin; refine wpList_append_zero rfl _ _ 141 rfl 0 60 s0 1 Try.underlying141 HS.out.1 (.slice (some ⟨wE.heap.size, 0, none⟩) 0 0) 0 [] rfl (OA.out.row 0 (by simp) rfl) _ _ rfl ?_; have OB := OA))
                  go_roundw
                  case rel =>
                    refine ⟨[(.slice (some ⟨gE, 0, none⟩) (m1.length + m2.length + 1) cE, m1 ++ m2 ++ [markOf kd]), (.slice (some ⟨g3, 0, none⟩) m3.length c3, m3)], left, li, (k3 + 1) + 1, HLI.out, by first | rfl | trivial, by omega, PartsOk.join (ps := []) (qs := [(.slice (some ⟨g3, 0, none⟩) m3.length c3, m3)]) (p := (.slice (some ⟨g1, 0, none⟩) m1.length c1, m1)) (r := (.slice (some ⟨g2, 0, none⟩) m2.length c2, m2)) (by omega) (by omega) HPO.out, by have := HKB.out.1; simp at this ⊢; omega, by have := HKB.out.2; omega, ?_⟩
                    have hz := OE.out.sub (List.Sublist.cons_cons _ (List.Sublist.cons_cons _ (List.Sublist.cons _ (List.Sublist.cons _ (List.Sublist.cons _ (List.Sublist.cons_cons _ (List.nil_sublist _)))))))
                    simp only [List.map_cons, List.map_nil]
                    rw [innM_snoc _ (m1 ++ m2) (markOf kd) (m1.length + m2.length + 1) (by rw [List.length_append])]
                    exact hz
                  case measure => simp [intOf, lenV]; try omega
            · have hl0I : ¬ 0 < li := by have := HLI.out; omega
              generalize w3 = wp at *
              have OL := Lib.hid (O3.out.lit #[] 108 0 5 rfl (Nat.zero_le _))
              have O5 := Lib.hid OL.out.drew
              have x1 := (O3.out.cell (i := 0) (n := 3) (by simp) rfl 0 (by omega)).1
              simp only [List.map_cons, List.map_nil, List.getElem?_cons_zero] at x1
              have x2 := (OL.out.cell (i := 1) (n := 3) (by simp) rfl 0 (by omega)).1
              simp only [List.map_cons, List.map_nil, List.getElem?_cons_zero] at x2
              have x3 := (O3.out.cell (i := 0) (n := 3) (by simp) rfl 1 (by omega)).1
              simp only [List.map_cons, List.map_nil, List.getElem?_cons_zero, List.getElem?_cons_succ] at x3
              have x4 := (OL.out.cell (i := 1) (n := 3) (by simp) rfl 1 (by omega)).1
              simp only [List.map_cons, List.map_nil, List.getElem?_cons_zero, List.getElem?_cons_succ] at x4
              have hw1 : IntKind.i64.wrap 1 = 1 := by decide
              have hw2 : IntKind.i64.wrap 2 = 2 := by decide
              go_upto_region 12 with fail
              go_region_held3 (fun w' => w'.cell? ⟨go, 0, none⟩ = some (.slice (some ⟨g1, 0, none⟩) m1.length c1) ∧ w'.cell? ⟨go, 1, none⟩ = some (.slice (some ⟨g2, 0, none⟩) m2.length c2))
                (refine ⟨?_, ?_⟩ <;> go_simp)
                (first | (refine step_append_lies _ rfl _ _ 60 rfl 0 108 i0 (.agg #[.int .i64 0, .int .i64 0, .string ⟨#[]⟩, .string ⟨#[]⟩, .int .i64 0]) 5 56 Try.underlying60 HI.out.1 HI.out.2.1 HI.out.2.2.1 HI.out.2.2.2 rfl (by decide) (.slice (some ⟨gB, 0, none⟩) (m1.length + m2.length) cB) (m1.length + m2.length) (cellsM (m1 ++ m2)) rfl ((O8.out.alloc _).row 0 (by simp) rfl) ⟨wC.heap.size, 0, none⟩ 1 1 (markOf kd).cells rfl rfl (new_news wC #[.int .i64 kd, .int .i64 0, .string ⟨#[]⟩, .string ⟨#[]⟩, .int .i64 0] _ _ rfl) (by intro u hu; exact cellsM_one [markOf kd] u (by simpa [cellsM] using hu)) (by omega) (by unfold maxLen; omega) (by omega) (Nat.zero_le _) _ rfl ?_; intro gE cE wE hown hgrow hat hlt3; rw [← cellsM_snoc] at hown; have O9 := Lib.hid ((O8.out.alloc (.cells #[.int .i64 kd, .int .i64 0, .string ⟨#[]⟩, .string ⟨#[]⟩, .int .i64 0] 108)).turn (i := 0) (by simp) rfl hgrow hown hat); have z1 := (O9.out.cell (i := 1) (n := 3) (by simp) rfl 0 (by omega)).1; simp only [List.map_cons, List.map_nil, List.getElem?_cons_zero] at z1; have z2 := (O9.out.cell (i := 1) (n := 3) (by simp) rfl 1 (by omega)).1; simp only [List.map_cons, List.map_nil, List.getElem?_cons_zero, List.getElem?_cons_succ] at z2; clear hown hgrow hat hlt3) | (go_at_call 81; refine (pick_any B R a len cap k3 3 _ O7.out.rd (by have := HKB.out.1; omega) (by omega) (by omega)).mono ?_; rintro e wC ⟨vC, rfl, q0, q1, hRC, hKC⟩; have q2 := q1 (by omega); have O8 := Lib.hid (O7.out.picked hRC hKC); obtain ⟨kd, hw3, hd0, hd1⟩ := mark_kind vC q0 q2; have y1 := fun o => ((O8.out.alloc o).cell (i := 1) (n := 3) (by simp) rfl 0 (by omega)).1; simp only [List.map_cons, List.map_nil, List.getElem?_cons_zero] at y1; have y2 := fun o => ((O8.out.alloc o).cell (i := 1) (n := 3) (by simp) rfl 1 (by omega)).1; simp only [List.map_cons, List.map_nil, List.getElem?_cons_zero, List.getElem?_cons_succ] at y2; have y3 := (O8.out.cell (i := 1) (n := 3) (by simp) rfl 0 (by omega)).1; simp only [List.map_cons, List.map_nil, List.getElem?_cons_zero] at y3; have y4 := (O8.out.cell (i := 1) (n := 3) (by simp) rfl 1 (by omega)).1; simp only [List.map_cons, List.map_nil, List.getElem?_cons_zero, List.getElem?_cons_succ] at y4; clear hRC hKC q1) | (refine step_append_lies _ rfl _ _ 60 rfl 0 108 i0 (.agg #[.int .i64 0, .int .i64 0, .string ⟨#[]⟩, .string ⟨#[]⟩, .int .i64 0]) 5 56 Try.underlying60 HI.out.1 HI.out.2.1 HI.out.2.2.1 HI.out.2.2.2 rfl (by decide) (.slice (some ⟨gA, 0, none⟩) m1.length cA) m1.length (cellsM m1) rfl (O6.out.row 0 (by simp) rfl) ⟨g2, 0, none⟩ m2.length c2 (cellsM m2) rfl (cellsM_length m2) (marks_news (O6.out.row 3 (by simp) rfl)) (cellsM_one m2) h2a.1 (by unfold maxLen; omega) (by omega) (Nat.zero_le _) _ rfl ?_; intro gB cB wB hown hgrow hat hlt3; rw [← cellsM_append] at hown; have O7 := Lib.hid (O6.out.turn (i := 0) (by simp) rfl hgrow hown hat); have x7 := (O7.out.cell (i := 1) (n := 3) (by simp) rfl 0 (by omega)).1; simp only [List.map_cons, List.map_nil, List.getElem?_cons_zero] at x7; have x8 := (O7.out.cell (i := 1) (n := 3) (by simp) rfl 1 (by omega)).1; simp only [List.map_cons, List.map_nil, List.getElem?_cons_zero, List.getElem?_cons_succ] at x8; clear hown hgrow hat hlt3) | (refine step_append_lies _ rfl _ _ 60 rfl 0 108 i0 (.agg #[.int .i64 0, .int .i64 0, .string ⟨#[]⟩, .string ⟨#[]⟩, .int .i64 0]) 5 56 Try.underlying60 HI.out.1 HI.out.2.1 HI.out.2.2.1 HI.out.2.2.2 rfl (by decide) (.slice (some ⟨wp.heap.size, 0, none⟩) 0 0) 0 [] rfl (O5.out.row 0 (by simp) rfl) ⟨g1, 0, none⟩ m1.length c1 (cellsM m1) rfl (cellsM_length m1) (marks_news (O5.out.row 2 (by simp) rfl)) (cellsM_one m1) h1a.1 (by unfold maxLen; omega) (by omega) (Nat.zero_le _) _ rfl ?_; intro gA cA wA hown hgrow hat hlt3; simp only [Nat.zero_add, List.nil_append] at hown ⊢; have O6 := Lib.hid (O5.out.turn (i := 0) (by simp) rfl hgrow hown hat); have x5 := (O6.out.cell (i := 1) (n := 3) (by simp) rfl 0 (by omega)).1; simp only [List.map_cons, List.map_nil, List.getElem?_cons_zero] at x5; have x6 := (O6.out.cell (i := 1) (n := 3) (by simp) rfl 1 (by omega)).1; simp only [List.map_cons, List.map_nil, List.getElem?_cons_zero, List.getElem?_cons_succ] at x6; clear hown hgrow hat hlt3))
              all_goals
                have OA := Lib.hid (O9.out.lit #[] 60 0 1 rfl (Nat.zero_le _))
                go_wp2_with (first | (at_builtin; refine wpList_append_lies _ rfl _ _ 141 rfl 0 60 s0 (.slice none 0 0) 1 24 Try.underlying141 HS.out.1 HS.out.2.1 HS.out.2.2.1 HS.out.2.2.2 rfl (by decide) (.slice (some ⟨gG, 0, none⟩) 1 cG) 1 [(.slice (some ⟨gE, 0, none⟩) (m1.length + m2.length + 1) cE)] rfl (OC.out.row 0 (by simp) rfl) ⟨go, 2, none⟩ 1 _ [.slice (some ⟨g3, 0, none⟩) m3.length c3] rfl rfl (seg_news (OC.out.row 2 (by simp) (n := 3) rfl) 2 _ rfl) (by simp [Value.oneCell']) (by omega) (by unfold maxLen; omega) (by omega) (Nat.zero_le _) _ rfl ?_; intro gH cH wH hown hgrow hat hlt3; have OE := Lib.hid (OC.out.turn (i := 0) (by simp) rfl hgrow hown hat); clear hown hgrow hat hlt3) | (at_builtin; refine wpList_append_lies _ rfl _ _ 141 rfl 0 60 s0 (.slice none 0 0) 1 24 Try.underlying141 HS.out.1 HS.out.2.1 HS.out.2.2.1 HS.out.2.2.2 rfl (by decide) (.slice (some ⟨wE.heap.size, 0, none⟩) 0 0) 0 [] rfl ((OB.out.alloc _).row 0 (by simp) rfl) ⟨wE.heap.size + 1, 0, none⟩ 1 1 [(.slice (some ⟨gE, 0, none⟩) (m1.length + m2.length + 1) cE)] rfl rfl (new_news _ #[(.slice (some ⟨gE, 0, none⟩) (m1.length + m2.length + 1) cE)] _ _ (by simp)) (by simp [Value.oneCell']) (by omega) (by unfold maxLen; omega) (by omega) (Nat.zero_le _) _ rfl ?_; intro gG cG wG hown hgrow hat hlt3; have OC := Lib.hid ((OB.out.alloc _).turn (i := 0) (by simp) rfl hgrow hown hat); clear hown hgrow hat hlt3) | (at_builtin; refine wpList_append_zero rfl _ _ 141 rfl 0 60 s0 1 Try.underlying141 HS.out.1 (.slice (some ⟨wE.heap.size, 0, none⟩) 0 0) 0 [] rfl (OA.out.row 0 (by simp) rfl) _ _ rfl ?_; have OB := OA))
                go_roundw
                case rel =>
                  refine ⟨[(.slice (some ⟨gE, 0, none⟩) (m1.length + m2.length + 1) cE, m1 ++ m2 ++ [markOf kd]), (.slice (some ⟨g3, 0, none⟩) m3.length c3, m3)], left, li, k3 + 1, HLI.out, by first | rfl | trivial, by omega, PartsOk.join (ps := []) (qs := [(.slice (some ⟨g3, 0, none⟩) m3.length c3, m3)]) (p := (.slice (some ⟨g1, 0, none⟩) m1.length c1, m1)) (r := (.slice (some ⟨g2, 0, none⟩) m2.length c2, m2)) (by omega) (by omega) HPO.out, by have := HKB.out.1; simp at this ⊢; omega, by have := HKB.out.2; omega, ?_⟩
                  have hz := OE.out.sub (List.Sublist.cons_cons _ (List.Sublist.cons_cons _ (List.Sublist.cons _ (List.Sublist.cons _ (List.Sublist.cons _ (List.Sublist.cons_cons _ (List.nil_sublist _)))))))
                  simp only [List.map_cons, List.map_nil]
                  rw [innM_snoc _ (m1 ++ m2) (markOf kd) (m1.length + m2.length + 1) (by rw [List.length_append])]
                  exact hz
                case measure => simp [intOf, lenV]; try omega
          · clear q0 q2
            by_cases hl0 : 0 < left
            · have hl0I : 0 < li := by have := HLI.out; omega
              go_wp2_with fail
              refine (pick_any B R a len cap k3 4 _ O3.out.rd (by have := HKB.out.1; omega) (by omega) (by omega)).mono ?_
              rintro e wp ⟨v4, rfl, q0, q1, hR4, hK4⟩
              have O4 := Lib.hid (O3.out.picked hR4 hK4)
              clear q1 hR4 hK4
              by_cases h40 : v4 = 0
              · subst h40
                obtain ⟨l, rfl⟩ : ∃ l, left = l + 1 := ⟨left - 1, by omega⟩
                have O5 := Lib.hid (O4.out.lit #[] 108 0 5 rfl (Nat.zero_le _))
                have x1 := (O5.out.cell (i := 1) (n := 3) (by simp) rfl 1 (by omega)).1
                simp only [List.map_cons, List.map_nil, List.getElem?_cons_zero, List.getElem?_cons_succ] at x1
                go_wp2_with (first | (at_builtin; refine wpList_append_lies _ rfl _ _ 60 rfl 0 108 i0 (.agg #[.int .i64 0, .int .i64 0, .string ⟨#[]⟩, .string ⟨#[]⟩, .int .i64 0]) 5 56 Try.underlying60 HI.out.1 HI.out.2.1 HI.out.2.2.1 HI.out.2.2.2 rfl (by decide) (.slice (some ⟨gA, 0, none⟩) m2.length cA) m2.length (cellsM m2) rfl ((O6.out.alloc _).row 0 (by simp) rfl) ⟨wA.heap.size, 0, none⟩ 1 1 (markOf 3).cells rfl rfl (new_news wA #[.int .i64 3, .int .i64 0, .string ⟨#[]⟩, .string ⟨#[]⟩, .int .i64 0] _ _ rfl) (by intro u hu; exact cellsM_one [markOf 3] u (by simpa [cellsM] using hu)) (by omega) (by unfold maxLen; omega) (by omega) (Nat.zero_le _) _ rfl ?_; intro gB cB wB hown hgrow hat hlt3; rw [← cellsM_snoc] at hown; have O7 := Lib.hid ((O6.out.alloc (.cells #[.int .i64 3, .int .i64 0, .string ⟨#[]⟩, .string ⟨#[]⟩, .int .i64 0] 108)).turn (i := 0) (by simp) rfl hgrow hown hat); obtain ⟨cS, fS⟩ := O7.out.cell (i := 1) (n := 3) (by simp) rfl 1 (by omega); simp only [List.map_cons, List.map_nil, List.getElem?_cons_zero, List.getElem?_cons_succ] at cS; clear hown hgrow hat hlt3) | (at_builtin; refine wpList_append_lies _ rfl _ _ 60 rfl 0 108 i0 (.agg #[.int .i64 0, .int .i64 0, .string ⟨#[]⟩, .string ⟨#[]⟩, .int .i64 0]) 5 56 Try.underlying60 HI.out.1 HI.out.2.1 HI.out.2.2.1 HI.out.2.2.2 rfl (by decide) (.slice (some ⟨wp.heap.size, 0, none⟩) 0 0) 0 [] rfl (O5.out.row 0 (by simp) rfl) ⟨g2, 0, none⟩ m2.length c2 (cellsM m2) rfl (cellsM_length m2) (marks_news (O5.out.row 3 (by simp) rfl)) (cellsM_one m2) h2a.1 (by unfold maxLen; omega) (by omega) (Nat.zero_le _) _ rfl ?_; intro gA cA wA hown hgrow hat hlt3; simp only [Nat.zero_add, List.nil_append] at hown ⊢; have O6 := Lib.hid (O5.out.turn (i := 0) (by simp) rfl hgrow hown hat); clear hown hgrow hat hlt3))
                have O8 := Lib.hid (O7.out.store (i := 1) (by simp) rfl 1 (.slice (some ⟨gB, 0, none⟩) (m2.length + 1) cB))
                go_roundw
                case rel =>
                  refine ⟨[(.slice (some ⟨g1, 0, none⟩) m1.length c1, m1), (.slice (some ⟨gB, 0, none⟩) (m2.length + 1) cB, m2 ++ [markOf 3]), (.slice (some ⟨g3, 0, none⟩) m3.length c3, m3)], l, li - 1, (k3 + 1), by have := HLI.out; omega, by first | rfl | rw [hqL], by omega, PartsOk.not (ps := [(.slice (some ⟨g1, 0, none⟩) m1.length c1, m1)]) (qs := [(.slice (some ⟨g3, 0, none⟩) m3.length c3, m3)]) HPO.out, by have := HKB.out.1; simp at this ⊢; omega, by have := HKB.out.2; omega, ?_⟩
                  have hz := ((O8.out.perm (List.Perm.swap _ _ _)).perm (List.Perm.cons _ (List.Perm.swap _ _ _))).sub (List.Sublist.cons_cons _ (List.Sublist.cons_cons _ (List.Sublist.cons_cons _ (List.Sublist.cons _ (List.Sublist.cons_cons _ (List.nil_sublist _))))))
                  simp only [List.map_cons, List.map_nil]
                  rw [innM_snoc _ m2 (markOf 3) (m2.length + 1) rfl]
                  exact hz
                case measure => simp [intOf, lenV]; omega
              · have h4b : (v4 == 0) = false := by simpa using h40
                clear h40
                have OL := Lib.hid (O4.out.lit #[] 108 0 5 rfl (Nat.zero_le _))
                have O5 := Lib.hid OL.out.drew
                have x1 := (O4.out.cell (i := 0) (n := 3) (by simp) rfl 1 (by omega)).1
                simp only [List.map_cons, List.map_nil, List.getElem?_cons_zero, List.getElem?_cons_succ] at x1
                have x2 := (OL.out.cell (i := 1) (n := 3) (by simp) rfl 1 (by omega)).1
                simp only [List.map_cons, List.map_nil, List.getElem?_cons_zero, List.getElem?_cons_succ] at x2
                have x3 := (O4.out.cell (i := 0) (n := 3) (by simp) rfl 2 (by omega)).1
                simp only [List.map_cons, List.map_nil, List.getElem?_cons_zero, List.getElem?_cons_succ] at x3
                have x4 := (OL.out.cell (i := 1) (n := 3) (by simp) rfl 2 (by omega)).1
                simp only [List.map_cons, List.map_nil, List.getElem?_cons_zero, List.getElem?_cons_succ] at x4
                have hw1 : IntKind.i64.wrap 1 = 1 := by decide
                have hw2 : IntKind.i64.wrap 2 = 2 := by decide
                go_upto_region 12 with fail
                go_region_held3 (fun w' => w'.cell? ⟨go, 1, none⟩ = some (.slice (some ⟨g2, 0, none⟩) m2.length c2) ∧ w'.cell? ⟨go, 2, none⟩ = some (.slice (some ⟨g3, 0, none⟩) m3.length c3))
                  (refine ⟨?_, ?_⟩ <;> go_simp)
                  (first | (refine step_append_lies _ rfl _ _ 60 rfl 0 108 i0 (.agg #[.int .i64 0, .int .i64 0, .string ⟨#[]⟩, .string ⟨#[]⟩, .int .i64 0]) 5 56 Try.underlying60 HI.out.1 HI.out.2.1 HI.out.2.2.1 HI.out.2.2.2 rfl (by decide) (.slice (some ⟨gB, 0, none⟩) (m2.length + m3.length) cB) (m2.length + m3.length) (cellsM (m2 ++ m3)) rfl ((O8.out.alloc _).row 0 (by simp) rfl) ⟨wC.heap.size, 0, none⟩ 1 1 (markOf kd).cells rfl rfl (new_news wC #[.int .i64 kd, .int .i64 0, .string ⟨#[]⟩, .string ⟨#[]⟩, .int .i64 0] _ _ rfl) (by intro u hu; exact cellsM_one [markOf kd] u (by simpa [cellsM] using hu)) (by omega) (by unfold maxLen; omega) (by omega) (Nat.zero_le _) _ rfl ?_; intro gE cE wE hown hgrow hat hlt3; rw [← cellsM_snoc] at hown; have O9 := Lib.hid ((O8.out.alloc (.cells #[.int .i64 kd, .int .i64 0, .string ⟨#[]⟩, .string ⟨#[]⟩, .int .i64 0] 108)).turn (i := 0) (by simp) rfl hgrow hown hat); have z1 := (O9.out.cell (i := 1) (n := 3) (by simp) rfl 1 (by omega)).1; simp only [List.map_cons, List.map_nil, List.getElem?_cons_zero, List.getElem?_cons_succ] at z1; have z2 := (O9.out.cell (i := 1) (n := 3) (by simp) rfl 2 (by omega)).1; simp only [List.map_cons, List.map_nil, List.getElem?_cons_zero, List.getElem?_cons_succ] at z2; clear hown hgrow hat hlt3) | (go_at_call 81; refine (pick_any B R a len cap (k3 + 1) 3 _ O7.out.rd (by have := HKB.out.1; omega) (by omega) (by omega)).mono ?_; rintro e wC ⟨vC, rfl, q0, q1, hRC, hKC⟩; have q2 := q1 (by omega); have O8 := Lib.hid (O7.out.picked hRC hKC); obtain ⟨kd, hw3, hd0, hd1⟩ := mark_kind vC q0 q2; have y1 := fun o => ((O8.out.alloc o).cell (i := 1) (n := 3) (by simp) rfl 1 (by omega)).1; simp only [List.map_cons, List.map_nil, List.getElem?_cons_zero, List.getElem?_cons_succ] at y1; have y2 := fun o => ((O8.out.alloc o).cell (i := 1) (n := 3) (by simp) rfl 2 (by omega)).1; simp only [List.map_cons, List.map_nil, List.getElem?_cons_zero, List.getElem?_cons_succ] at y2; have y3 := (O8.out.cell (i := 1) (n := 3) (by simp) rfl 1 (by omega)).1; simp only [List.map_cons, List.map_nil, List.getElem?_cons_zero, List.getElem?_cons_succ] at y3; have y4 := (O8.out.cell (i := 1) (n := 3) (by simp) rfl 2 (by omega)).1; simp only [List.map_cons, List.map_nil, List.getElem?_cons_zero, List.getElem?_cons_succ] at y4; clear hRC hKC q1) | (refine step_append_lies _ rfl _ _ 60 rfl 0 108 i0 (.agg #[.int .i64 0, .int .i64 0, .string ⟨#[]⟩, .string ⟨#[]⟩, .int .i64 0]) 5 56 Try.underlying60 HI.out.1 HI.out.2.1 HI.out.2.2.1 HI.out.2.2.2 rfl (by decide) (.slice (some ⟨gA, 0, none⟩) m2.length cA) m2.length (cellsM m2) rfl (O6.out.row 0 (by simp) rfl) ⟨g3, 0, none⟩ m3.length c3 (cellsM m3) rfl (cellsM_length m3) (marks_news (O6.out.row 4 (by simp) rfl)) (cellsM_one m3) h3a.1 (by unfold maxLen; omega) (by omega) (Nat.zero_le _) _ rfl ?_; intro gB cB wB hown hgrow hat hlt3; rw [← cellsM_append] at hown; have O7 := Lib.hid (O6.out.turn (i := 0) (by simp) rfl hgrow hown hat); have x7 := (O7.out.cell (i := 1) (n := 3) (by simp) rfl 1 (by omega)).1; simp only [List.map_cons, List.map_nil, List.getElem?_cons_zero, List.getElem?_cons_succ] at x7; have x8 := (O7.out.cell (i := 1) (n := 3) (by simp) rfl 2 (by omega)).1; simp only [List.map_cons, List.map_nil, List.getElem?_cons_zero, List.getElem?_cons_succ] at x8; clear hown hgrow hat hlt3) | (refine step_append_lies _ rfl _ _ 60 rfl 0 108 i0 (.agg #[.int .i64 0, .int .i64 0, .string ⟨#[]⟩, .string ⟨#[]⟩, .int .i64 0]) 5 56 Try.underlying60 HI.out.1 HI.out.2.1 HI.out.2.2.1 HI.out.2.2.2 rfl (by decide) (.slice (some ⟨wp.heap.size, 0, none⟩) 0 0) 0 [] rfl (O5.out.row 0 (by simp) rfl) ⟨g2, 0, none⟩ m2.length c2 (cellsM m2) rfl (cellsM_length m2) (marks_news (O5.out.row 3 (by simp) rfl)) (cellsM_one m2) h2a.1 (by unfold maxLen; omega) (by omega) (Nat.zero_le _) _ rfl ?_; intro gA cA wA hown hgrow hat hlt3; simp only [Nat.zero_add, List.nil_append] at hown ⊢; have O6 := Lib.hid (O5.out.turn (i := 0) (by simp) rfl hgrow hown hat); have x5 := (O6.out.cell (i := 1) (n := 3) (by simp) rfl 1 (by omega)).1; simp only [List.map_cons, List.map_nil, List.getElem?_cons_zero, List.getElem?_cons_succ] at x5; have x6 := (O6.out.cell (i := 1) (n := 3) (by simp) rfl 2 (by omega)).1; simp only [List.map_cons, List.map_nil, List.getElem?_cons_zero, List.getElem?_cons_succ] at x6; clear hown hgrow hat hlt3))
                all_goals
                  have OA := Lib.hid (O9.out.lit #[] 60 0 1 rfl (Nat.zero_le _))
                  go_wp2_with (first | (at_builtin; refine wpList_append_zero rfl _ _ 141 rfl 0 60 s0 1 Try.underlying141 HS.out.1 (.slice (some ⟨gG, 0, none⟩) 2 cG) 2 [.slice (some ⟨g1, 0, none⟩) m1.length c1, (.slice (some ⟨gE, 0, none⟩) (m2.length + m3.length + 1) cE)] rfl (OC.out.row 0 (by simp) rfl) _ _ rfl ?_; have OE := OC) | (at_builtin; refine wpList_append_lies _ rfl _ _ 141 rfl 0 60 s0 (.slice none 0 0) 1 24 Try.underlying141 HS.out.1 HS.out.2.1 HS.out.2.2.1 HS.out.2.2.2 rfl (by decide) (.slice (some ⟨gF, 0, none⟩) 1 cF) 1 [.slice (some ⟨g1, 0, none⟩) m1.length c1] rfl ((OB.out.alloc _).row 0 (by simp) rfl) ⟨wF.heap.size, 0, none⟩ 1 1 [(.slice (some ⟨gE, 0, none⟩) (m2.length + m3.length + 1) cE)] rfl rfl (new_news _ #[(.slice (some ⟨gE, 0, none⟩) (m2.length + m3.length + 1) cE)] _ _ (by simp)) (by simp [Value.oneCell']) (by omega) (by unfold maxLen; omega) (by omega) (Nat.zero_le _) _ rfl ?_; intro gG cG wG hown hgrow hat hlt3; have OC := Lib.hid ((OB.out.alloc _).turn (i := 0) (by simp) rfl hgrow hown hat); clear hown hgrow hat hlt3) | (at_builtin; refine wpList_append_lies _ rfl _ _ 141 rfl 0 60 s0 (.slice none 0 0) 1 24 Try.underlying141 HS.out.1 HS.out.2.1 HS.out.2.2.1 HS.out.2.2.2 rfl (by decide) (.slice (some ⟨wE.heap.size, 0, none⟩) 0 0) 0 [] rfl (OA.out.row 0 (by simp) rfl) ⟨go, 0, none⟩ 1 _ [.slice (some ⟨g1, 0, none⟩) m1.length c1] rfl rfl (seg_news (OA.out.row 2 (by simp) (n := 3) rfl) 0 _ rfl) (by simp [Value.oneCell']) (by omega) (by unfold maxLen; omega) (by omega) (Nat.zero_le _) _ rfl ?_; intro gF cF wF hown hgrow hat hlt3; simp only [Nat.zero_add, List.nil_append] at hown ⊢; have OB := Lib.hid (OA.out.turn (i := 0) (by simp) rfl hgrow hown hat); clear hown hgrow hat hlt3))
                  go_roundw
                  case rel =>
                    refine ⟨[(.slice (some ⟨g1, 0, none⟩) m1.length c1, m1), (.slice (some ⟨gE, 0, none⟩) (m2.length + m3.length + 1) cE, m2 ++ m3 ++ [markOf kd])], left, li, (k3 + 1) + 1, HLI.out, by first | rfl | trivial, by omega, PartsOk.join (ps := [(.slice (some ⟨g1, 0, none⟩) m1.length c1, m1)]) (qs := []) (p := (.slice (some ⟨g2, 0, none⟩) m2.length c2, m2)) (r := (.slice (some ⟨g3, 0, none⟩) m3.length c3, m3)) (by omega) (by omega) HPO.out, by have := HKB.out.1; simp at this ⊢; omega, by have := HKB.out.2; omega, ?_⟩
                    have hz := (OE.out.sub (List.Sublist.cons_cons _ (List.Sublist.cons_cons _ (List.Sublist.cons _ (List.Sublist.cons_cons _ (List.nil_sublist _)))))).perm (List.Perm.cons _ (List.Perm.swap _ _ _))
                    simp only [List.map_cons, List.map_nil]
                    rw [innM_snoc _ (m2 ++ m3) (markOf kd) (m2.length + m3.length + 1) (by rw [List.length_append])]
                    exact hz
                  case measure => simp [intOf, lenV]; try omega
            · have hl0I : ¬ 0 < li := by have := HLI.out; omega
              generalize w3 = wp at *
              have OL := Lib.hid (O3.out.lit #[] 108 0 5 rfl (Nat.zero_le _))
              have O5 := Lib.hid OL.out.drew
              have x1 := (O3.out.cell (i := 0) (n := 3) (by simp) rfl 1 (by omega)).1
              simp only [List.map_cons, List.map_nil, List.getElem?_cons_zero, List.getElem?_cons_succ] at x1
              have x2 := (OL.out.cell (i := 1) (n := 3) (by simp) rfl 1 (by omega)).1
              simp only [List.map_cons, List.map_nil, List.getElem?_cons_zero, List.getElem?_cons_succ] at x2
              have x3 := (O3.out.cell (i := 0) (n := 3) (by simp) rfl 2 (by omega)).1
              simp only [List.map_cons, List.map_nil, List.getElem?_cons_zero, List.getElem?_cons_succ] at x3
              have x4 := (OL.out.cell (i := 1) (n := 3) (by simp) rfl 2 (by omega)).1
              simp only [List.map_cons, List.map_nil, List.getElem?_cons_zero, List.getElem?_cons_succ] at x4
              have hw1 : IntKind.i64.wrap 1 = 1 := by decide
              have hw2 : IntKind.i64.wrap 2 = 2 := by decide
              go_upto_region 12 with fail
              go_region_held3 (fun w' => w'.cell? ⟨go, 1, none⟩ = some (.slice (some ⟨g2, 0, none⟩) m2.length c2) ∧ w'.cell? ⟨go, 2, none⟩ = some (.slice (some ⟨g3, 0, none⟩) m3.length c3))
                (refine ⟨?_, ?_⟩ <;> go_simp)
                (first | (refine step_append_lies _ rfl _ _ 60 rfl 0 108 i0 (.agg #[.int .i64 0, .int .i64 0, .string ⟨#[]⟩, .string ⟨#[]⟩, .int .i64 0]) 5 56 Try.underlying60 HI.out.1 HI.out.2.1 HI.out.2.2.1 HI.out.2.2.2 rfl (by decide) (.slice (some ⟨gB, 0, none⟩) (m2.length + m3.length) cB) (m2.length + m3.length) (cellsM (m2 ++ m3)) rfl ((O8.out.alloc _).row 0 (by simp) rfl) ⟨wC.heap.size, 0, none⟩ 1 1 (markOf kd).cells rfl rfl (new_news wC #[.int .i64 kd, .int .i64 0, .string ⟨#[]⟩, .string ⟨#[]⟩, .int .i64 0] _ _ rfl) (by intro u hu; exact cellsM_one [markOf kd] u (by simpa [cellsM] using hu)) (by omega) (by unfold maxLen; omega) (by omega) (Nat.zero_le _) _ rfl ?_; intro gE cE wE hown hgrow hat hlt3; rw [← cellsM_snoc] at hown; have O9 := Lib.hid ((O8.out.alloc (.cells #[.int .i64 kd, .int .i64 0, .string ⟨#[]⟩, .string ⟨#[]⟩, .int .i64 0] 108)).turn (i := 0) (by simp) rfl hgrow hown hat); have z1 := (O9.out.cell (i := 1) (n := 3) (by simp) rfl 1 (by omega)).1; simp only [List.map_cons, List.map_nil, List.getElem?_cons_zero, List.getElem?_cons_succ] at z1; have z2 := (O9.out.cell (i := 1) (n := 3) (by simp) rfl 2 (by omega)).1; simp only [List.map_cons, List.map_nil, List.getElem?_cons_zero, List.getElem?_cons_succ] at z2; clear hown hgrow hat hlt3) | (go_at_call 81; refine (pick_any B R a len cap k3 3 _ O7.out.rd (by have := HKB.out.1; omega) (by omega) (by omega)).mono ?_; rintro e wC ⟨vC, rfl, q0, q1, hRC, hKC⟩; have q2 := q1 (by omega); have O8 := Lib.hid (O7.out.picked hRC hKC); obtain ⟨kd, hw3, hd0, hd1⟩ := mark_kind vC q0 q2; have y1 := fun o => ((O8.out.alloc o).cell (i := 1) (n := 3) (by simp) rfl 1 (by omega)).1; simp only [List.map_cons, List.map_nil, List.getElem?_cons_zero, List.getElem?_cons_succ] at y1; have y2 := fun o => ((O8.out.alloc o).cell (i := 1) (n := 3) (by simp) rfl 2 (by omega)).1; simp only [List.map_cons, List.map_nil, List.getElem?_cons_zero, List.getElem?_cons_succ] at y2; have y3 := (O8.out.cell (i := 1) (n := 3) (by simp) rfl 1 (by omega)).1; simp only [List.map_cons, List.map_nil, List.getElem?_cons_zero, List.getElem?_cons_succ] at y3; have y4 := (O8.out.cell (i := 1) (n := 3) (by simp) rfl 2 (by omega)).1; simp only [List.map_cons, List.map_nil, List.getElem?_cons_zero, List.getElem?_cons_succ] at y4; clear hRC hKC q1) | (refine step_append_lies _ rfl _ _ 60 rfl 0 108 i0 (.agg #[.int .i64 0, .int .i64 0, .string ⟨#[]⟩, .string ⟨#[]⟩, .int .i64 0]) 5 56 Try.underlying60 HI.out.1 HI.out.2.1 HI.out.2.2.1 HI.out.2.2.2 rfl (by decide) (.slice (some ⟨gA, 0, none⟩) m2.length cA) m2.length (cellsM m2) rfl (O6.out.row 0 (by simp) rfl) ⟨g3, 0, none⟩ m3.length c3 (cellsM m3) rfl (cellsM_length m3) (marks_news (O6.out.row 4 (by simp) rfl)) (cellsM_one m3) h3a.1 (by unfold maxLen; omega) (by omega) (Nat.zero_le _) _ rfl ?_; intro gB cB wB hown hgrow hat hlt3; rw [← cellsM_append] at hown; have O7 := Lib.hid (O6.out.turn (i := 0) (by simp) rfl hgrow hown hat); have x7 := (O7.out.cell (i := 1) (n := 3) (by simp) rfl 1 (by omega)).1; simp only [List.map_cons, List.map_nil, List.getElem?_cons_zero, List.getElem?_cons_succ] at x7; have x8 := (O7.out.cell (i := 1) (n := 3) (by simp) rfl 2 (by omega)).1; simp only [List.map_cons, List.map_nil, List.getElem?_cons_zero, List.getElem?_cons_succ] at x8; clear hown hgrow hat hlt3) | (refine step_append_lies _ rfl _ _ 60 rfl 0 108 i0 (.agg #[.int .i64 0, .int .i64 0, .string ⟨#[]⟩, .string ⟨#[]⟩, .int .i64 0]) 5 56 Try.underlying60 HI.out.1 HI.out.2.1 HI.out.2.2.1 HI.out.2.2.2 rfl (by decide) (.slice (some ⟨wp.heap.size, 0, none⟩) 0 0) 0 [] rfl (O5.out.row 0 (by simp) rfl) ⟨g2, 0, none⟩ m2.length c2 (cellsM m2) rfl (cellsM_length m2) (marks_news (O5.out.row 3 (by simp) rfl)) (cellsM_one m2) h2a.1 (by unfold maxLen; omega) (by omega) (Nat.zero_le _) _ rfl ?_; intro gA cA wA hown hgrow hat hlt3; simp only [Nat.zero_add, List.nil_append] at hown ⊢; have O6 := Lib.hid (O5.out.turn (i := 0) (by simp) rfl hgrow hown hat); have x5 := (O6.out.cell (i := 1) (n := 3) (by simp) rfl 1 (by omega)).1; simp only [List.map_cons, List.map_nil, List.getElem?_cons_zero, List.getElem?_cons_succ] at x5; have x6 := (O6.out.cell (i := 1) (n := 3) (by simp) rfl 2 (by omega)).1; simp only [List.map_cons, List.map_nil, List.getElem?_cons_zero, List.getElem?_cons_succ] at x6; clear hown hgrow hat hlt3))
              all_goals
                have OA := Lib.hid (O9.out.lit #[] 60 0 1 rfl (Nat.zero_le _))
                go_wp2_with (first | (at_builtin; refine wpList_append_zero rfl _ _ 141 rfl 0 60 s0 1 Try.underlying141 HS.out.1 (.slice (some ⟨gG, 0, none⟩) 2 cG) 2 [.slice (some ⟨g1, 0, none⟩) m1.length c1, (.slice (some ⟨gE, 0, none⟩) (m2.length + m3.length + 1) cE)] rfl (OC.out.row 0 (by simp) rfl) _ _ rfl ?_; have OE := OC) | (at_builtin; refine wpList_append_lies _ rfl _ _ 141 rfl 0 60 s0 (.slice none 0 0) 1 24 Try.underlying141 HS.out.1 HS.out.2.1 HS.out.2.2.1 HS.out.2.2.2 rfl (by decide) (.slice (some ⟨gF, 0, none⟩) 1 cF) 1 [.slice (some ⟨g1, 0, none⟩) m1.length c1] rfl ((OB.out.alloc _).row 0 (by simp) rfl) ⟨wF.heap.size, 0, none⟩ 1 1 [(.slice (some ⟨gE, 0, none⟩) (m2.length + m3.length + 1) cE)] rfl rfl (new_news _ #[(.slice (some ⟨gE, 0, none⟩) (m2.length + m3.length + 1) cE)] _ _ (by simp)) (by simp [Value.oneCell']) (by omega) (by unfold maxLen; omega) (by omega) (Nat.zero_le _) _ rfl ?_; intro gG cG wG hown hgrow hat hlt3; have OC := Lib.hid ((OB.out.alloc _).turn (i := 0) (by simp) rfl hgrow hown hat); clear hown hgrow hat hlt3) | (at_builtin; refine wpList_append_lies _ rfl _ _ 141 rfl 0 60 s0 (.slice none 0 0) 1 24 Try.underlying141 HS.out.1 HS.out.2.1 HS.out.2.2.1 HS.out.2.2.2 rfl (by decide) (.slice (some ⟨wE.heap.size, 0, none⟩) 0 0) 0 [] rfl (OA.out.row 0 (by simp) rfl) ⟨go, 0, none⟩ 1 _ [.slice (some ⟨g1, 0, none⟩) m1.length c1] rfl rfl (seg_news (OA.out.row 2 (by simp) (n := 3) rfl) 0 _ rfl) (by simp [Value.oneCell']) (by omega) (by unfold maxLen; omega) (by omega) (Nat.zero_le _) _ rfl ?_; intro gF cF wF hown hgrow hat hlt3; simp only [Nat.zero_add, List.nil_append] at hown ⊢; have OB := Lib.hid (OA.out.turn (i := 0) (by simp) rfl hgrow hown hat); clear hown hgrow hat hlt3))
                go_roundw
                case rel =>
                  refine ⟨[(.slice (some ⟨g1, 0, none⟩) m1.length c1, m1), (.slice (some ⟨gE, 0, none⟩) (m2.length + m3.length + 1) cE, m2 ++ m3 ++ [markOf kd])], left, li, k3 + 1, HLI.out, by first | rfl | trivial, by omega, PartsOk.join (ps := [(.slice (some ⟨g1, 0, none⟩) m1.length c1, m1)]) (qs := []) (p := (.slice (some ⟨g2, 0, none⟩) m2.length c2, m2)) (r := (.slice (some ⟨g3, 0, none⟩) m3.length c3, m3)) (by omega) (by omega) HPO.out, by have := HKB.out.1; simp at this ⊢; omega, by have := HKB.out.2; omega, ?_⟩
                  have hz := (OE.out.sub (List.Sublist.cons_cons _ (List.Sublist.cons_cons _ (List.Sublist.cons _ (List.Sublist.cons_cons _ (List.nil_sublist _)))))).perm (List.Perm.cons _ (List.Perm.swap _ _ _))
                  simp only [List.map_cons, List.map_nil]
                  rw [innM_snoc _ (m2 ++ m3) (markOf kd) (m2.length + m3.length + 1) (by rw [List.length_append])]
                  exact hz
                case measure => simp [intOf, lenV]; try omega
        · simp at hn3 <;> omega
end Go.Proofs.Ytjdeahdngpccpaa
