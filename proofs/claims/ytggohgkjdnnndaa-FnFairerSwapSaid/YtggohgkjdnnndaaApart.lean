/- Things that a call owns, each in a block of its own: what stays when one of them turns. No program, no condition. -/
import Derived.Test.YtggohgkjdnnndaaReads
import Derived.Maps.AppendAt
import Derived.Maps.OwnSet
import Derived.Deep.Draws
import Derived.WalkSmall
namespace Go.Proofs.Ytggohgkjdnnndaa
open Go.RowKit

/-- something that is said of one block, or of none -/
structure Thing where
  blk : Option Nat
  says : World → Prop
  st : ∀ w w' : World, (∀ k, blk = some k → w'.heap[k]? = w.heap[k]?) → w.heap.size ≤ w'.heap.size → says w → says w'

/-- a slice whose row is the call's own -/
def rowT (e : TypeId) (size : Nat) (v : Value) (n : Nat) (xs : List Value) : Thing :=
  ⟨v.ownBlock, fun w => w.ownsRow 0 e size v n xs, by
    intro w w' hk _ h
    refine ⟨h.1, h.2.imp id ?_⟩
    rintro ⟨g, cap, cur, rfl, h1, h2, h3⟩
    exact ⟨g, cap, cur, rfl, h1, (hk g rfl).trans h2, h3⟩⟩
/-- a block of cells -/
def cellsT (b : Nat) (cs : Array Value) (t : TypeId) : Thing :=
  ⟨some b, fun w => w.heap[b]? = some (.cells cs t (0, 0)), fun _ _ hk _ h => (hk b rfl).trans h⟩
/-- a map that the call has made -/
def mapT {H : Type} (P : Program) (k : TypeId) (R : Value → Option (DataW H × List MemPlace)) (b n : Nat) (D : DataW H) : Thing :=
  ⟨some b, fun w => w.ownsMap P k R b n D, by
    intro w w' hk _ h
    obtain ⟨es, clock, hb, h3⟩ := h
    exact ⟨es, clock, (hk b rfl).trans hb, h3⟩⟩

/-- all are so, all lie from B on, no two in one block -/
structure Apart (B : Nat) (ts : List Thing) (w : World) : Prop where
  all : ∀ t ∈ ts, t.says w ∧ ∀ k, t.blk = some k → B ≤ k ∧ k < w.heap.size
  two : ts.Pairwise (fun s t => ∀ k, s.blk = some k → t.blk ≠ some k)

theorem Apart.nil (B : Nat) (w : World) : Apart B [] w := ⟨by simp, .nil⟩
theorem Apart.perm {B : Nat} {ts us : List Thing} {w : World} (h : Apart B ts w) (p : ts.Perm us) : Apart B us w :=
  ⟨fun t ht => h.all t (p.mem_iff.2 ht), (p.pairwise_iff (fun h k a b => h k b a)).1 h.two⟩
theorem Apart.tail {B : Nat} {t : Thing} {ts : List Thing} {w : World} (h : Apart B (t :: ts) w) : Apart B ts w :=
  ⟨fun u hu => h.all u (List.mem_cons_of_mem _ hu), (List.pairwise_cons.1 h.two).2⟩
theorem Apart.head {B : Nat} {t : Thing} {ts : List Thing} {w : World} (h : Apart B (t :: ts) w) : t.says w := (h.all t List.mem_cons_self).1
theorem Apart.lt {B : Nat} {t : Thing} {ts : List Thing} {w : World} (h : Apart B (t :: ts) w) : ∀ k, t.blk = some k → B ≤ k ∧ k < w.heap.size := (h.all t List.mem_cons_self).2
theorem Apart.mono {B B' : Nat} {ts : List Thing} {w : World} (h : Apart B ts w) (hB : B' ≤ B) : Apart B' ts w :=
  ⟨fun t ht => ⟨(h.all t ht).1, fun k hk => ⟨Nat.le_trans hB ((h.all t ht).2 k hk).1, ((h.all t ht).2 k hk).2⟩⟩, h.two⟩
/-- a step that turns what is of none of them -/
theorem Apart.other {B : Nat} {ts : List Thing} {w w' : World} {row : Option Nat} (h : Apart B ts w) (hg : w.grownBy w' row) (hr : ∀ k, row = some k → k < B) : Apart B ts w' :=
  ⟨fun t ht => ⟨t.st w w' (fun k hk => hg.block k ((h.all t ht).2 k hk).2 (fun e => by have := ((h.all t ht).2 k hk).1; have := hr k e.symm; omega)) hg.size (h.all t ht).1,
    fun k hk => ⟨((h.all t ht).2 k hk).1, Nat.lt_of_lt_of_le ((h.all t ht).2 k hk).2 hg.size⟩⟩, h.two⟩
theorem Apart.same {B : Nat} {ts : List Thing} {w w' : World} (h : Apart B ts w) (hg : w.grownBy w' none) : Apart B ts w' := h.other hg (fun _ e => by cases e)
/-- all things below a size stay over a step that keeps what lies below it -/
theorem Apart.below {B : Nat} {ts : List Thing} {w w' : World} (h : Apart B ts w) (hb : Below w.heap.size w w') : Apart B ts w' :=
  ⟨fun t ht => ⟨t.st w w' (fun k hk => hb.block k ((h.all t ht).2 k hk).2) hb.size (h.all t ht).1, fun k hk => ⟨((h.all t ht).2 k hk).1, Nat.lt_of_lt_of_le ((h.all t ht).2 k hk).2 hb.size⟩⟩, h.two⟩
/-- one more, in a new block -/
theorem Apart.more {B : Nat} {ts : List Thing} {w w' : World} (h : Apart B ts w) (hg : w.grownBy w' none) (t : Thing) (ht : t.says w') (hB : B ≤ w.heap.size) (hk : ∀ k, t.blk = some k → w.heap.size ≤ k ∧ k < w'.heap.size) : Apart B (t :: ts) w' := by
  have h' := h.same hg
  refine ⟨?_, List.pairwise_cons.2 ⟨fun u hu k e e' => ?_, h.two⟩⟩
  · intro u hu
    rcases List.mem_cons.1 hu with rfl | hu
    · exact ⟨ht, fun k e => ⟨Nat.le_trans hB (hk k e).1, (hk k e).2⟩⟩
    · exact h'.all u hu
  · have := ((h.all u hu).2 k e').2
    have := (hk k e).1
    omega
/-- one more, that lies in no block -/
theorem Apart.idle {B : Nat} {ts : List Thing} {w : World} (h : Apart B ts w) (t : Thing) (ht : t.says w) (hn : t.blk = none) : Apart B (t :: ts) w :=
  ⟨fun u hu => by
    rcases List.mem_cons.1 hu with rfl | hu
    · exact ⟨ht, fun k e => absurd (hn.symm.trans e) (by simp)⟩
    · exact h.all u hu, List.pairwise_cons.2 ⟨fun u _ k e => absurd (hn.symm.trans e) (by simp), h.two⟩⟩
/-- the first one turns, in its own block or into a new one -/
theorem Apart.turn {B : Nat} {t : Thing} {ts : List Thing} {w w' : World} (h : Apart B (t :: ts) w) (hg : w.grownBy w' t.blk) (t' : Thing) (ht : t'.says w') (hB : B ≤ w.heap.size)
    (hk : ∀ k, t'.blk = some k → (t.blk = some k ∨ w.heap.size ≤ k) ∧ k < w'.heap.size) : Apart B (t' :: ts) w' := by
  have h2 := List.pairwise_cons.1 h.two
  refine ⟨?_, List.pairwise_cons.2 ⟨fun u hu k e e' => ?_, h2.2⟩⟩
  · intro u hu
    rcases List.mem_cons.1 hu with rfl | hu
    · refine ⟨ht, fun k e => ⟨?_, (hk k e).2⟩⟩
      rcases (hk k e).1 with a | a
      · exact (h.lt k a).1
      · omega
    · have hu' := h.all u (List.mem_cons_of_mem _ hu)
      exact ⟨u.st w w' (fun k e => hg.block k (hu'.2 k e).2 (fun e' => h2.1 u hu k e'.symm e)) hg.size hu'.1, fun k e => ⟨(hu'.2 k e).1, Nat.lt_of_lt_of_le (hu'.2 k e).2 hg.size⟩⟩
  · rcases (hk k e).1 with a | a
    · exact h2.1 u hu k a e'
    · have := (h.all u (List.mem_cons_of_mem _ hu)).2 k e'
      omega
/-- what lies below B is as before, when one of them turned -/
theorem Apart.keeps {B : Nat} {t : Thing} {ts : List Thing} {w0 w w' : World} {C : Nat} (h : Apart B (t :: ts) w) (hb : Below C w0 w) (hg : w.grownBy w' t.blk) (hC : C ≤ B) (hC2 : C ≤ w.heap.size) : Below C w0 w' :=
  hb.grown hg hC2 (fun k e => Nat.le_trans hC (h.lt k e).1)

/-- a row that is owned from 0 on, owned from where its block lies -/
theorem ownsRow_base {w : World} {e : TypeId} {size : Nat} {v : Value} {n : Nat} {xs : List Value} {b B : Nat} (h : w.ownsRow b e size v n xs) (hk : ∀ k, v.ownBlock = some k → B ≤ k) : w.ownsRow B e size v n xs := by
  refine ⟨h.1, h.2.imp id ?_⟩
  rintro ⟨g, cap, cur, rfl, h1, h2⟩
  exact ⟨g, cap, cur, rfl, hk g rfl, h2⟩
theorem cellsT_cell {w : World} {b : Nat} {cs : Array Value} {t : TypeId} (h : (cellsT b cs t).says w) (i : Nat) : w.cell? ⟨b, i, none⟩ = cs[i]? := cell_of_row w b i cs t (0, 0) h
theorem cellsT_frozen {w : World} {b : Nat} {cs : Array Value} {t : TypeId} (h : (cellsT b cs t).says w) (i : Nat) : w.frozen? ⟨b, i, none⟩ = false := frozen_of_row w b i cs t h
theorem cellsT_set {w : World} {b : Nat} {cs : Array Value} {t : TypeId} (h : (cellsT b cs t).says w) (i : Nat) (u : Value) : (cellsT b (cs.setIfInBounds i u) t).says (w.setCell ⟨b, i, none⟩ u) := heap_setCell_same w b i cs t u h
theorem grown_setCell (w : World) (b i : Nat) (u : Value) : w.grownBy (w.setCell ⟨b, i, none⟩ u) (some b) :=
  ⟨rfl, rfl, rfl, by simp, fun k _ hk => heap_setCell_other w ⟨b, i, none⟩ k u (fun e => hk (by simp [e]))⟩
theorem grown_drewN (w : World) (n : Nat) (row : Option Nat) : w.grownBy (w.drewN n) row := ⟨rfl, rfl, rfl, Nat.le_refl _, fun _ _ _ => rfl⟩
theorem grown_drew (w : World) (row : Option Nat) : w.grownBy w.drew row := ⟨rfl, rfl, rfl, Nat.le_refl _, fun _ _ _ => rfl⟩
theorem grown_below {w w' : World} (h : Below w.heap.size w w') : w.grownBy w' none := ⟨h.os, h.tape, h.output, h.size, fun k hk _ => h.block k hk⟩
theorem grown_weaken {w w' : World} (h : w.grownBy w' none) (row : Option Nat) : w.grownBy w' row := ⟨h.os, h.tape, h.output, h.size, fun k hk _ => h.block k hk (fun e => by cases e)⟩
theorem grown_self (w : World) (row : Option Nat) : w.grownBy w row := ⟨rfl, rfl, rfl, Nat.le_refl _, fun _ _ _ => rfl⟩
/-- a store into a block of cells -/
theorem Apart.set {B b : Nat} {cs : Array Value} {t : TypeId} {ts : List Thing} {w : World} (h : Apart B (cellsT b cs t :: ts) w) (hB : B ≤ w.heap.size) (i : Nat) (u : Value) : Apart B (cellsT b (cs.setIfInBounds i u) t :: ts) (w.setCell ⟨b, i, none⟩ u) :=
  h.turn (grown_setCell w b i u) _ (cellsT_set h.head i u) hB (fun k e => ⟨.inl e, by have := h.lt k e; simpa using this.2⟩)
/-- a store into a row of one-cell elements -/
theorem Apart.setRow {B g n cap : Nat} {e : TypeId} {xs : List Value} {ts : List Thing} {w : World} (h : Apart B (rowT e 1 (.slice (some ⟨g, 0, none⟩) n cap) n xs :: ts) w) (hB : B ≤ w.heap.size) (i : Nat) (u : Value) :
    Apart B (rowT e 1 (.slice (some ⟨g, 0, none⟩) n cap) n (xs.set i u) :: ts) (w.setCell ⟨g, i, none⟩ u) :=
  h.turn (grown_setCell w g i u) _ (World.ownsRow.stored h.head i u).1 hB (fun k e => ⟨.inl e, by have := h.lt k e; simpa using this.2⟩)
end Go.Proofs.Ytggohgkjdnnndaa
