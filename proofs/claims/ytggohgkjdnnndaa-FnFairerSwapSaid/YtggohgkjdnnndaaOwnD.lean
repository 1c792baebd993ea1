/- Rows that a call owns, by their places in a list: what stays and what turns. No program, no condition. -/
import Derived.Test.YtggohgkjdnnndaaQueue
namespace Go.Proofs.Ytggohgkjdnnndaa
open Go.RowKit

/-- what lies below stays, and the call owns these things -/
structure Own (wB : World) (ts : List Thing) (w : World) : Prop where
  keep : Below wB.heap.size wB w
  ap : Apart wB.heap.size ts w
section
variable {wB : World} {ts : List Thing} {w w' : World}
theorem Own.nil (w : World) : Own w [] w := ⟨Below.refl _ _, Apart.nil _ _⟩
theorem Own.size (h : Own wB ts w) : wB.heap.size ≤ w.heap.size := h.keep.size
theorem Own.same (h : Own wB ts w) (hg : w.grownBy w' none) : Own wB ts w' := ⟨h.keep.grown hg h.size (fun _ e => by cases e), h.ap.same hg⟩
theorem Own.below (h : Own wB ts w) (hb : Below w.heap.size w w') : Own wB ts w' := h.same (grown_below hb)
theorem Own.alloc (h : Own wB ts w) (o : Obj) : Own wB ts (w.alloc o) := h.same (World.grownBy_alloc w o none)
theorem Own.drewN (h : Own wB ts w) (n : Nat) : Own wB ts (w.drewN n) := h.same (grown_drewN w n none)
theorem Own.sub (h : Own wB ts w) {us : List Thing} (s : us.Sublist ts) : Own wB us w := ⟨h.keep, h.ap.sub s⟩
theorem Own.perm (h : Own wB ts w) {us : List Thing} (s : ts.Perm us) : Own wB us w := ⟨h.keep, h.ap.perm s⟩
theorem Own.row (h : Own wB ts w) (i : Nat) (hi : i < ts.length) {e : TypeId} {v : Value} {n : Nat} {xs : List Value} (he : ts[i] = rowT e 1 v n xs) : w.ownsRow 0 e 1 v n xs := by
  have := h.ap.at i hi
  rw [he] at this; exact this
theorem Own.cells (h : Own wB ts w) (i : Nat) (hi : i < ts.length) {b : Nat} {cs : Array Value} {t : TypeId} (he : ts[i] = cellsT b cs t) : (cellsT b cs t).says w := by
  have := h.ap.at i hi
  rw [he] at this; exact this
/-- one more in a row -/
theorem Own.push {i g cp n : Nat} {e : TypeId} {v x : Value} {xs : List Value} {tt : TypeId} {w1 : World} (h : Own wB ts w) (hi : i < ts.length) (he : ts[i] = rowT e 1 v n xs) (hg : (w.alloc (.cells #[x] tt)).grownBy w1 v.ownBlock)
    (ho : w1.ownsRow 0 e 1 (.slice (some ⟨g, 0, none⟩) (n + 1) cp) (n + 1) (xs ++ [x])) (hat : v.ownBlock = some g ∨ g = (w.alloc (.cells #[x] tt)).heap.size) :
    Own wB (ts.set i (rowT e 1 (.slice (some ⟨g, 0, none⟩) (n + 1) cp) (n + 1) (xs ++ [x]))) w1 := by
  have h1 := h.alloc (.cells #[x] tt)
  have hlt := h1.ap.ltAt i hi
  rw [he] at hlt
  exact ⟨h1.keep.grown hg h1.size (fun j e => (hlt j e).1), h1.ap.turnAt i hi (by rw [he]; exact hg) _ ho h1.size
    (fun j e => ⟨by rw [he]; cases e; exact hat.imp id (fun e => Nat.le_of_eq e.symm), (World.ownsRow.lt ho j e).2⟩)⟩
/-- a store into a row -/
theorem Own.store {i g cap n : Nat} {e : TypeId} {xs : List Value} (h : Own wB ts w) (hi : i < ts.length) (he : ts[i] = rowT e 1 (.slice (some ⟨g, 0, none⟩) n cap) n xs) (j : Nat) (u : Value) :
    Own wB (ts.set i (rowT e 1 (.slice (some ⟨g, 0, none⟩) n cap) n (xs.set j u))) (w.setCell ⟨g, j, none⟩ u) := by
  have hlt := h.ap.ltAt i hi
  rw [he] at hlt
  refine ⟨h.keep.setCell (p := ⟨g, j, none⟩) (hlt g rfl).1 _, h.ap.turnAt i hi (by rw [he]; exact grown_setCell w g j u) _ (World.ownsRow.stored (h.row i hi he) j u).1 h.size ?_⟩
  intro k e
  exact ⟨.inl (by rw [he]; exact e), by have := (hlt k e).2; simpa using this⟩
/-- a store into a block of cells -/
theorem Own.put {i b : Nat} {cs : Array Value} {t : TypeId} (h : Own wB ts w) (hi : i < ts.length) (he : ts[i] = cellsT b cs t) (j : Nat) (u : Value) :
    Own wB (ts.set i (cellsT b (cs.setIfInBounds j u) t)) (w.setCell ⟨b, j, none⟩ u) := by
  have hlt := h.ap.ltAt i hi
  rw [he] at hlt
  exact ⟨h.keep.setCell (p := ⟨b, j, none⟩) (hlt b rfl).1 _, h.ap.setAt i hi he h.size j u⟩
/-- a new block of cells -/
theorem Own.box (h : Own wB ts w) (cs : Array Value) (t : TypeId) : Own wB (cellsT w.heap.size cs t :: ts) (w.alloc (.cells cs t)) :=
  ⟨(h.alloc _).keep, h.ap.more (World.grownBy_alloc w _ none) _ (heap_alloc_new w _) h.size (fun j e => by cases e; simp)⟩
/-- a new row, written out -/
theorem Own.lit (h : Own wB ts w) (e : TypeId) (xs : Array Value) (n : Nat) (hn : xs.size = n) (hm : n ≤ maxLen) : Own wB (rowT e 1 (.slice (some ⟨w.heap.size, 0, none⟩) n n) n xs.toList :: ts) (w.alloc (.cells xs e)) :=
  ⟨(h.alloc _).keep, h.ap.more (World.grownBy_alloc w _ none) _ (World.ownsRow_lit (base := 0) w xs n (Nat.zero_le _) hm (by omega)) h.size (fun j e => by cases e; simp)⟩
/-- a new row of its own that a step has made -/
theorem Own.new {b n cap : Nat} {e : TypeId} {xs : List Value} (h : Own wB ts w) (hg : w.grownBy w' none) (ho : w'.ownsRow b e 1 (.slice (some ⟨w.heap.size, 0, none⟩) n cap) n xs) : Own wB (rowT e 1 (.slice (some ⟨w.heap.size, 0, none⟩) n cap) n xs :: ts) w' :=
  ⟨(h.same hg).keep, h.ap.more hg _ (ownsRow_base ho (fun _ _ => Nat.zero_le _)) h.size (fun k e => by
    have hl := World.ownsRow.lt ho k e
    cases e
    exact ⟨Nat.le_refl _, hl.2⟩)⟩
theorem Own.idle (h : Own wB ts w) (e : TypeId) : Own wB (rowT e 1 (.slice none 0 0) 0 [] :: ts) w := ⟨h.keep, h.ap.idle _ (World.ownsRow_nil _ _ _ _) rfl⟩
end
end Go.Proofs.Ytggohgkjdnnndaa
