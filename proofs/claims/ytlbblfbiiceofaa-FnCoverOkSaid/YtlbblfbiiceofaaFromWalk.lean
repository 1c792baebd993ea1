/- The walk of machineFrom over numbers, whatever the two functions are. No condition. -/
import Derived.Test.YtlbblfbiiceofaaFrom
namespace Go.Proofs.Ytlbblfbiiceofaa
open Go.RowKit Go.Maps

/-- a machine in memory of its own -/
def MachNew (m : M) (w : World) (e : Ending) (w' : World) : Prop :=
  ∃ (a1 a2 : Option Addr) (c1 c2 : Nat), e = .returned (.agg #[.int .i64 m.st, .slice a1 m.next.length c1, .slice a2 m.ends.length c2]) ∧
    Apart w.heap.size [rowT 3 1 (.slice a1 m.next.length c1) m.next.length (m.next.map (Value.int .i64)), rowT 4 1 (.slice a2 m.ends.length c2) m.ends.length (m.ends.map Value.bool)] w' ∧ Below w.heap.size w w'

theorem bfsL_at {α : Type} [DecidableEq α] {on : α → Nat → Option α} {x : α} {q q' : List α} {nx nx' : List Int} {l n : Nat} (h : bfsL on x (q, nx) l = (q', nx')) (hn : n < q.length) : ∃ h' : n < q'.length, q'[n] = q[n] := by
  obtain ⟨t, ht⟩ := bfsL_prefix on x (q, nx) l
  rw [h] at ht
  simp only at ht
  subst ht
  exact ⟨by rw [List.length_append]; omega, List.getElem_append_left hn⟩
theorem bfsL_take {on : Int → Nat → Option Int} {x : Int} {q q' : List Int} {nx nx' : List Int} {l n : Nat} {ends : Int → Bool} (h : bfsL on x (q, nx) l = (q', nx')) (hn : n < q.length) (hx : q[n] = x) : (q'.take (n + 1)).map ends = (q.take n).map ends ++ [ends x] := by
  obtain ⟨t, ht⟩ := bfsL_prefix on x (q, nx) l
  rw [h] at ht
  simp only at ht
  subst ht
  rw [List.take_append_of_le_length (by omega), List.take_succ_eq_append_getElem hn, List.map_append, hx]; rfl
theorem has_int {q : List Int} (v : Int) : Maps.has (qD (H := Unit) intKey q) (.int .i64 v) = decide (v ∈ q) := qD_has intKey intKey_is q v (fun _ _ e => intKey_inj e)
theorem at_int {q : List Int} (v c : Int) (hn : q.Nodup) (hm : v ∈ q) (h : (qD (H := Unit) intKey q).atKey (.int .i64 v) (.lit (.int .i64 0)) = .lit (.int .i64 c)) : c = (q.idxOf v : Int) := by
  have := qD_at (H := Unit) intKey intKey_is q hn v (fun _ _ e => intKey_inj e) hm (.lit (.int .i64 0))
  rw [show intKey v = Lit.int .i64 v from rfl] at this
  rw [h] at this
  simpa using this

theorem from_start (w0 : World) (s0 : Int) (t : TypeId) {w1 : World} {M0 : World} (hM0 : M0 = (((w0.alloc (.cells #[.int .i64 0, .slice none 0 0, .slice none 0 0] 115)).alloc (.cells #[.int .i64 0, .slice none 0 0, .slice none 0 0] 115)).alloc (.cells #[.int .i64 s0] t)).alloc (.map #[] 0))
    (hm : w1.ownsMap (H := Unit) Try.prog 3 (plainElem Try.prog 3) (w0.heap.size + 1 + 1 + 1) 1 ((DataW.map []).put (intKey s0) (.lit (.int .i64 0)))) (hg : M0.grownBy w1 (some (w0.heap.size + 1 + 1 + 1))) (ht : t = 3) :
    From w0 w0.heap.size (w0.heap.size + 1) (w0.heap.size + 1 + 1 + 1) [s0] (.slice (some ⟨w0.heap.size + 1 + 1, 0, none⟩) 1 1) [] (.slice none 0 0) [] (.slice none 0 0) w1 := by
  subst hM0 ht
  have A1 := (Apart.nil w0.heap.size w0).more (World.grownBy_alloc w0 _ none) (cellsT w0.heap.size #[.int .i64 0, .slice none 0 0, .slice none 0 0] 115) (heap_alloc_new w0 _) (Nat.le_refl _) (fun j e => by cases e; simp)
  have A2 := A1.more (World.grownBy_alloc _ (.cells #[.int .i64 0, .slice none 0 0, .slice none 0 0] 115) none) (cellsT (w0.heap.size + 1) #[.int .i64 0, .slice none 0 0, .slice none 0 0] 115) (by have := heap_alloc_new (w0.alloc (.cells #[.int .i64 0, .slice none 0 0, .slice none 0 0] 115)) (.cells #[.int .i64 0, .slice none 0 0, .slice none 0 0] 115); rw [World.size_alloc] at this; exact this) (by simp) (fun j e => by cases e; simp)
  have A3 := A2.more (World.grownBy_alloc _ (.cells #[.int .i64 s0] 3) none) (rowT 3 1 (.slice (some ⟨w0.heap.size + 1 + 1, 0, none⟩) 1 1) 1 [.int .i64 s0]) (by
    have := World.ownsRow_lit (base := 0) (e := 3) (size := 1) ((w0.alloc (.cells #[.int .i64 0, .slice none 0 0, .slice none 0 0] 115)).alloc (.cells #[.int .i64 0, .slice none 0 0, .slice none 0 0] 115)) #[.int .i64 s0] 1 (Nat.zero_le _) (by unfold maxLen; omega) rfl
    rw [World.size_alloc, World.size_alloc] at this; exact this) (by simp; omega) (fun j e => by cases e; simp)
  have A4 := A3.more (World.grownBy_alloc _ (.map #[] 0) none) (mapT (H := Unit) Try.prog 3 (plainElem Try.prog 3) (w0.heap.size + 1 + 1 + 1) 0 (.map [])) (by
    have := World.ownsMap_made (H := Unit) (((w0.alloc (.cells #[.int .i64 0, .slice none 0 0, .slice none 0 0] 115)).alloc (.cells #[.int .i64 0, .slice none 0 0, .slice none 0 0] 115)).alloc (.cells #[.int .i64 s0] 3)) Try.prog 3 (plainElem Try.prog 3)
    rw [World.size_alloc, World.size_alloc, World.size_alloc] at this; exact this) (by simp; omega) (fun j e => by cases e; simp)
  have A5 := A4.turn hg (mapT (H := Unit) Try.prog 3 (plainElem Try.prog 3) (w0.heap.size + 1 + 1 + 1) 1 (qD intKey [s0])) hm (by simp; omega) (fun j e => ⟨.inl e, by have := A4.lt j e; exact Nat.lt_of_lt_of_le this.2 hg.size⟩)
  have A6 := (A5.idle (rowT 4 1 (.slice none 0 0) 0 []) (World.ownsRow_nil _ _ _ _) rfl).idle (rowT 3 1 (.slice none 0 0) 0 []) (World.ownsRow_nil _ _ _ _) rfl
  refine ⟨?_, ?_⟩
  · have hb := ((((Below.refl w0.heap.size w0).alloc (Nat.le_refl _) (.cells #[.int .i64 0, .slice none 0 0, .slice none 0 0] 115)).alloc (by simp) (.cells #[.int .i64 0, .slice none 0 0, .slice none 0 0] 115)).alloc (by simp; omega) (.cells #[.int .i64 s0] 3)).alloc (by simp; omega) (.map #[] 0)
    exact hb.grown hg hb.size (fun j e => by cases e; omega)
  · refine A6.perm ?_
    have p : ∀ (a b m q r7 r6 : Thing), [a, b, m, q, r7, r6].Perm [r7, a, b, q, m, r6] := fun a b m q r7 r6 => by
      have h1 : [a, b, m, q, r7, r6].Perm [a, b, q, m, r7, r6] := ((List.Perm.swap q m [r7, r6]).cons b).cons a
      have h2 : [a, b, q, m, r7, r6].Perm (r7 :: [a, b, q, m, r6]) := List.perm_middle (l₁ := [a, b, q, m]) (l₂ := [r6])
      exact h1.trans h2
    exact p _ _ _ _ _ _

end Go.Proofs.Ytlbblfbiiceofaa
