/- The laws' numbering of machines. No condition. -/
import Derived.Test.YtaghjddndgpljaaHeldC
import Derived.Test.YtaghjddndgpljaaMach
namespace Go.Proofs.Ytaghjddndgpljaa
open Go.RowKit

theorem below_grown {B : Nat} {w w' : World} {row : Option Nat} (hg : w.grownBy w' row) (hB : B ≤ w.heap.size) (hr : ∀ k, row = some k → B ≤ k) : Below B w w' := (Below.refl B w).grown hg hB hr

set_option maxHeartbeats 800000 in
theorem markMachine_any (B : Nat) (ts : List Thing) (st : Int) (nv ev : Value) (xs : List Int) (bs : List Bool) (k : Int) (w : World)
    (hA : Apart B (rowT 3 1 nv xs.length (xs.map (Value.int .i64)) :: rowT 4 1 ev bs.length (bs.map Value.bool) :: ts) w) (hB : B ≤ w.heap.size) (hx : xs.length ≤ 1100000) (hb : bs.length ≤ 1100000) (k0 : 0 ≤ k) (k1 : k ≤ 100000000) :
    Calls Try.prog 53 #[.agg #[.int .i64 st, nv, ev], .int .i64 k] w fun e w' => e = .returned (.int .i64 (k + xs.length + bs.length)) ∧
      Apart B (rowT 3 1 nv xs.length ((seqL k xs.length).map (Value.int .i64)) :: rowT 4 1 ev bs.length ((seqB (k + xs.length) bs.length).map Value.bool) :: ts) w' ∧ Below B w w' := by
  have hA1 := hA.same (World.grownBy_alloc w (.cells #[.int .i64 st, nv, ev] 26) none)
  have hlt := hA.lt
  have y1 : (w.alloc (.cells #[.int .i64 st, nv, ev] 26)).cell? ⟨w.heap.size, 1, none⟩ = some nv := World.cell?_alloc_new w _ _ 1
  have y2 : (w.alloc (.cells #[.int .i64 st, nv, ev] 26)).cell? ⟨w.heap.size, 2, none⟩ = some ev := World.cell?_alloc_new w _ _ 2
  have q1 := (Below.refl B w).alloc hB (.cells #[.int .i64 st, nv, ev] 26)
  have HA := Lib.hid hA1
  have HQ := Lib.hid q1
  have HL := Lib.hid hlt
  clear hA hA1 q1 hlt
  go_enter Try.func53, Try.ntmps53
  go_wp2_with fail
  refine (markIntS_any 0 nv xs k _ HA.out.head hx k0 (by omega)).mono ?_
  rintro e w2 ⟨rfl, ho2, hg2⟩
  have A2 := Lib.hid (HA.out.turn hg2 (rowT 3 1 nv xs.length ((seqL k xs.length).map (Value.int .i64))) ho2 (by simp; omega) (fun j e => ⟨.inl e, by have := (HA.out.lt j e).2; exact Nat.lt_of_lt_of_le this hg2.size⟩))
  have Q2 := Lib.hid (HQ.out.grown hg2 (by simp; omega) (fun j e => (HL.out j e).1))
  have z2 : w2.cell? ⟨w.heap.size, 2, none⟩ = some ev := hg2.cell y2 (fun e => by have := (HL.out w.heap.size e.symm).2; omega)
  clear ho2 hg2 y1 y2
  go_wp2_with fail
  clear z2
  have hs2 : B ≤ w2.heap.size := Nat.le_trans hB Q2.out.size
  refine (markBoolS_any 0 ev bs (k + xs.length) _ A2.out.tail.head hb (by omega) (by omega)).mono ?_
  rintro e w3 ⟨rfl, ho3, hg3⟩
  have hl3 := (A2.out.perm (List.Perm.swap _ _ _)).lt
  have A3 := Lib.hid (((A2.out.perm (List.Perm.swap _ _ _)).turn hg3 (rowT 4 1 ev bs.length ((seqB (k + xs.length) bs.length).map Value.bool)) ho3 hs2 (fun j e => ⟨.inl e, Nat.lt_of_lt_of_le (hl3 j e).2 hg3.size⟩)).perm (List.Perm.swap _ _ _))
  have Q3 := Lib.hid (Q2.out.grown hg3 hs2 (fun j e => (hl3 j e).1))
  clear ho3 hg3 hl3
  go_wp2_with fail
  go_ret
  exact ⟨rfl, A3.out, Q3.out⟩

set_option maxHeartbeats 800000 in
theorem heldMachine_any (st : Int) (nv ev : Value) (n1 n2 : Nat) (k : Int) (w : World) (h1 : IsInts w nv (seqL k n1)) (h2 : IsBools w ev (seqB (k + n1) n2)) (hx : n1 ≤ 1100000) (hb : n2 ≤ 1100000) (k0 : 0 ≤ k) (k1 : k ≤ 100000000) :
    Calls Try.prog 54 #[.agg #[.int .i64 st, nv, ev], .int .i64 k] w fun e w' => e = .returned (.int .i64 (k + n1 + n2)) ∧ Below w.heap.size w w' := by
  have y1 : (w.alloc (.cells #[.int .i64 st, nv, ev] 26)).cell? ⟨w.heap.size, 1, none⟩ = some nv := World.cell?_alloc_new w _ _ 1
  have y2 : (w.alloc (.cells #[.int .i64 st, nv, ev] 26)).cell? ⟨w.heap.size, 2, none⟩ = some ev := World.cell?_alloc_new w _ _ 2
  have q1 := (Below.refl w.heap.size w).alloc (Nat.le_refl _) (.cells #[.int .i64 st, nv, ev] 26)
  have H1 := Lib.hid (h1.below q1)
  have H2 := Lib.hid (h2.below q1)
  have HQ := Lib.hid q1
  clear h1 h2 q1
  go_enter Try.func54, Try.ntmps54
  go_wp2_with fail
  refine (heldIntS_any nv k n1 _ H1.out hx k0 (by omega)).mono ?_
  rintro e w2 ⟨rfl, rfl⟩
  have hge : ¬ (k + (n1 : Int) < 0) := by omega
  have hge2 : ¬ (k + (n1 : Int) + (n2 : Int) < 0) := by omega
  go_wp2_with fail
  refine (heldBoolS_any ev (k + n1) n2 _ H2.out hb (by omega) (by omega)).mono ?_
  rintro e w3 ⟨rfl, rfl⟩
  go_wp2_with fail
  go_ret
  exact ⟨rfl, HQ.out⟩
end Go.Proofs.Ytaghjddndgpljaa
