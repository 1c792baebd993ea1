/- The walk of FnExactLoadsOf: true at every roster and letter. Written by mkexswap2.py. No condition. -/
import Derived.Test.YtggohgkjdnnndaaExRosEx
import Derived.Test.YtggohgkjdnnndaaSwapLd
import Derived.Test.YtggohgkjdnnndaaHeld
namespace Go.Proofs.Ytggohgkjdnnndaa
open Go.RowKit

theorem owns_b {w w' : World} {base : Nat} {v : Value} {n : Nat} {xs : List Value} (h : w.ownsRow base 3 1 v n xs) (hb : Below w.heap.size w w') : w'.ownsRow base 3 1 v n xs := by
  refine ⟨h.1, h.2.imp id ?_⟩
  rintro ⟨g, cap, cur, rfl, h1, h2, h3⟩
  exact ⟨g, cap, cur, rfl, h1, (hb.block g (World.ownsRow.lt h g rfl).2).trans h2, h3⟩
theorem below_mark {w w1 w2 : World} {base : Nat} {v : Value} {n : Nat} {xs : List Value} (h : Below w.heap.size w w1) (ho : w1.ownsRow base 3 1 v n xs) (hb : w.heap.size ≤ base) (hg : w1.grownBy w2 v.ownBlock) : Below w.heap.size w w2 :=
  h.grown hg h.size (fun k e => Nat.le_trans hb (World.ownsRow.lt ho k e).1)
theorem ints_mark {w1 w2 : World} {base : Nat} {u v : Value} {xs : List Int} (h : w1.ownsRow base 3 1 u xs.length (xs.map (Value.int .i64))) (hne : ∀ k, u.ownBlock = some k → v.ownBlock ≠ some k) (hg : w1.grownBy w2 v.ownBlock) : w2.ownsRow base 3 1 u xs.length (xs.map (Value.int .i64)) := by
  refine ⟨h.1, h.2.imp id ?_⟩
  rintro ⟨g, cap, cur, rfl, h1, h2, h3⟩
  exact ⟨g, cap, cur, rfl, h1, (hg.block g (World.ownsRow.lt h g rfl).2 (fun e => hne g rfl e.symm)).trans h2, h3⟩
theorem eqInts_same (u v : Value) (xs : List Int) (w : World) (hu : IsInts w u xs) (hv : IsInts w v xs) :
    Calls Try.prog 40 #[u, v] w fun e w' => e = .returned (.bool true) ∧ Below w.heap.size w w' :=
  (eqIntS_any u v xs xs w hu hv).mono fun _ _ ⟨h, n, g⟩ => ⟨by rw [h]; simp, by rw [g]; exact below_drewN (Below.refl _ _) n⟩
theorem heldInts_b (v : Value) (m : Int) (L : Nat) (w : World) (h : IsInts w v (seqL m L)) (hx : L ≤ 1100000) (hm0 : 0 ≤ m) (hm : m ≤ 1000000000) :
    Calls Try.prog 42 #[v, .int .i64 m] w fun e w' => e = .returned (.int .i64 (m + L)) ∧ Below w.heap.size w w' :=
  (heldIntS_any v m L w h hx hm0 hm).mono fun _ _ ⟨h, g⟩ => ⟨h, by rw [← g]; exact Below.refl _ _⟩
theorem loadsFor_len (xs : List ByteArray) (t : ByteArray) : (loadsFor xs t).length ≤ 4 := by
  unfold loadsFor
  split
  · rename_i h
    simp only [Bool.and_eq_true] at h
    rw [loadRow_length]; exact (rosterOk_iff.1 h.1).2.1
  · exact Nat.zero_le _

set_option maxHeartbeats 3200000 in
theorem exactLoadsOf_walk {w : World} (v : Value) (xs : List ByteArray) (h : IsStrs w v xs) (hwf : Short xs) (t : ByteArray) (ht : t.size ≤ maxLen) :
    Calls Try.prog 11 #[v, .string t] w fun e w' => e = .returned (.bool true) ∧ Below w.heap.size w w' := by
  have H := Lib.hid h
  have HWF := Lib.hid hwf
  have hbd := loadsFor_len xs t
  have HSP : Hid (∀ (W : World) (u : Value), IsStrs W u xs → Calls Try.prog 30 #[u, .string t] W (CopyPost (loadsFor xs t) W)) := Lib.hid (fun W u h => specLoads_any u xs hwf t W h)
  have HIM : Hid (∀ (W : World) (u : Value), IsStrs W u xs → Calls Try.prog 28 #[u, .string t] W (CopyPost (loadsFor xs t) W)) := Lib.hid (fun W u h => implLoads_any u xs hwf t ht W h)
  obtain ⟨a, cap, rfl, hcp, hmx⟩ := h.form
  clear h hwf
  generalize loadsFor xs t = ys at *
  have HYY : Hid ((ys == ys) = true) := by
    have : (ys == ys) = true := by simp
    exact Lib.hid this
  unfold maxLen at ht
  by_cases hbig : 1048576 < t.size
  · go_enter Try.func11, Try.ntmps11
    go_wp2_with fail
    go_ret
    exact ⟨rfl, Below.refl _ _⟩
  go_enter Try.func11, Try.ntmps11
  go_wp2_with fail
  refine (szStringS_any xs HWF.out _ _ H.out 1048576 (by omega) (by omega)).mono ?_
  rintro e w0 ⟨⟨lf, rfl, hlf1, hlf2, hlf3⟩, hb0⟩
  have B0 := Lib.hid hb0
  clear hb0
  by_cases hlf : lf < 0
  · go_wp2_with fail
    go_ret
    exact ⟨rfl, B0.out⟩
  have hl1 : xs.length ≤ 1048576 := hlf3 (by omega)
  go_wp2_with fail
  refine (toStringS_any _ xs _ (H.out.below B0.out) hl1).mono ?_
  rintro e w1 ⟨v1, rfl, ho1, hb1⟩
  have B1 := Lib.hid (B0.out.trans (hb1.mono B0.out.size))
  have I1 := Lib.hid (IsStrs.of_owns ho1)
  clear ho1 hb1
  go_wp2_with fail
  refine (HSP.out w1 v1 I1.out).mono ?_
  rintro e w2 ⟨v2, rfl, ho, hb⟩
  have B2 := Lib.hid (B1.out.trans (hb.mono B1.out.size))
  have S2 := Lib.hid (IsInts.of_owns ho)
  clear ho hb
  go_wp2_with fail
  refine (toStringS_any _ xs _ (H.out.below B2.out) hl1).mono ?_
  rintro e w3 ⟨v3, rfl, ho, hb⟩
  have C3 := Lib.hid hb
  have X3 := Lib.hid ho
  have I3 := Lib.hid (IsStrs.of_owns ho)
  clear ho hb
  go_wp2_with fail
  refine (HIM.out w3 v3 I3.out).mono ?_
  rintro e w4 ⟨v4, rfl, ho, hb⟩
  have C4 := Lib.hid (C3.out.trans (hb.mono C3.out.size))
  have X4 := Lib.hid (owns_belowS X3.out hb)
  have G4 := Lib.hid ho
  have HNE : Hid (∀ k, v4.ownBlock = some k → v3.ownBlock ≠ some k) := by
    have : ∀ k, v4.ownBlock = some k → v3.ownBlock ≠ some k := fun k e e' => by
      have h1 := (World.ownsRow.lt ho k e).1
      have h2 := (World.ownsRow.lt X3.out k e').2
      omega
    exact Lib.hid this
  clear ho hb
  go_wp2_with fail
  refine (eqInts_same v4 v2 ys _ (IsInts.of_owns G4.out) (S2.out.below C4.out)).mono ?_
  rintro e w5 ⟨rfl, hd⟩
  have C5 := Lib.hid (C4.out.trans (hd.mono C4.out.size))
  have X5 := Lib.hid (owns_belowS X4.out hd)
  have G5 := Lib.hid (owns_b G4.out hd)
  clear hd
  go_wp2_with fail
  refine (toStringS_any _ xs _ (H.out.below (B2.out.trans (C5.out.mono B2.out.size))) hl1).mono ?_
  rintro e w6 ⟨v6, rfl, ho, hb⟩
  have C6 := Lib.hid (C5.out.trans (hb.mono C5.out.size))
  have X6 := Lib.hid (owns_belowS X5.out hb)
  have G6 := Lib.hid (owns_b G5.out hb)
  have I6 := Lib.hid (IsStrs.of_owns ho)
  clear ho hb
  go_wp2_with fail
  refine (eqStringS_sameX v3 v6 xs _ (IsStrs.of_owns X6.out) I6.out).mono ?_
  rintro e w7 ⟨rfl, hd⟩
  have C7 := Lib.hid (C6.out.trans (hd.mono C6.out.size))
  have X7 := Lib.hid (owns_belowS X6.out hd)
  have G7 := Lib.hid (owns_b G6.out hd)
  clear hd
  go_wp2_with fail
  refine (markStringS_any w2.heap.size v3 xs 1 _ X7.out (by omega) (by omega) (by omega)).mono ?_
  rintro e w8 ⟨rfl, ho8, hg8⟩
  have C8 := Lib.hid (below_markS C7.out X7.out (Nat.le_refl _) hg8)
  have G8 := Lib.hid (ints_mark G7.out HNE.out hg8)
  clear ho8 hg8
  go_wp2_with fail
  refine (eqInts_same v4 v2 ys _ (IsInts.of_owns G8.out) (S2.out.below C8.out)).mono ?_
  rintro e w9 ⟨rfl, hd⟩
  have C9 := Lib.hid (C8.out.trans (hd.mono C8.out.size))
  have G9 := Lib.hid (owns_b G8.out hd)
  clear hd
  go_wp2_with fail
  refine (markIntS_any w3.heap.size v4 ys 1 _ G9.out (by omega) (by omega) (by omega)).mono ?_
  rintro e w10 ⟨rfl, ho10, hg10⟩
  have C10 := Lib.hid (below_mark C9.out G9.out C3.out.size hg10)
  have G10 : Hid (IsInts w10 v4 (seqL 1 ys.length)) := Lib.hid (IsInts.of_owns (by rw [seqL_length]; exact ho10))
  clear ho10 hg10
  go_wp2_with fail
  refine (heldInts_b v4 1 ys.length _ G10.out (by omega) (by omega) (by omega)).mono ?_
  rintro e w11 ⟨rfl, hd⟩
  have C11 := Lib.hid (C10.out.trans (hd.mono C10.out.size))
  have G11 := Lib.hid (G10.out.below hd)
  clear hd
  have hne : ((1 : Int) + (ys.length : Int) != 1 + (ys.length : Int)) = false := by simp
  go_wp2_with fail
  refine (toStringS_any _ xs _ (H.out.below (B2.out.trans (C11.out.mono B2.out.size))) hl1).mono ?_
  rintro e w12 ⟨v12, rfl, ho, hb⟩
  have C12 := Lib.hid (C11.out.trans (hb.mono C11.out.size))
  have G12 := Lib.hid (G11.out.below hb)
  have I12 := Lib.hid (IsStrs.of_owns ho)
  clear ho hb
  go_wp2_with fail
  refine (HIM.out w12 v12 I12.out).mono ?_
  rintro e w13 ⟨v13, rfl, ho, hb⟩
  have C13 := Lib.hid (C12.out.trans (hb.mono C12.out.size))
  have G13 := Lib.hid (G12.out.below hb)
  have I13 := Lib.hid (IsInts.of_owns ho)
  clear ho hb
  go_wp2_with fail
  refine (eqInts_same v13 v2 ys _ I13.out (S2.out.below C13.out)).mono ?_
  rintro e w14 ⟨rfl, hd⟩
  have C14 := Lib.hid (C13.out.trans (hd.mono C13.out.size))
  have G14 := Lib.hid (G13.out.below hd)
  clear hd
  go_wp2_with fail
  refine (heldInts_b v4 1 ys.length _ G14.out (by omega) (by omega) (by omega)).mono ?_
  rintro e w15 ⟨rfl, hd⟩
  have C15 := Lib.hid (C14.out.trans (hd.mono C14.out.size))
  clear hd
  go_wp2_with fail
  go_ret
  exact ⟨rfl, B2.out.trans (C15.out.mono B2.out.size)⟩
end Go.Proofs.Ytggohgkjdnnndaa
