/- The walks of FnExactFairerOk, FnExactSortedLoads, FnExactGivenOn, FnExactFairestOf: true at every argument. Written by mkexload2.py. No condition. -/
import Derived.Test.YthdpeholeelhdaaLoadSpec2
import Derived.Test.YthdpeholeelhdaaHeld
namespace Go.Proofs.Ythdpeholeelhdaa
open Go.RowKit

theorem owns_b {w w' : World} {base : Nat} {v : Value} {n : Nat} {xs : List Value} (h : w.ownsRow base 3 1 v n xs) (hb : Below w.heap.size w w') : w'.ownsRow base 3 1 v n xs := by
  refine ⟨h.1, h.2.imp id ?_⟩
  rintro ⟨g, cap, cur, rfl, h1, h2, h3⟩
  exact ⟨g, cap, cur, rfl, h1, (hb.block g (World.ownsRow.lt h g rfl).2).trans h2, h3⟩
theorem below_mark {w w1 w2 : World} {base : Nat} {v : Value} {n : Nat} {xs : List Value} (h : Below w.heap.size w w1) (ho : w1.ownsRow base 3 1 v n xs) (hb : w.heap.size ≤ base) (hg : w1.grownBy w2 v.ownBlock) : Below w.heap.size w w2 :=
  h.grown hg h.size (fun k e => Nat.le_trans hb (World.ownsRow.lt ho k e).1)
/-- a row that lies below another row's base stays when that one is marked -/
theorem ints_mark {w1 w2 : World} {base : Nat} {u v : Value} {xs : List Int} (h : w1.ownsRow base 3 1 u xs.length (xs.map (Value.int .i64))) (hne : ∀ k, u.ownBlock = some k → v.ownBlock ≠ some k) (hg : w1.grownBy w2 v.ownBlock) : w2.ownsRow base 3 1 u xs.length (xs.map (Value.int .i64)) := by
  refine ⟨h.1, h.2.imp id ?_⟩
  rintro ⟨g, cap, cur, rfl, h1, h2, h3⟩
  exact ⟨g, cap, cur, rfl, h1, (hg.block g (World.ownsRow.lt h g rfl).2 (fun e => hne g rfl e.symm)).trans h2, h3⟩
theorem sortedOf_len (xs : List Int) : (sortedOf xs).length ≤ 6 := by
  cases h : loadsOk xs with
  | false => rw [sortedOf_no h]; exact Nat.zero_le _
  | true => rw [sortedOf_yes h, sortD_length]; exact (loadsOk_iff.1 h).2.1
theorem fairest_len (p d : Int) : (fairest p d).length ≤ 6 := by
  unfold fairest
  split
  · rename_i h
    simp only [Bool.and_eq_true, decide_eq_true_eq] at h
    rw [even_length]; omega
  · exact Nat.zero_le _
theorem givList_len (xs : List Int) (f t : Int) : (givList xs f t).length ≤ 6 := by
  unfold givList
  split
  · rename_i h
    rw [givRow_length]
    exact (loadsOk_iff.1 (givOk_iff.1 h).1).2.1
  · exact Nat.zero_le _

/-- a row and a truth, in memory of the call's own -/
def GivP (ys : List Int) (b : Bool) (w : World) (e : Ending) (w' : World) : Prop := ∃ v, e = .returned (.tuple #[v, .bool b]) ∧ w'.ownsRow w.heap.size 3 1 v ys.length (ys.map (Value.int .i64)) ∧ Below w.heap.size w w'

set_option maxHeartbeats 1600000 in
theorem exactFairerOk_walk {w : World} (u : Value) (xs : List Int) (hu : IsInts w u xs) (v : Value) (ys : List Int) (hv : IsInts w v ys) :
    Calls Try.prog 15 #[u, v] w fun e w' => e = .returned (.bool true) ∧ Below w.heap.size w w' := by
  have H := Lib.hid hu
  have HV := Lib.hid hv
  have HSP : Hid (∀ (W : World) (a b : Value), IsInts W a xs → IsInts W b ys → Calls Try.prog 36 #[a, b] W fun e w' => e = .returned (.bool (fairB xs ys)) ∧ Below W.heap.size W w') := Lib.hid (fun W a b h1 h2 => specFairerOk_any a b xs ys W h1 h2)
  have HIM : Hid (∀ (W : World) (a b : Value), IsInts W a xs → IsInts W b ys → Calls Try.prog 27 #[a, b] W fun e w' => e = .returned (.bool (fairB xs ys)) ∧ Below W.heap.size W w') := Lib.hid (fun W a b h1 h2 => implFairerOk_any a b xs ys W h1 h2)
  generalize fairB xs ys = r at HSP HIM
  have hne : (r != r) = false := by simp
  obtain ⟨a, cap, rfl, hmx⟩ : ∃ a cap, u = .slice a xs.length cap ∧ xs.length ≤ 9223372036854775807 := by obtain ⟨a, cap, rfl, h1, h2, _⟩ := hu; unfold maxLen at h2; exact ⟨a, cap, rfl, by omega⟩
  obtain ⟨b, cbp, rfl, hmy⟩ : ∃ a cap, v = .slice a ys.length cap ∧ ys.length ≤ 9223372036854775807 := by obtain ⟨a, cap, rfl, h1, h2, _⟩ := hv; unfold maxLen at h2; exact ⟨a, cap, rfl, by omega⟩
  clear hu hv
  have HXX : Hid ((xs == xs) = true) := by
    have : (xs == xs) = true := by simp
    exact Lib.hid this
  have HYY : Hid ((ys == ys) = true) := by
    have : (ys == ys) = true := by simp
    exact Lib.hid this
  by_cases hbig : 1048576 < xs.length
  · go_enter Try.func15, Try.ntmps15
    go_wp2
    go_ret
    exact ⟨rfl, Below.refl _ _⟩
  by_cases hbig2 : 1048576 < ys.length
  · go_enter Try.func15, Try.ntmps15
    go_wp2
    go_ret
    exact ⟨rfl, Below.refl _ _⟩
  have hl1 : xs.length ≤ 1048576 := by omega
  have hl2 : ys.length ≤ 1048576 := by omega
  go_enter Try.func15, Try.ntmps15
  go_wp2_with fail
  refine (toIntS_any _ xs _ H.out hl1).mono ?_
  rintro e w1 ⟨v1, rfl, ho1, hb1⟩
  have B1 := Lib.hid hb1
  have I1 := Lib.hid (IsInts.of_owns ho1)
  clear ho1 hb1
  go_wp2_with fail
  refine (toIntS_any _ ys _ (HV.out.below B1.out) hl2).mono ?_
  rintro e w1b ⟨v1b, rfl, ho1, hb1⟩
  have B1b := Lib.hid (B1.out.trans (hb1.mono B1.out.size))
  have I1a := Lib.hid (I1.out.below hb1)
  have I1b := Lib.hid (IsInts.of_owns ho1)
  clear ho1 hb1
  go_wp2_with fail
  refine (HSP.out w1b v1 v1b I1a.out I1b.out).mono ?_
  rintro e w2 ⟨rfl, hb2⟩
  have B2 := Lib.hid (B1b.out.trans (hb2.mono B1b.out.size))
  clear hb2
  go_wp2_with fail
  refine (toIntS_any _ xs _ (H.out.below B2.out) hl1).mono ?_
  rintro e w3 ⟨v3, rfl, ho3, hb3⟩
  have B3 := Lib.hid (B2.out.trans (hb3.mono B2.out.size))
  have I3 := Lib.hid (IsInts.of_owns ho3)
  clear ho3 hb3
  go_wp2_with fail
  refine (toIntS_any _ ys _ (HV.out.below B3.out) hl2).mono ?_
  rintro e w3b ⟨v3b, rfl, ho3, hb3⟩
  have B3b := Lib.hid (B3.out.trans (hb3.mono B3.out.size))
  have I3a := Lib.hid (I3.out.below hb3)
  have I3b := Lib.hid (IsInts.of_owns ho3)
  clear ho3 hb3
  go_wp2_with fail
  refine (HIM.out w3b v3 v3b I3a.out I3b.out).mono ?_
  rintro e w4 ⟨rfl, hb4⟩
  have B4 := Lib.hid (B3b.out.trans (hb4.mono B3b.out.size))
  have I4 := Lib.hid (I3a.out.below hb4)
  have J4 := Lib.hid (I3b.out.below hb4)
  clear hb4
  go_wp2_with fail
  refine (toIntS_any _ xs _ (H.out.below B4.out) hl1).mono ?_
  rintro e w5 ⟨v5, rfl, ho5, hb5⟩
  have B5 := Lib.hid (B4.out.trans (hb5.mono B4.out.size))
  have I5 := Lib.hid (IsInts.of_owns ho5)
  have I5a := Lib.hid (I4.out.below hb5)
  have J5 := Lib.hid (J4.out.below hb5)
  clear ho5 hb5
  go_wp2_with fail
  refine (eqIntS_any v3 v5 xs xs _ I5a.out I5.out).mono ?_
  rintro e w6 ⟨rfl, n6, rfl⟩
  rw [HXX.out]
  have B6 := Lib.hid (below_drewN B5.out n6)
  have J6 := Lib.hid (J5.out.below (below_drewN (Below.refl _ _) n6))
  generalize w5.drewN n6 = w6 at *
  go_wp2_with fail
  refine (toIntS_any _ ys _ (HV.out.below B6.out) hl2).mono ?_
  rintro e w7 ⟨v7, rfl, ho7, hb7⟩
  have B7 := Lib.hid (B6.out.trans (hb7.mono B6.out.size))
  have I7 := Lib.hid (IsInts.of_owns ho7)
  have J7 := Lib.hid (J6.out.below hb7)
  clear ho7 hb7
  go_wp2_with fail
  refine (eqIntS_any v3b v7 ys ys _ J7.out I7.out).mono ?_
  rintro e w8 ⟨rfl, n8, rfl⟩
  rw [HYY.out]
  go_wp2
  go_ret
  exact ⟨rfl, below_drewN B7.out n8⟩

set_option maxHeartbeats 1600000 in
theorem exactFairestOf_walk {w : World} (p : Int) (_hp : (Lit.int .i64 p).wf = true) (d : Int) (_hd : (Lit.int .i64 d).wf = true) :
    Calls Try.prog 17 #[.int .i64 p, .int .i64 d] w fun e w' => e = .returned (.bool true) ∧ Below w.heap.size w w' := by
  have hbd := fairest_len p d
  have HSP : Hid (∀ (W : World), Calls Try.prog 42 #[.int .i64 p, .int .i64 d] W (CopyPost (fairest p d) W)) := Lib.hid (fun W => specFairestOf_any p d W)
  have HIM : Hid (∀ (W : World), Calls Try.prog 37 #[.int .i64 p, .int .i64 d] W (CopyPost (fairest p d) W)) := Lib.hid (fun W => implFairestOf_any p d W)
  generalize fairest p d = ys at *
  have HYY : Hid ((ys == ys) = true) := by
    have : (ys == ys) = true := by simp
    exact Lib.hid this
  go_enter Try.func17, Try.ntmps17
  go_wp2_with fail
  refine (HSP.out w).mono ?_
  rintro e w1 ⟨v0, rfl, ho0, hb1⟩
  go_wp2_with fail
  refine (HIM.out w1).mono ?_
  rintro e w2 ⟨v1, rfl, ho1, hb2⟩
  have h00 : IsInts w1 v0 ys := IsInts.of_owns ho0
  have h01 := h00.below hb2
  have h1 : IsInts w2 v1 ys := IsInts.of_owns ho1
  go_wp2_with fail
  refine (eqIntS_any v1 v0 ys ys _ h1 h01).mono ?_
  rintro e w3 ⟨rfl, n3, rfl⟩
  rw [HYY.out]
  go_wp2_with fail
  refine (markIntS_any w1.heap.size v1 ys 1 _ (owns_b ho1 (below_drewN (Below.refl _ _) n3)) (by omega) (by omega) (by omega)).mono ?_
  rintro e w4 ⟨rfl, ho4, hg4⟩
  have hb4 : Below w1.heap.size w1 w4 := (below_drewN hb2 n3).grown hg4 hb2.size (fun k e => (ho1.lt k e).1)
  have h04 := h00.below hb4
  have h14 : IsInts w4 v1 (seqL 1 ys.length) := IsInts.of_owns (by rw [seqL_length]; exact ho4)
  go_wp2_with fail
  refine (heldIntS_any v1 1 ys.length _ h14 (by omega) (by omega) (by omega)).mono ?_
  rintro e w5 ⟨rfl, rfl⟩
  have hne : ((1 : Int) + (ys.length : Int) != 1 + (ys.length : Int)) = false := by simp
  go_wp2_with fail
  refine (HIM.out w4).mono ?_
  rintro e w6 ⟨v2, rfl, ho6, hb6⟩
  have h06 := h04.below hb6
  have h26 : IsInts w6 v2 ys := IsInts.of_owns ho6
  have h16 := h14.below hb6
  go_wp2_with fail
  refine (eqIntS_any v2 v0 ys ys _ h26 h06).mono ?_
  rintro e w7 ⟨rfl, n7, rfl⟩
  rw [HYY.out]
  have h17 : IsInts (w6.drewN n7) v1 (seqL 1 ys.length) := h16.below (below_drewN (Below.refl _ _) n7)
  go_wp2_with fail
  refine (heldIntS_any v1 1 ys.length _ h17 (by omega) (by omega) (by omega)).mono ?_
  rintro e w8 ⟨rfl, rfl⟩
  go_wp2_with fail
  go_ret
  exact ⟨rfl, below_drewN ((hb1.trans (hb4.mono hb1.size)).trans (hb6.mono (Nat.le_trans hb1.size hb4.size))) _⟩

set_option maxHeartbeats 3200000 in
theorem exactSortedLoads_walk {w : World} (v : Value) (xs : List Int) (h : IsInts w v xs) :
    Calls Try.prog 12 #[v] w fun e w' => e = .returned (.bool true) ∧ Below w.heap.size w w' := by
  have H := Lib.hid h
  have hbd := sortedOf_len xs
  have HSP : Hid (∀ (W : World) (u : Value), IsInts W u xs → Calls Try.prog 26 #[u] W (CopyPost (sortedOf xs) W)) := Lib.hid (fun W u h => specSorted_any u xs W h)
  have HIM : Hid (∀ (W : World) (u : Value), IsInts W u xs → Calls Try.prog 24 #[u] W (CopyPost (sortedOf xs) W)) := Lib.hid (fun W u h => implSorted_any u xs W h)
  obtain ⟨a, cap, rfl, hmx⟩ : ∃ a cap, v = .slice a xs.length cap ∧ xs.length ≤ 9223372036854775807 := by obtain ⟨a, cap, rfl, h1, h2, _⟩ := h; unfold maxLen at h2; exact ⟨a, cap, rfl, by omega⟩
  clear h
  generalize sortedOf xs = ys at *
  have HXX : Hid ((xs == xs) = true) := by
    have : (xs == xs) = true := by simp
    exact Lib.hid this
  have HYY : Hid ((ys == ys) = true) := by
    have : (ys == ys) = true := by simp
    exact Lib.hid this
  by_cases hbig : 1048576 < xs.length
  · go_enter Try.func12, Try.ntmps12
    go_wp2
    go_ret
    exact ⟨rfl, Below.refl _ _⟩
  have hl1 : xs.length ≤ 1048576 := by omega
  go_enter Try.func12, Try.ntmps12
  go_wp2_with fail
  refine (toIntS_any _ xs _ H.out hl1).mono ?_
  rintro e w1 ⟨v1, rfl, ho1, hb1⟩
  have B1 := Lib.hid hb1
  have I1 := Lib.hid (IsInts.of_owns ho1)
  clear ho1 hb1
  go_wp2_with fail
  refine (HSP.out w1 v1 I1.out).mono ?_
  rintro e w2 ⟨v2, rfl, ho, hb⟩
  have B2 := Lib.hid (B1.out.trans (hb.mono B1.out.size))
  have S2 := Lib.hid (IsInts.of_owns ho)
  clear ho hb
  go_wp2_with fail
  refine (toIntS_any _ xs _ (H.out.below B2.out) hl1).mono ?_
  rintro e w3 ⟨v3, rfl, ho, hb⟩
  have C3 := Lib.hid hb
  have X3 := Lib.hid ho
  have I3 := Lib.hid (IsInts.of_owns ho)
  clear ho hb
  go_wp2_with fail
  refine (HIM.out w3 v3 I3.out).mono ?_
  rintro e w4 ⟨v4, rfl, ho, hb⟩
  have C4 := Lib.hid (C3.out.trans (hb.mono C3.out.size))
  have X4 := Lib.hid (owns_b X3.out hb)
  have G4 := Lib.hid ho
  have HNE : Hid (∀ k, v4.ownBlock = some k → v3.ownBlock ≠ some k) := by
    have : ∀ k, v4.ownBlock = some k → v3.ownBlock ≠ some k := fun k e e' => by
      have h1 := (World.ownsRow.lt ho k e).1
      have h2 := (World.ownsRow.lt X3.out k e').2
      omega
    exact Lib.hid this
  clear ho hb
  go_wp2_with fail
  refine (eqIntS_any v4 v2 ys ys _ (IsInts.of_owns G4.out) (S2.out.below C4.out)).mono ?_
  rintro e w5 ⟨rfl, n5, rfl⟩
  rw [HYY.out]
  have hd := below_drewN (Below.refl w4.heap.size w4) n5
  have C5 := Lib.hid (C4.out.trans (hd.mono C4.out.size))
  have X5 := Lib.hid (owns_b X4.out hd)
  have G5 := Lib.hid (owns_b G4.out hd)
  clear hd
  generalize w4.drewN n5 = w5 at *
  go_wp2_with fail
  refine (toIntS_any _ xs _ (H.out.below (B2.out.trans (C5.out.mono B2.out.size))) hl1).mono ?_
  rintro e w6 ⟨v6, rfl, ho, hb⟩
  have C6 := Lib.hid (C5.out.trans (hb.mono C5.out.size))
  have X6 := Lib.hid (owns_b X5.out hb)
  have G6 := Lib.hid (owns_b G5.out hb)
  have I6 := Lib.hid (IsInts.of_owns ho)
  clear ho hb
  go_wp2_with fail
  refine (eqIntS_any v3 v6 xs xs _ (IsInts.of_owns X6.out) I6.out).mono ?_
  rintro e w7 ⟨rfl, n7, rfl⟩
  rw [HXX.out]
  have hd := below_drewN (Below.refl w6.heap.size w6) n7
  have C7 := Lib.hid (C6.out.trans (hd.mono C6.out.size))
  have X7 := Lib.hid (owns_b X6.out hd)
  have G7 := Lib.hid (owns_b G6.out hd)
  clear hd
  generalize w6.drewN n7 = w7 at *
  go_wp2_with fail
  refine (markIntS_any w2.heap.size v3 xs 1 _ X7.out (by omega) (by omega) (by omega)).mono ?_
  rintro e w8 ⟨rfl, ho8, hg8⟩
  have C8 := Lib.hid (below_mark C7.out X7.out (Nat.le_refl _) hg8)
  have G8 := Lib.hid (ints_mark G7.out HNE.out hg8)
  clear ho8 hg8
  go_wp2_with fail
  refine (eqIntS_any v4 v2 ys ys _ (IsInts.of_owns G8.out) (S2.out.below C8.out)).mono ?_
  rintro e w9 ⟨rfl, n9, rfl⟩
  rw [HYY.out]
  have hd := below_drewN (Below.refl w8.heap.size w8) n9
  have C9 := Lib.hid (C8.out.trans (hd.mono C8.out.size))
  have G9 := Lib.hid (owns_b G8.out hd)
  clear hd
  generalize w8.drewN n9 = w9 at *
  go_wp2_with fail
  refine (markIntS_any w3.heap.size v4 ys 1 _ G9.out (by omega) (by omega) (by omega)).mono ?_
  rintro e w10 ⟨rfl, ho10, hg10⟩
  have C10 := Lib.hid (below_mark C9.out G9.out C3.out.size hg10)
  have G10 : Hid (IsInts w10 v4 (seqL 1 ys.length)) := Lib.hid (IsInts.of_owns (by rw [seqL_length]; exact ho10))
  clear ho10 hg10
  go_wp2_with fail
  refine (heldIntS_any v4 1 ys.length _ G10.out (by omega) (by omega) (by omega)).mono ?_
  rintro e w11 ⟨rfl, rfl⟩
  have hne : ((1 : Int) + (ys.length : Int) != 1 + (ys.length : Int)) = false := by simp
  go_wp2_with fail
  refine (toIntS_any _ xs _ (H.out.below (B2.out.trans (C10.out.mono B2.out.size))) hl1).mono ?_
  rintro e w12 ⟨v12, rfl, ho, hb⟩
  have C12 := Lib.hid (C10.out.trans (hb.mono C10.out.size))
  have G12 := Lib.hid (G10.out.below hb)
  have I12 := Lib.hid (IsInts.of_owns ho)
  clear ho hb
  go_wp2_with fail
  refine (HIM.out w12 v12 I12.out).mono ?_
  rintro e w13 ⟨v13, rfl, ho, hb⟩
  have C13 := Lib.hid (C12.out.trans (hb.mono C12.out.size))
  have G13 := Lib.hid (G12.out.below hb)
  have I13 := Lib.hid (IsInts.of_owns ho)
  clear ho hb
  go_wp2_with fail
  refine (eqIntS_any v13 v2 ys ys _ I13.out (S2.out.below C13.out)).mono ?_
  rintro e w14 ⟨rfl, n14, rfl⟩
  rw [HYY.out]
  have hd := below_drewN (Below.refl w13.heap.size w13) n14
  have C14 := Lib.hid (C13.out.trans (hd.mono C13.out.size))
  have G14 := Lib.hid (G13.out.below hd)
  clear hd
  generalize w13.drewN n14 = w14 at *
  go_wp2_with fail
  refine (heldIntS_any v4 1 ys.length _ G14.out (by omega) (by omega) (by omega)).mono ?_
  rintro e w15 ⟨rfl, rfl⟩
  go_wp2
  go_ret
  exact ⟨rfl, B2.out.trans (C14.out.mono B2.out.size)⟩

set_option maxHeartbeats 3200000 in
theorem exactGivenOn_walk {w : World} (v : Value) (xs : List Int) (h : IsInts w v xs) (f : Int) (_hf : (Lit.int .i64 f).wf = true) (t : Int) (_ht : (Lit.int .i64 t).wf = true) :
    Calls Try.prog 16 #[v, .int .i64 f, .int .i64 t] w fun e w' => e = .returned (.bool true) ∧ Below w.heap.size w w' := by
  have H := Lib.hid h
  have hbd := givList_len xs f t
  have HSP : Hid (∀ (W : World) (u : Value), IsInts W u xs → Calls Try.prog 40 #[u, .int .i64 f, .int .i64 t] W (GivP (givList xs f t) (givOk xs f t) W)) := Lib.hid (fun W u h => specGivenOn_any u xs f t W h)
  have HIM : Hid (∀ (W : World) (u : Value), IsInts W u xs → Calls Try.prog 39 #[u, .int .i64 f, .int .i64 t] W (GivP (givList xs f t) (givOk xs f t) W)) := Lib.hid (fun W u h => implGivenOn_any u xs f t W h)
  obtain ⟨a, cap, rfl, hmx⟩ : ∃ a cap, v = .slice a xs.length cap ∧ xs.length ≤ 9223372036854775807 := by obtain ⟨a, cap, rfl, h1, h2, _⟩ := h; unfold maxLen at h2; exact ⟨a, cap, rfl, by omega⟩
  clear h
  generalize givList xs f t = ys at *
  generalize givOk xs f t = b at *
  have hbb : (b != b) = false := by simp
  have HXX : Hid ((xs == xs) = true) := by
    have : (xs == xs) = true := by simp
    exact Lib.hid this
  have HYY : Hid ((ys == ys) = true) := by
    have : (ys == ys) = true := by simp
    exact Lib.hid this
  by_cases hbig : 1048576 < xs.length
  · go_enter Try.func16, Try.ntmps16
    go_wp2
    go_ret
    exact ⟨rfl, Below.refl _ _⟩
  have hl1 : xs.length ≤ 1048576 := by omega
  go_enter Try.func16, Try.ntmps16
  go_wp2_with fail
  refine (toIntS_any _ xs _ H.out hl1).mono ?_
  rintro e w1 ⟨v1, rfl, ho1, hb1⟩
  have B1 := Lib.hid hb1
  have I1 := Lib.hid (IsInts.of_owns ho1)
  clear ho1 hb1
  go_wp2_with fail
  refine (HSP.out w1 v1 I1.out).mono ?_
  rintro e w2 ⟨v2, rfl, ho, hb⟩
  have B2 := Lib.hid (B1.out.trans (hb.mono B1.out.size))
  have S2 := Lib.hid (IsInts.of_owns ho)
  clear ho hb
  go_wp2_with fail
  refine (toIntS_any _ xs _ (H.out.below B2.out) hl1).mono ?_
  rintro e w3 ⟨v3, rfl, ho, hb⟩
  have C3 := Lib.hid hb
  have X3 := Lib.hid ho
  have I3 := Lib.hid (IsInts.of_owns ho)
  clear ho hb
  go_wp2_with fail
  refine (HIM.out w3 v3 I3.out).mono ?_
  rintro e w4 ⟨v4, rfl, ho, hb⟩
  have C4 := Lib.hid (C3.out.trans (hb.mono C3.out.size))
  have X4 := Lib.hid (owns_b X3.out hb)
  have G4 := Lib.hid ho
  have HNE : Hid (∀ k, v4.ownBlock = some k → v3.ownBlock ≠ some k) := by
    have : ∀ k, v4.ownBlock = some k → v3.ownBlock ≠ some k := fun k e e' => by
      have h1 := (World.ownsRow.lt ho k e).1
      have h2 := (World.ownsRow.lt X3.out k e').2
      omega
    exact Lib.hid this
  clear ho hb
  go_wp2_with fail
  refine (eqIntS_any v4 v2 ys ys _ (IsInts.of_owns G4.out) (S2.out.below C4.out)).mono ?_
  rintro e w5 ⟨rfl, n5, rfl⟩
  rw [HYY.out]
  have hd := below_drewN (Below.refl w4.heap.size w4) n5
  have C5 := Lib.hid (C4.out.trans (hd.mono C4.out.size))
  have X5 := Lib.hid (owns_b X4.out hd)
  have G5 := Lib.hid (owns_b G4.out hd)
  clear hd
  generalize w4.drewN n5 = w5 at *
  go_wp2_with fail
  refine (toIntS_any _ xs _ (H.out.below (B2.out.trans (C5.out.mono B2.out.size))) hl1).mono ?_
  rintro e w6 ⟨v6, rfl, ho, hb⟩
  have C6 := Lib.hid (C5.out.trans (hb.mono C5.out.size))
  have X6 := Lib.hid (owns_b X5.out hb)
  have G6 := Lib.hid (owns_b G5.out hb)
  have I6 := Lib.hid (IsInts.of_owns ho)
  clear ho hb
  go_wp2_with fail
  refine (eqIntS_any v3 v6 xs xs _ (IsInts.of_owns X6.out) I6.out).mono ?_
  rintro e w7 ⟨rfl, n7, rfl⟩
  rw [HXX.out]
  have hd := below_drewN (Below.refl w6.heap.size w6) n7
  have C7 := Lib.hid (C6.out.trans (hd.mono C6.out.size))
  have X7 := Lib.hid (owns_b X6.out hd)
  have G7 := Lib.hid (owns_b G6.out hd)
  clear hd
  generalize w6.drewN n7 = w7 at *
  go_wp2_with fail
  refine (markIntS_any w2.heap.size v3 xs 1 _ X7.out (by omega) (by omega) (by omega)).mono ?_
  rintro e w8 ⟨rfl, ho8, hg8⟩
  have C8 := Lib.hid (below_mark C7.out X7.out (Nat.le_refl _) hg8)
  have G8 := Lib.hid (ints_mark G7.out HNE.out hg8)
  clear ho8 hg8
  go_wp2_with fail
  refine (eqIntS_any v4 v2 ys ys _ (IsInts.of_owns G8.out) (S2.out.below C8.out)).mono ?_
  rintro e w9 ⟨rfl, n9, rfl⟩
  rw [HYY.out]
  have hd := below_drewN (Below.refl w8.heap.size w8) n9
  have C9 := Lib.hid (C8.out.trans (hd.mono C8.out.size))
  have G9 := Lib.hid (owns_b G8.out hd)
  clear hd
  generalize w8.drewN n9 = w9 at *
  go_wp2_with fail
  refine (markIntS_any w3.heap.size v4 ys 1 _ G9.out (by omega) (by omega) (by omega)).mono ?_
  rintro e w10 ⟨rfl, ho10, hg10⟩
  have C10 := Lib.hid (below_mark C9.out G9.out C3.out.size hg10)
  have G10 : Hid (IsInts w10 v4 (seqL 1 ys.length)) := Lib.hid (IsInts.of_owns (by rw [seqL_length]; exact ho10))
  clear ho10 hg10
  go_wp2_with fail
  refine (heldIntS_any v4 1 ys.length _ G10.out (by omega) (by omega) (by omega)).mono ?_
  rintro e w11 ⟨rfl, rfl⟩
  have hne : ((1 : Int) + (ys.length : Int) != 1 + (ys.length : Int)) = false := by simp
  go_wp2_with fail
  refine (toIntS_any _ xs _ (H.out.below (B2.out.trans (C10.out.mono B2.out.size))) hl1).mono ?_
  rintro e w12 ⟨v12, rfl, ho, hb⟩
  have C12 := Lib.hid (C10.out.trans (hb.mono C10.out.size))
  have G12 := Lib.hid (G10.out.below hb)
  have I12 := Lib.hid (IsInts.of_owns ho)
  clear ho hb
  go_wp2_with fail
  refine (HIM.out w12 v12 I12.out).mono ?_
  rintro e w13 ⟨v13, rfl, ho, hb⟩
  have C13 := Lib.hid (C12.out.trans (hb.mono C12.out.size))
  have G13 := Lib.hid (G12.out.below hb)
  have I13 := Lib.hid (IsInts.of_owns ho)
  clear ho hb
  go_wp2_with fail
  refine (eqIntS_any v13 v2 ys ys _ I13.out (S2.out.below C13.out)).mono ?_
  rintro e w14 ⟨rfl, n14, rfl⟩
  rw [HYY.out]
  have hd := below_drewN (Below.refl w13.heap.size w13) n14
  have C14 := Lib.hid (C13.out.trans (hd.mono C13.out.size))
  have G14 := Lib.hid (G13.out.below hd)
  clear hd
  generalize w13.drewN n14 = w14 at *
  go_wp2_with fail
  refine (heldIntS_any v4 1 ys.length _ G14.out (by omega) (by omega) (by omega)).mono ?_
  rintro e w15 ⟨rfl, rfl⟩
  go_wp2
  go_ret
  exact ⟨rfl, B2.out.trans (C14.out.mono B2.out.size)⟩

end Go.Proofs.Ythdpeholeelhdaa
