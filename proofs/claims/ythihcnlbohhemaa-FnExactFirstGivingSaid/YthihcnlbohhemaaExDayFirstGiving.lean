/- The walk of FnExactFirstGiving: true at every day. No condition. -/
import Derived.Test.YthihcnlbohhemaaDayFirstI
import Derived.Deep.RegionWith
namespace Go.Proofs.Ythihcnlbohhemaa
open Go.RowKit

theorem grown_transD {a b c : World} {row : Option Nat} (h : a.grownBy b none) (k : b.grownBy c row) : a.grownBy c row :=
  ⟨k.os.trans h.os, k.tape.trans h.tape, k.output.trans h.output, Nat.le_trans h.size k.size, fun i hi hr => (k.block i (Nat.lt_of_lt_of_le hi h.size) hr).trans (h.block i hi (fun e => by cases e))⟩
theorem markDay_any (base : Nat) (ppl : Int) (v : Value) (xs : List Int) (m : Int) (w : World) (h : w.ownsRow base 3 1 v xs.length (xs.map (Value.int .i64))) (hx : xs.length ≤ 1100000) (hm0 : 0 ≤ m) (hm : m ≤ 1000000000) :
    Calls Try.prog 62 #[.agg #[.int .i64 ppl, v], .int .i64 m] w (MarkPost base v xs.length m w) := by
  have hg : w.grownBy (w.alloc (.cells #[.int .i64 ppl, v] 44)) none := World.grownBy_alloc w _ none
  have C := Lib.hid (markIntS_any base v xs m (w.alloc (.cells #[.int .i64 ppl, v] 44)) (h.alloc _) hx hm0 hm)
  have HG := Lib.hid hg
  clear h hg
  go_enter Try.func62, Try.ntmps62
  go_wp2_with fail
  refine C.out.mono ?_
  rintro e w2 ⟨rfl, ho, hg2⟩
  have HO := Lib.hid ho
  have HG2 := Lib.hid (grown_transD HG.out hg2)
  clear ho hg2
  go_wp2_with fail
  go_ret
  exact ⟨rfl, HO.out, HG2.out⟩
theorem first_len (d : D) : d.first.length ≤ 1000 := by
  unfold D.first
  split
  · rename_i h
    cases hg : givs d.n d.cs 0 with
    | nil => simp
    | cons f rest =>
      have := gok_len (mem_givs.1 (by rw [hg]; exact List.mem_cons_self : f ∈ givs d.n d.cs 0))
      have h5 := (D.good h).1.l5
      simp only [List.headD_cons]; omega
  · simp

set_option maxHeartbeats 3200000 in
theorem exactFirstGiving_walk {w : World} (ppl : Int) (_hp : (Lit.int .i64 ppl).wf = true) (cv : Value) (xs : List Int) (hn0 : IsInts w cv xs) :
    Calls Try.prog 16 #[.agg #[.int .i64 ppl, cv]] w fun e w' => e = .returned (.bool true) ∧ Below w.heap.size w w' := by
  have hM : DayBox w.heap.size ppl cv xs (w.alloc (.cells #[.int .i64 ppl, cv] 56)) := DayBox.new _ hn0
  have M0 := Lib.hid hM
  have q0 : Hid (Below w.heap.size w (w.alloc (.cells #[.int .i64 ppl, cv] 56))) := Lib.hid ((Below.refl _ _).alloc (Nat.le_refl _) _)
  clear hM hn0
  go_enter Try.func16, Try.ntmps16
  go_wp2_with fail
  refine (szDay_any ppl xs cv 1048576 _ M0.out.ints (by omega) (by omega)).mono ?_
  rintro e w1 ⟨rfl, hb1⟩
  have M1 := Lib.hid (M0.out.below hb1)
  have q1 := Lib.hid (q0.out.trans (hb1.mono q0.out.size))
  clear hb1
  by_cases hs : szOf xs.length 1048576 < 0
  · go_wp2_with fail
    go_ret
    exact ⟨rfl, q1.out⟩
  · have hbd := szOf_bd (n := xs.length) (left := 1048576) (by omega)
    generalize szOf xs.length 1048576 = left at *
    have y10 := M1.out.c0
    have y11 := M1.out.c1
    go_wp2_with fail
    clear y10 y11
    refine (toDay_any ppl xs cv _ M1.out.ints (by omega)).mono ?_
    rintro e w2 ⟨cv2, rfl, ho2, hb2⟩
    have M2 := Lib.hid (M1.out.below hb2)
    have q2 := Lib.hid (q1.out.trans (hb2.mono q1.out.size))
    have y20 := M2.out.c0
    have y21 := M2.out.c1
    have H2 := Lib.hid (IsInts.of_owns ho2)
    clear ho2 hb2
    go_wp2_with fail
    clear y20 y21
    refine (specFirstGiving_any ppl xs cv2 _ H2.out).mono ?_
    rintro e w3 ⟨v0, rfl, hi0, hb3⟩
    have hfl := first_len ⟨ppl, xs⟩
    obtain ⟨va, vn, vc, rfl⟩ := hi0.slice
    have I3 := Lib.hid hi0
    have M3 := Lib.hid (M2.out.below hb3)
    have q3 := Lib.hid (q2.out.trans (hb3.mono q2.out.size))
    have y30 := M3.out.c0
    have y31 := M3.out.c1
    clear hb3 hi0
    go_wp2_with fail
    clear y30 y31
    refine (toDay_any ppl xs cv _ M3.out.ints (by omega)).mono ?_
    rintro e w4 ⟨cv4, rfl, ho4, hb4⟩
    have k4 := Lib.hid hb4
    have M4 := Lib.hid (M3.out.below hb4)
    have y40 := M4.out.c0
    have y41 := M4.out.c1
    have hn4 := IsInts.of_owns ho4
    obtain ⟨a4, n4, c4, rfl⟩ := hn4.slice
    have L4 := Lib.hid (fun k e => World.ownsRow.lt ho4 k e)
    have X5 := Lib.hid (DayBox.new (ppl := ppl) 44 hn4)
    have hal : Below w4.heap.size w4 (w4.alloc (.cells #[.int .i64 ppl, .slice a4 n4 c4] 44)) := (Below.refl _ _).alloc (Nat.le_refl _) _
    have R5 := Lib.hid (owns_below ho4 hal)
    have k5 := Lib.hid (k4.out.trans (hal.mono k4.out.size))
    clear hn4 ho4 hb4 hal
    go_wp2_with fail
    clear y40 y41
    refine (implFirstGiving_any ppl xs _ _ X5.out.ints).mono ?_
    rintro e w6 ⟨g0, rfl, ho6, hb6⟩
    obtain ⟨ga, gn, gc, rfl⟩ := owns_slice ho6
    have G6 := Lib.hid ho6
    have X6 := Lib.hid (X5.out.below hb6)
    have R6 := Lib.hid (owns_below R5.out hb6)
    have k6 := Lib.hid (k5.out.trans (hb6.mono k5.out.size))
    have I6 := Lib.hid (I3.out.below k6.out)
    clear hb6 X5 R5 k5 ho6
    have hself : ((D.first ⟨ppl, xs⟩) == (D.first ⟨ppl, xs⟩)) = true := by simp
    have HSF := Lib.hid hself
    clear hself
    have HFS : Hid (∀ (W : World) (cv' : Value), IsInts W cv' xs → Calls Try.prog 52 #[.agg #[.int .i64 ppl, cv']] W (FirstOwn ⟨ppl, xs⟩ W)) := Lib.hid (fun W cv' h => implFirstGiving_any ppl xs cv' W h)
    go_wp2_with fail
    refine (eqIntS_any _ _ (D.first ⟨ppl, xs⟩) (D.first ⟨ppl, xs⟩) _ (IsInts.of_owns G6.out) I6.out).mono ?_
    rintro e w6b ⟨rfl, n6, rfl⟩
    rw [HSF.out]
    have hbd6 := below_drewN (Below.refl w6.heap.size w6) n6
    have X7 := Lib.hid (X6.out.below hbd6)
    have R7 := Lib.hid (owns_below R6.out hbd6)
    have G7 := Lib.hid (owns_below G6.out hbd6)
    have k7 := Lib.hid (k6.out.trans (hbd6.mono k6.out.size))
    have M7 := Lib.hid (M3.out.below k7.out)
    clear hbd6 X6 R6 k6 I6 G6
    generalize w6.drewN n6 = w7 at *
    have y60 := M7.out.c0
    have y61 := M7.out.c1
    have z60 := X7.out.c0
    have z61 := X7.out.c1
    go_wp2_with fail
    have M7d := Lib.hid (M7.out.below (Below.refl _ w7).drew)
    have X7d := Lib.hid (X7.out.below (Below.refl _ w7).drew)
    have hl1 : xs.length ≤ 1048576 := by omega
    go_region_with (first | (go_at_call 58; refine (toDay_any ppl xs cv w7.drew M7d.out.ints hl1).mono ?_; rintro e w8 ⟨cv8, rfl, ho8, hb8⟩; have hn8 := IsInts.of_owns ho8; have X8 := X7d.out.below hb8; have z80 := X8.c0; have z81 := X8.c1) | (go_at_call 59; refine (eqDay_same ppl xs _ cv8 w8 X8.ints hn8).mono ?_; rintro e w9 ⟨rfl, hb9⟩))
    all_goals
      have hb79 : Below w7.heap.size w7 w9 := ((Below.refl w7.heap.size w7).drew.trans hb8).trans (hb9.mono hb8.size)
      have X9 := Lib.hid (X7.out.below hb79)
      have R9 := Lib.hid (owns_below R7.out hb79)
      have G9 := Lib.hid (owns_below G7.out hb79)
      have k9 := Lib.hid (k7.out.trans (hb79.mono k7.out.size))
      clear hb79 hb8 hb9 hn8 ho8 X8 z80 z81 y60 y61 z60 z61
      have z90 := X9.out.c0
      have z91 := X9.out.c1
      go_wp2_with fail
      clear z90 z91
      refine (markDay_any w3.heap.size ppl _ xs 1 w9 R9.out (by omega) (by omega) (by omega)).mono ?_
      rintro e w10 ⟨rfl, -, hg10⟩
      have k10 := Lib.hid (k9.out.grown hg10 k9.out.size (fun k e => (L4.out k e).1))
      have G10 := Lib.hid (G9.out.kept hg10 (by
        rcases hga : (Value.slice ga gn gc).ownBlock with _ | b
        · exact .inl rfl
        · refine .inr (fun e => ?_)
          have h1 := (World.ownsRow.lt G9.out b hga).1
          have h2 := (L4.out b e.symm).2
          simp only [World.size_alloc] at h1
          omega))
      have I10 := Lib.hid (I3.out.below k10.out)
      have hm1 : ¬ ((1 : Int) + (xs.length : Int)) < 0 := by omega
      clear hg10
      go_wp2_with fail
      refine (eqIntS_any _ _ (D.first ⟨ppl, xs⟩) (D.first ⟨ppl, xs⟩) _ (IsInts.of_owns G10.out) I10.out).mono ?_
      rintro e w10b ⟨rfl, n10, rfl⟩
      rw [HSF.out]
      have k11 := Lib.hid (below_drewN k10.out n10)
      have G11 := Lib.hid (owns_below G10.out (below_drewN (Below.refl _ _) n10))
      generalize w10.drewN n10 = w11 at *
      go_wp2_with fail
      refine (markIntS_any _ _ (D.first ⟨ppl, xs⟩) 1 w11 G11.out (by omega) (by omega) (by omega)).mono ?_
      rintro e w12 ⟨rfl, ho12, hg12⟩
      have k12 := Lib.hid (k11.out.grown hg12 k11.out.size (fun k e => by
        have h1 := (World.ownsRow.lt G11.out k e).1
        have h2 := k4.out.size
        simp only [World.size_alloc] at h1
        omega))
      have hso : IsInts w12 (.slice ga gn gc) (seqL 1 (D.first ⟨ppl, xs⟩).length) := IsInts.of_owns (by rw [seqL_length]; exact ho12)
      have S12 := Lib.hid hso
      have I12 := Lib.hid (I3.out.below k12.out)
      have M12 := Lib.hid (M3.out.below k12.out)
      have hm2 : ¬ ((1 : Int) + ((D.first ⟨ppl, xs⟩).length : Int)) < 0 := by omega
      have hm3 : ((1 : Int) + ((D.first ⟨ppl, xs⟩).length : Int) != 1 + ((D.first ⟨ppl, xs⟩).length : Int)) = false := by simp
      clear hg12 ho12 hso
      go_wp2_with fail
      refine (heldIntS_any _ 1 (D.first ⟨ppl, xs⟩).length w12 S12.out (by omega) (by omega) (by omega)).mono ?_
      rintro e w12b ⟨rfl, hww⟩
      subst w12b
      have y120 := M12.out.c0
      have y121 := M12.out.c1
      go_wp2_with fail
      clear y120 y121
      refine (toDay_any ppl xs cv _ M12.out.ints hl1).mono ?_
      rintro e w13 ⟨cv13, rfl, ho13, hb13⟩
      have I13 := Lib.hid (I12.out.below hb13)
      have S13 := Lib.hid (S12.out.below hb13)
      have k13 := Lib.hid (k12.out.trans (hb13.mono k12.out.size))
      have C13 := Lib.hid (IsInts.of_owns ho13)
      clear ho13 hb13
      go_wp2_with fail
      refine (HFS.out _ _ C13.out).mono ?_
      rintro e w14 ⟨h0, rfl, ho14, hb14⟩
      obtain ⟨ha, hn, hc, rfl⟩ := owns_slice ho14
      have I14 := Lib.hid (I13.out.below hb14)
      have S14 := Lib.hid (S13.out.below hb14)
      have k14 := Lib.hid (k13.out.trans (hb14.mono k13.out.size))
      have C14 := Lib.hid (IsInts.of_owns ho14)
      clear ho14 hb14
      go_wp2_with fail
      refine (eqIntS_any _ _ (D.first ⟨ppl, xs⟩) (D.first ⟨ppl, xs⟩) _ C14.out I14.out).mono ?_
      rintro e w14b ⟨rfl, n14, rfl⟩
      rw [HSF.out]
      have S15 := Lib.hid (S14.out.below (below_drewN (Below.refl _ _) n14))
      have k15 := Lib.hid (below_drewN k14.out n14)
      go_wp2_with fail
      refine (heldIntS_any _ 1 (D.first ⟨ppl, xs⟩).length _ S15.out (by omega) (by omega) (by omega)).mono ?_
      rintro e w16 ⟨rfl, hww⟩
      subst w16
      go_wp2_with fail
      go_ret
      exact ⟨rfl, q3.out.trans (k15.out.mono q3.out.size)⟩
end Go.Proofs.Ythihcnlbohhemaa
