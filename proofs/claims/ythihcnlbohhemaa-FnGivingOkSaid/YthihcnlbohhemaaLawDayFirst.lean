/- The walk of FnFirstGiving: true at every two codes. No condition. -/
import Derived.Test.YthihcnlbohhemaaDayDrawn
import Derived.Test.YthihcnlbohhemaaDayFirstI
import Derived.Test.YthihcnlbohhemaaDayFirstS
import Derived.Test.YthihcnlbohhemaaDayMost
import Derived.Test.YthihcnlbohhemaaDayGiv
import Derived.Test.YthihcnlbohhemaaSame
import Derived.BigQuiet
import Derived.Deep.RegionLaw
import Derived.Deep.RegionWith
import Derived.Deep.RegionHeld3
namespace Go.Proofs.Ythihcnlbohhemaa
open Go.RowKit

theorem below_drewNF {w : World} (d : Nat) : Below w.heap.size w (w.drewN d) := ⟨rfl, rfl, rfl, Nat.le_refl _, fun _ _ => rfl⟩
theorem hasGiving_iff {n : Nat} {cs : List Nat} (hok : D.ok ⟨n, cs.map Int.ofNat⟩ = true) (hn : D.n ⟨n, cs.map Int.ofNat⟩ = n) (hc : D.cs ⟨n, cs.map Int.ofNat⟩ = cs) : D.hasGiving ⟨n, cs.map Int.ofNat⟩ = true ↔ (most cs n cs.length).2 = cs.length := by
  rw [← givs_pos]
  cases hL : givs n cs 0 with
  | nil => simp [(D.first_none hok hn hc hL).2]
  | cons f rest => simp [(D.first_is hok hn hc hL).2]
/-- fewer are done than there are, where there is no giving -/
theorem most_few {ppl : Int} {xs : List Int} (h : D.hasGiving ⟨ppl, xs⟩ = false) : decide (D.most ⟨ppl, xs⟩ < (xs.length : Int)) = true := by
  rw [decide_eq_true_eq]
  rcases D.two ppl xs with hok | ⟨hok, n, cs, rfl, rfl, G, hdn, hdc⟩
  · simp only [D.most, hok]; simp; omega
  · have hm : D.most ⟨n, cs.map Int.ofNat⟩ = ((most cs n cs.length).2 : Int) := by simp only [D.most, hok, if_true, hdn, hdc]
    have h1 := hasGiving_iff hok hdn hdc
    have h2 : (most cs n cs.length).2 ≠ cs.length := fun e => by rw [h1.2 e] at h; cases h
    have h3 := most_cnt cs n cs.length
    rw [hm]; simp; omega

set_option maxRecDepth 100000 in
set_option maxHeartbeats 6400000 in
theorem lawFirstGiving_walk {w : World} (a : Option Addr) (len cap : Nat) (zs : List Int) (h : IsRow .u8 w a len cap zs) (b : Option Addr) (len2 cap2 : Nat) (zs2 : List Int) (h2 : IsRow .u8 w b len2 cap2 zs2) :
    Calls Try.prog 10 #[.slice a len cap, .slice b len2 cap2] w fun e w' => e = .returned (.bool true) ∧ Below w.heap.size w w' := by
  obtain ⟨i0, hi, hz0, hz1, hz2⟩ := info_parts infoIntD
  have HII := Lib.hid (And.intro hi (And.intro hz0 (And.intro hz1 hz2)))
  clear hi hz0 hz1 hz2
  have HD := Lib.hid (drawFirstGiving_any a len cap zs w h)
  have H2 := Lib.hid h2
  have hl := rowD_len h
  have hl2 := rowD_len h2
  clear h h2
  by_cases hbig : 1048576 < len
  · go_enter Try.func10, Try.ntmps10
    go_wp2_with fail
    go_ret
    exact ⟨rfl, Below.refl _ _⟩
  by_cases hbig2 : 1048576 < len2
  · go_enter Try.func10, Try.ntmps10
    go_wp2_with fail
    go_ret
    exact ⟨rfl, Below.refl _ _⟩
  go_enter Try.func10, Try.ntmps10
  go_wp2_with fail
  refine HD.out.mono ?_
  clear HD
  rintro e w1 ⟨ppl, xs, cv, rfl, hxl, hI, hb⟩
  obtain ⟨va, vn, vc, rfl⟩ := hI.slice
  have hal : Below w1.heap.size w1 (w1.alloc (.cells #[.int .i64 ppl, .slice va vn vc] 44)) := (Below.refl _ _).alloc (Nat.le_refl _) _
  have X1 := Lib.hid (DayBox.new (ppl := ppl) 44 hI)
  have Q1 := Lib.hid (hb.trans (hal.mono hb.size))
  clear hI hb hal
  go_wp2_with fail
  generalize w1.heap.size = b3 at *
  refine (implFirstGiving_any ppl xs _ _ X1.out.ints).mono ?_
  rintro e w2 ⟨v1, rfl, ho1, hb2⟩
  have J2 := Lib.hid (IsInts.of_owns ho1)
  have X2 := Lib.hid (X1.out.below hb2)
  have Q2 := Lib.hid (Q1.out.trans (hb2.mono Q1.out.size))
  have x0 := X2.out.c0
  have x1 := X2.out.c1
  clear hb2 X1 Q1 ho1
  go_wp2_with fail
  clear x0 x1
  refine (specFirstGiving_any ppl xs _ _ X2.out.ints).mono ?_
  rintro e w3 ⟨v2, rfl, hi2, hb3⟩
  have X3 := Lib.hid (X2.out.below hb3)
  have Q3 := Lib.hid (Q2.out.trans (hb3.mono Q2.out.size))
  have J3 := Lib.hid (J2.out.below hb3)
  have I3 := Lib.hid hi2
  clear hb3 X2 Q2 J2 hi2
  obtain ⟨va1, vn1, vc1, rfl⟩ := J3.out.slice
  obtain ⟨va2, vn2, vc2, rfl⟩ := I3.out.slice
  have hself : (D.first ⟨ppl, xs⟩ == D.first ⟨ppl, xs⟩) = true := by simp
  go_wp2_with fail
  refine (sameInts_any _ _ _ _ _ J3.out I3.out).mono ?_
  rintro e w4 ⟨rfl, dn, rfl⟩
  rw [hself]
  have hbd : Below w3.heap.size w3 (w3.drewN dn) := below_drewNF dn
  have X4 := Lib.hid (X3.out.below hbd)
  have Q4 := Lib.hid (Q3.out.trans (hbd.mono Q3.out.size))
  have J4 := Lib.hid (J3.out.below hbd)
  clear hbd X3 Q3 J3 I3
  generalize w3.drewN dn = w4 at *
  have hgg : (D.hasGiving ⟨ppl, xs⟩ != D.hasGiving ⟨ppl, xs⟩) = false := by simp
  have hvn : vn = xs.length := by
    obtain ⟨_, _, hs, _⟩ := X4.out.ints
    simp only [Value.slice.injEq] at hs
    exact hs.2.1
  have hvn1 : vn1 = (D.first ⟨ppl, xs⟩).length := by
    obtain ⟨_, _, hs, _⟩ := J4.out
    simp only [Value.slice.injEq] at hs
    exact hs.2.1
  have XD := Lib.hid (X4.out.below (Below.refl w4.heap.size w4).drew)
  have QD := Lib.hid (Q4.out.trans ((Below.refl w4.heap.size w4).drew.mono Q4.out.size))
  have x0 := X4.out.c0
  have x1 := X4.out.c1
  cases hg : D.hasGiving ⟨ppl, xs⟩ with
  | false =>
    have hfe : D.first ⟨ppl, xs⟩ = [] := by
      rcases D.two ppl xs with hok | ⟨hok, n, cs, rfl, rfl, G, hdn, hdc⟩
      · exact (D.first_bad hok).1
      · cases hL : givs n cs 0 with
        | nil => exact (D.first_none hok hdn hdc hL).1
        | cons f rest => rw [(D.first_is hok hdn hdc hL).2] at hg; cases hg
    have hmf := most_few hg
    rw [hfe] at hvn1
    obtain rfl : vn1 = 0 := hvn1
    rw [← hvn] at hmf
    have hvb : vn ≤ 9223372036854775807 := by omega
    generalize hmm : D.most ⟨ppl, xs⟩ = mm at *
    have HM := Lib.hid hmm
    rw [hg] at hgg
    clear hfe hg hself hvn hmm
    go_wp2_with fail
    refine wp_region_any (by kernel_rfl) ?_
    change wpAny _ _ _ _ _ _ _ (World.drew _)
    refine wpAny_take (i := 0) (oi := ⟨some 45, _, _, _, _, _⟩) (v := .slice va1 0 vc1) rfl (by kernel_rfl) (by kernel_rfl) (by kernel_rfl) (fun _ _ _ h => h) (Or.inl ⟨by rfl, by intro w; go_simp⟩) ?_; simp only [Act.put, List.setIfInBounds_toArray, List.set_cons_zero, List.set_cons_succ]
    refine wpAny_take (i := 1) (oi := ⟨some 46, _, _, _, _, _⟩) (v := .int .i64 0) rfl (by kernel_rfl) (by kernel_rfl) (by kernel_rfl) (fun _ _ _ h => h) (Or.inl ⟨by rfl, by intro w; go_simp⟩) ?_; simp only [Act.put, List.setIfInBounds_toArray, List.set_cons_zero, List.set_cons_succ]
    refine wpAny_take (i := 2) (oi := ⟨some 47, _, _, _, _, _⟩) (v := .bool true) rfl (by kernel_rfl) (by kernel_rfl) (by kernel_rfl) (fun _ _ _ h => h) (Or.inl ⟨by rfl, by intro w; go_simp⟩) ?_; simp only [Act.put, List.setIfInBounds_toArray, List.set_cons_zero, List.set_cons_succ]
    refine wpAny_take (i := 3) (oi := ⟨some 48, _, _, _, _, _⟩) (v := .bool true) rfl (by kernel_rfl) (by kernel_rfl) (by kernel_rfl) (fun _ _ _ h => h) (Or.inl ⟨by rfl, by intro w; go_simp⟩) ?_; simp only [Act.put, List.setIfInBounds_toArray, List.set_cons_zero, List.set_cons_succ]
    refine wpAny_take (i := 6) (oi := ⟨some 51, _, _, _, _, _⟩) (v := .pointer (some ⟨b3, 1, none⟩)) rfl (by kernel_rfl) (by kernel_rfl) (by kernel_rfl) (fun _ _ _ h => h) (Or.inl ⟨by rfl, by intro w; go_simp⟩) ?_; simp only [Act.put, List.setIfInBounds_toArray, List.set_cons_zero, List.set_cons_succ]
    refine wpAny_ready (rs := [4, 7]) (by kernel_rfl) (by simp) ?_
    refine AllReady.cons rfl (fun K hK => ?_) (AllReady.cons rfl (fun K hK => ?_) AllReady.nil)
    · go_simp
      refine hK _ _ ?_
      clear hK K
      refine wpAny_ready (rs := [5, 7]) (by kernel_rfl) (by simp) ?_
      refine AllReady.cons rfl (fun K hK => ?_) (AllReady.cons rfl (fun K hK => ?_) AllReady.nil)
      · go_simp
        go_wp2_with (go_at_call 42; refine (implMostDone_any _ _ _ _ XD.out.ints).mono ?_; rintro e w5 ⟨rfl, hb5⟩; have X6 := Lib.hid (XD.out.below hb5); have Q6 := Lib.hid (QD.out.trans (hb5.mono QD.out.size)); have y0 := X6.out.c0; have y1 := X6.out.c1; rw [HM.out]; clear hb5)
        refine wpAny_ready (rs := [7]) (by kernel_rfl) (by simp) ?_
        refine AllReady.cons rfl (fun K hK => ?_) AllReady.nil
        go_simp
        refine hK _ _ ?_
        clear hK K
        refine wpAny_take (i := 8) (oi := ⟨some 53, _, _, _, _, _⟩) (v := .int .i64 vn) rfl (by kernel_rfl) (by kernel_rfl) (by kernel_rfl) (fun _ _ _ h => h) (Or.inl ⟨by rfl, by intro w; go_simp⟩) ?_; simp only [Act.put, List.setIfInBounds_toArray, List.set_cons_zero, List.set_cons_succ]
        refine wpAny_take (i := 9) (oi := ⟨some 54, _, _, _, _, _⟩) (v := .bool true) rfl (by kernel_rfl) (by kernel_rfl) (by kernel_rfl) (fun _ _ _ h => h) (Or.inl ⟨by rfl, by intro w; go_simp⟩) ?_; simp only [Act.put, List.setIfInBounds_toArray, List.set_cons_zero, List.set_cons_succ]
        refine wpAny_take (i := 10) (oi := ⟨some 55, _, _, _, _, _⟩) (v := .bool true) rfl (by kernel_rfl) (by kernel_rfl) (by kernel_rfl) (fun _ _ _ h => h) (Or.inl ⟨by rfl, by intro w; go_simp⟩) ?_; simp only [Act.put, List.setIfInBounds_toArray, List.set_cons_zero, List.set_cons_succ]
        refine wpAny_take (i := 11) (oi := ⟨some 56, _, _, _, _, _⟩) (v := undef) rfl (by kernel_rfl) (by kernel_rfl) (by kernel_rfl) (fun _ _ _ h => h) (Or.inr ⟨by rfl, rfl⟩) ?_; simp only [Act.put, List.setIfInBounds_toArray, List.set_cons_zero, List.set_cons_succ]
        refine wpAny_take (i := 12) (oi := ⟨some 57, _, _, _, _, _⟩) (v := undef) rfl (by kernel_rfl) (by kernel_rfl) (by kernel_rfl) (fun _ _ _ h => h) (Or.inr ⟨by rfl, rfl⟩) ?_; simp only [Act.put, List.setIfInBounds_toArray, List.set_cons_zero, List.set_cons_succ]
        refine wpAny_take (i := 13) (oi := ⟨some 58, _, _, _, _, _⟩) (v := undef) rfl (by kernel_rfl) (by kernel_rfl) (by kernel_rfl) (fun _ _ _ h => h) (Or.inr ⟨by rfl, rfl⟩) ?_; simp only [Act.put, List.setIfInBounds_toArray, List.set_cons_zero, List.set_cons_succ]
        refine wpAny_take (i := 14) (oi := ⟨some 59, _, _, _, _, _⟩) (v := .bool true) rfl (by kernel_rfl) (by kernel_rfl) (by kernel_rfl) (fun _ _ _ h => h) (Or.inl ⟨by rfl, by intro w; go_simp⟩) ?_; simp only [Act.put, List.setIfInBounds_toArray, List.set_cons_zero, List.set_cons_succ]
        refine wpAny_take (i := 15) (oi := ⟨some 60, _, _, _, _, _⟩) (v := .bool true) rfl (by kernel_rfl) (by kernel_rfl) (by kernel_rfl) (fun _ _ _ h => h) (Or.inl ⟨by rfl, by intro w; go_simp⟩) ?_; simp only [Act.put, List.setIfInBounds_toArray, List.set_cons_zero, List.set_cons_succ]
        refine wpAny_take (i := 16) (oi := ⟨some 61, _, _, _, _, _⟩) (v := .bool true) rfl (by kernel_rfl) (by kernel_rfl) (by kernel_rfl) (fun _ _ _ h => h) (Or.inl ⟨by rfl, by intro w; go_simp⟩) ?_; simp only [Act.put, List.setIfInBounds_toArray, List.set_cons_zero, List.set_cons_succ]
        refine wpAny_ready (rs := [17]) (by kernel_rfl) (by simp) ?_
        refine AllReady.cons rfl (fun K hK => ?_) AllReady.nil
        go_simp
        go_wp2_with (go_at_call 23; refine (aliveD_any _).mono ?_; rintro e w' ⟨rfl, rfl⟩)
        refine wpAny_take (i := 18) (oi := ⟨some 63, _, _, _, _, _⟩) (v := .bool true) rfl (by kernel_rfl) (by kernel_rfl) (by kernel_rfl) (fun _ _ _ h => h) (Or.inl ⟨by rfl, by intro w; go_simp⟩) ?_; simp only [Act.put, List.setIfInBounds_toArray, List.set_cons_zero, List.set_cons_succ]
        refine wpAny_take (i := 19) (oi := ⟨some 4, _, _, _, _, _⟩) (v := .bool true) rfl (by kernel_rfl) (by kernel_rfl) (by kernel_rfl) (fun _ _ _ h => h) (Or.inl ⟨by rfl, by intro w; go_simp⟩) ?_; simp only [Act.put, List.setIfInBounds_toArray, List.set_cons_zero, List.set_cons_succ]
        refine wpAny_done (by kernel_rfl) ?_ _
        go_simp
        go_wp2_with fail
        go_ret
        exact ⟨rfl, Q6.out⟩
      · go_simp
        refine hK _ _ ?_
        clear hK K
        refine wpAny_take (i := 8) (oi := ⟨some 53, _, _, _, _, _⟩) (v := .int .i64 vn) rfl (by kernel_rfl) (by kernel_rfl) (by kernel_rfl) (fun _ _ _ h => h) (Or.inl ⟨by rfl, by intro w; go_simp⟩) ?_; simp only [Act.put, List.setIfInBounds_toArray, List.set_cons_zero, List.set_cons_succ]
        refine wpAny_ready (rs := [5]) (by kernel_rfl) (by simp) ?_
        refine AllReady.cons rfl (fun K hK => ?_) AllReady.nil
        go_simp
        go_wp2_with (go_at_call 42; refine (implMostDone_any _ _ _ _ XD.out.ints).mono ?_; rintro e w5 ⟨rfl, hb5⟩; have X6 := Lib.hid (XD.out.below hb5); have Q6 := Lib.hid (QD.out.trans (hb5.mono QD.out.size)); have y0 := X6.out.c0; have y1 := X6.out.c1; rw [HM.out]; clear hb5)
        refine wpAny_take (i := 9) (oi := ⟨some 54, _, _, _, _, _⟩) (v := .bool true) rfl (by kernel_rfl) (by kernel_rfl) (by kernel_rfl) (fun _ _ _ h => h) (Or.inl ⟨by rfl, by intro w; go_simp⟩) ?_; simp only [Act.put, List.setIfInBounds_toArray, List.set_cons_zero, List.set_cons_succ]
        refine wpAny_take (i := 10) (oi := ⟨some 55, _, _, _, _, _⟩) (v := .bool true) rfl (by kernel_rfl) (by kernel_rfl) (by kernel_rfl) (fun _ _ _ h => h) (Or.inl ⟨by rfl, by intro w; go_simp⟩) ?_; simp only [Act.put, List.setIfInBounds_toArray, List.set_cons_zero, List.set_cons_succ]
        refine wpAny_take (i := 11) (oi := ⟨some 56, _, _, _, _, _⟩) (v := undef) rfl (by kernel_rfl) (by kernel_rfl) (by kernel_rfl) (fun _ _ _ h => h) (Or.inr ⟨by rfl, rfl⟩) ?_; simp only [Act.put, List.setIfInBounds_toArray, List.set_cons_zero, List.set_cons_succ]
        refine wpAny_take (i := 12) (oi := ⟨some 57, _, _, _, _, _⟩) (v := undef) rfl (by kernel_rfl) (by kernel_rfl) (by kernel_rfl) (fun _ _ _ h => h) (Or.inr ⟨by rfl, rfl⟩) ?_; simp only [Act.put, List.setIfInBounds_toArray, List.set_cons_zero, List.set_cons_succ]
        refine wpAny_take (i := 13) (oi := ⟨some 58, _, _, _, _, _⟩) (v := undef) rfl (by kernel_rfl) (by kernel_rfl) (by kernel_rfl) (fun _ _ _ h => h) (Or.inr ⟨by rfl, rfl⟩) ?_; simp only [Act.put, List.setIfInBounds_toArray, List.set_cons_zero, List.set_cons_succ]
        refine wpAny_take (i := 14) (oi := ⟨some 59, _, _, _, _, _⟩) (v := .bool true) rfl (by kernel_rfl) (by kernel_rfl) (by kernel_rfl) (fun _ _ _ h => h) (Or.inl ⟨by rfl, by intro w; go_simp⟩) ?_; simp only [Act.put, List.setIfInBounds_toArray, List.set_cons_zero, List.set_cons_succ]
        refine wpAny_take (i := 15) (oi := ⟨some 60, _, _, _, _, _⟩) (v := .bool true) rfl (by kernel_rfl) (by kernel_rfl) (by kernel_rfl) (fun _ _ _ h => h) (Or.inl ⟨by rfl, by intro w; go_simp⟩) ?_; simp only [Act.put, List.setIfInBounds_toArray, List.set_cons_zero, List.set_cons_succ]
        refine wpAny_take (i := 16) (oi := ⟨some 61, _, _, _, _, _⟩) (v := .bool true) rfl (by kernel_rfl) (by kernel_rfl) (by kernel_rfl) (fun _ _ _ h => h) (Or.inl ⟨by rfl, by intro w; go_simp⟩) ?_; simp only [Act.put, List.setIfInBounds_toArray, List.set_cons_zero, List.set_cons_succ]
        refine wpAny_ready (rs := [17]) (by kernel_rfl) (by simp) ?_
        refine AllReady.cons rfl (fun K hK => ?_) AllReady.nil
        go_simp
        go_wp2_with (go_at_call 23; refine (aliveD_any _).mono ?_; rintro e w' ⟨rfl, rfl⟩)
        refine wpAny_take (i := 18) (oi := ⟨some 63, _, _, _, _, _⟩) (v := .bool true) rfl (by kernel_rfl) (by kernel_rfl) (by kernel_rfl) (fun _ _ _ h => h) (Or.inl ⟨by rfl, by intro w; go_simp⟩) ?_; simp only [Act.put, List.setIfInBounds_toArray, List.set_cons_zero, List.set_cons_succ]
        refine wpAny_take (i := 19) (oi := ⟨some 4, _, _, _, _, _⟩) (v := .bool true) rfl (by kernel_rfl) (by kernel_rfl) (by kernel_rfl) (fun _ _ _ h => h) (Or.inl ⟨by rfl, by intro w; go_simp⟩) ?_; simp only [Act.put, List.setIfInBounds_toArray, List.set_cons_zero, List.set_cons_succ]
        refine wpAny_done (by kernel_rfl) ?_ _
        go_simp
        go_wp2_with fail
        go_ret
        exact ⟨rfl, Q6.out⟩
    · go_simp
      refine hK _ _ ?_
      clear hK K
      refine wpAny_take (i := 8) (oi := ⟨some 53, _, _, _, _, _⟩) (v := .int .i64 vn) rfl (by kernel_rfl) (by kernel_rfl) (by kernel_rfl) (fun _ _ _ h => h) (Or.inl ⟨by rfl, by intro w; go_simp⟩) ?_; simp only [Act.put, List.setIfInBounds_toArray, List.set_cons_zero, List.set_cons_succ]
      refine wpAny_ready (rs := [4]) (by kernel_rfl) (by simp) ?_
      refine AllReady.cons rfl (fun K hK => ?_) AllReady.nil
      go_simp
      refine hK _ _ ?_
      clear hK K
      refine wpAny_ready (rs := [5]) (by kernel_rfl) (by simp) ?_
      refine AllReady.cons rfl (fun K hK => ?_) AllReady.nil
      go_simp
      go_wp2_with (go_at_call 42; refine (implMostDone_any _ _ _ _ XD.out.ints).mono ?_; rintro e w5 ⟨rfl, hb5⟩; have X6 := Lib.hid (XD.out.below hb5); have Q6 := Lib.hid (QD.out.trans (hb5.mono QD.out.size)); have y0 := X6.out.c0; have y1 := X6.out.c1; rw [HM.out]; clear hb5)
      refine wpAny_take (i := 9) (oi := ⟨some 54, _, _, _, _, _⟩) (v := .bool true) rfl (by kernel_rfl) (by kernel_rfl) (by kernel_rfl) (fun _ _ _ h => h) (Or.inl ⟨by rfl, by intro w; go_simp⟩) ?_; simp only [Act.put, List.setIfInBounds_toArray, List.set_cons_zero, List.set_cons_succ]
      refine wpAny_take (i := 10) (oi := ⟨some 55, _, _, _, _, _⟩) (v := .bool true) rfl (by kernel_rfl) (by kernel_rfl) (by kernel_rfl) (fun _ _ _ h => h) (Or.inl ⟨by rfl, by intro w; go_simp⟩) ?_; simp only [Act.put, List.setIfInBounds_toArray, List.set_cons_zero, List.set_cons_succ]
      refine wpAny_take (i := 11) (oi := ⟨some 56, _, _, _, _, _⟩) (v := undef) rfl (by kernel_rfl) (by kernel_rfl) (by kernel_rfl) (fun _ _ _ h => h) (Or.inr ⟨by rfl, rfl⟩) ?_; simp only [Act.put, List.setIfInBounds_toArray, List.set_cons_zero, List.set_cons_succ]
      refine wpAny_take (i := 12) (oi := ⟨some 57, _, _, _, _, _⟩) (v := undef) rfl (by kernel_rfl) (by kernel_rfl) (by kernel_rfl) (fun _ _ _ h => h) (Or.inr ⟨by rfl, rfl⟩) ?_; simp only [Act.put, List.setIfInBounds_toArray, List.set_cons_zero, List.set_cons_succ]
      refine wpAny_take (i := 13) (oi := ⟨some 58, _, _, _, _, _⟩) (v := undef) rfl (by kernel_rfl) (by kernel_rfl) (by kernel_rfl) (fun _ _ _ h => h) (Or.inr ⟨by rfl, rfl⟩) ?_; simp only [Act.put, List.setIfInBounds_toArray, List.set_cons_zero, List.set_cons_succ]
      refine wpAny_take (i := 14) (oi := ⟨some 59, _, _, _, _, _⟩) (v := .bool true) rfl (by kernel_rfl) (by kernel_rfl) (by kernel_rfl) (fun _ _ _ h => h) (Or.inl ⟨by rfl, by intro w; go_simp⟩) ?_; simp only [Act.put, List.setIfInBounds_toArray, List.set_cons_zero, List.set_cons_succ]
      refine wpAny_take (i := 15) (oi := ⟨some 60, _, _, _, _, _⟩) (v := .bool true) rfl (by kernel_rfl) (by kernel_rfl) (by kernel_rfl) (fun _ _ _ h => h) (Or.inl ⟨by rfl, by intro w; go_simp⟩) ?_; simp only [Act.put, List.setIfInBounds_toArray, List.set_cons_zero, List.set_cons_succ]
      refine wpAny_take (i := 16) (oi := ⟨some 61, _, _, _, _, _⟩) (v := .bool true) rfl (by kernel_rfl) (by kernel_rfl) (by kernel_rfl) (fun _ _ _ h => h) (Or.inl ⟨by rfl, by intro w; go_simp⟩) ?_; simp only [Act.put, List.setIfInBounds_toArray, List.set_cons_zero, List.set_cons_succ]
      refine wpAny_ready (rs := [17]) (by kernel_rfl) (by simp) ?_
      refine AllReady.cons rfl (fun K hK => ?_) AllReady.nil
      go_simp
      go_wp2_with (go_at_call 23; refine (aliveD_any _).mono ?_; rintro e w' ⟨rfl, rfl⟩)
      refine wpAny_take (i := 18) (oi := ⟨some 63, _, _, _, _, _⟩) (v := .bool true) rfl (by kernel_rfl) (by kernel_rfl) (by kernel_rfl) (fun _ _ _ h => h) (Or.inl ⟨by rfl, by intro w; go_simp⟩) ?_; simp only [Act.put, List.setIfInBounds_toArray, List.set_cons_zero, List.set_cons_succ]
      refine wpAny_take (i := 19) (oi := ⟨some 4, _, _, _, _, _⟩) (v := .bool true) rfl (by kernel_rfl) (by kernel_rfl) (by kernel_rfl) (fun _ _ _ h => h) (Or.inl ⟨by rfl, by intro w; go_simp⟩) ?_; simp only [Act.put, List.setIfInBounds_toArray, List.set_cons_zero, List.set_cons_succ]
      refine wpAny_done (by kernel_rfl) ?_ _
      go_simp
      go_wp2_with fail
      go_ret
      exact ⟨rfl, Q6.out⟩
  | true =>
    rcases D.two ppl xs with hok | ⟨hok, n, cs, rfl, rfl, G, hdn, hdc⟩
    · exact absurd hg (by rw [(D.first_bad hok).2]; simp)
    obtain ⟨f, rest, hL⟩ : ∃ f rest, givs n cs 0 = f :: rest := by
      cases hL : givs n cs 0 with
      | nil => exact absurd hg (by rw [(D.first_none hok hdn hdc hL).2]; simp)
      | cons f rest => exact ⟨f, rest, rfl⟩
    have hfe := (D.first_is hok hdn hdc hL).1
    have hgf : gok n cs 0 f = true := mem_givs.1 (by rw [hL]; exact List.mem_cons_self)
    have hfl := gok_len hgf
    have HGF : Hid (D.giving ⟨n, cs.map Int.ofNat⟩ f = true) := Lib.hid (by have : D.giving ⟨n, cs.map Int.ofNat⟩ f = true := by { rw [D.giving, hok, hdn, hdc, hgf]; rfl }; exact this)
    have HMS : Hid (D.most ⟨n, cs.map Int.ofNat⟩ = (cs.length : Int)) := Lib.hid (by have : D.most ⟨n, cs.map Int.ofNat⟩ = (cs.length : Int) := by { have h2 := (hasGiving_iff hok hdn hdc).1 hg; simp only [D.most, hok, if_true, hdn, hdc, h2] }; exact this)
    have HLE : Hid (∀ ys : List Int, D.giving ⟨n, cs.map Int.ofNat⟩ ys = true → ∀ k, k < cs.length → (∀ j, j < k → f.getD j (-1) = ys.getD j (-1)) → f.getD k (-1) ≤ ys.getD k (-1)) := Lib.hid (fun ys hy => by
      rw [D.giving, hok, hdn, hdc, Bool.true_and] at hy
      obtain ⟨f', rest', h1, h2⟩ := first_le hy
      rw [hL] at h1
      simp only [List.cons.injEq] at h1
      obtain ⟨rfl, rfl⟩ := h1
      exact h2)
    have hl5 := G.l5
    have hn6 := G.n6
    rw [hfe] at J4 hself hvn1
    rw [List.length_map] at hvn
    rw [hfl] at hvn1
    subst hvn hvn1
    rw [hg] at hgg
    have HFL := Lib.hid hfl
    have hcl : ((cs.length : Int) == (cs.length : Int)) = true := by simp
    clear hfe hg hself G hdn hdc hok hgf hfl hxl XD QD
    have O5 : Hid (Own w4 [rowT 3 1 (.slice (some ⟨w4.heap.size, 0, none⟩) 0 0) 0 []] (w4.alloc (.cells #[] 3))) := Lib.hid ((Own.nil w4).lit 3 #[] 0 rfl (Nat.zero_le _))
    go_wp2_with fail
    clear x0 x1
    go_loopw [10, 11] (fun v10 i wr => ∃ (k : Nat) (ca : Option Addr) (cc : Nat) (ys : List Int), k ≤ cs.length ∧ ys.length = k ∧ v10 = .slice ca k cc ∧ i = .int .i64 k ∧ Own w4 [rowT 3 1 (.slice ca k cc) k (ys.map (Value.int .i64))] wr) (fun _ i _ => cs.length - (intOf i).toNat)
    case atStart => exact ⟨0, _, 0, [], Nat.zero_le _, rfl, rfl, rfl, O5.out⟩
    case round =>
      obtain ⟨k, ca, cc, ys, hk, hyl, rfl, rfl, hO⟩ := hrel
      obtain ⟨wo, rfl⟩ : ∃ wo, wo = wr := ⟨_, rfl⟩
      have OZ := Lib.hid hO
      have Q5 := Lib.hid (Q4.out.trans (hO.keep.mono Q4.out.size))
      have X5 := Lib.hid (X4.out.below (hO.keep.mono (Nat.le_refl _)))
      have J5 := Lib.hid (J4.out.below (hO.keep.mono (Nat.le_refl _)))
      have x0 := X5.out.c0
      have x1 := X5.out.c1
      clear hO
      by_cases hlt : k < cs.length
      · by_cases hz : len2 = 0
        · have hz' : (len2 : Int) ≤ 0 := by omega
          clear hz
          go_wp2_with (at_builtin; refine wpList_append_lies _ rfl _ _ 23 rfl 0 3 i0 (.int .i64 0) 1 8 Try.underlying23 HII.out.1 HII.out.2.1 HII.out.2.2.1 HII.out.2.2.2 rfl (by decide) (.slice ca k cc) k (ys.map (Value.int .i64)) rfl ((OZ.out.alloc _).row 0 (by simp) rfl) ⟨_, 0, none⟩ 1 1 [.int .i64 0] rfl rfl (one_newsD _ _ _) (by simp [Value.oneCell']) (by omega) (by unfold maxLen; omega) (by omega) (Nat.zero_le _) _ rfl ?_; intro g9 cp9 w9 hown hgrow hat hlt9; have O9 := Lib.hid (by have h := (OZ.out.alloc (.cells #[.int .i64 0] 3)).turnD (i := 0) (by simp) rfl hgrow hown hat; simp only [List.set_cons_zero, snocD] at h; exact h); clear hown hgrow hat hlt9)
          go_roundw
          case rel => exact ⟨k + 1, _, _, ys ++ [0], by omega, by simp; omega, rfl, by go_num, O9.out⟩
          case measure => simp [intOf]; omega
        · have hz' : (0 : Int) < (len2 : Int) := by omega
          obtain ⟨g2, off2, z, rfl, hg2, hz2⟩ := (row_bytes (H2.out.belowD Q5.out)).resolve_left hz
          obtain ⟨hz3, hcell⟩ := hz2 (k % len2) (Nat.mod_lt _ (by omega))
          have hmod : ((k : Int).tmod (len2 : Int)) = ((k % len2 : Nat) : Int) := by rw [Int.tmod_eq_emod_of_nonneg (by omega)]; rfl
          have hml := Nat.mod_lt k (by omega : 0 < len2)
          have hne : ((len2 : Int) == 0) = false := by simp; omega
          generalize k % len2 = q at *
          generalize z q = c at *
          have hcw : IntKind.i64.wrap (c : Int) = c := IntWalk.i64_in _ (by omega)
          have hmx : (if (1 : Int) > (n : Int) then (1 : Int) else (n : Int)) = ((max n 1 : Nat) : Int) := by split <;> omega
          have hmn : (((max n 1 : Nat) : Int) == 0) = false := beq_eq_false_iff_ne.2 (by omega)
          have hmq : (c : Int).tmod ((max n 1 : Nat) : Int) = ((c % max n 1 : Nat) : Int) := by rw [Int.tmod_eq_emod_of_nonneg (by omega)]; rfl
          have hmq2 : (c : Int) % ((max n 1 : Nat) : Int) = ((c % max n 1 : Nat) : Int) := rfl
          have hmm2 : max (n : Int) 1 = ((max n 1 : Nat) : Int) := by omega
          have hmb : c % max n 1 < 64 := Nat.lt_of_lt_of_le (Nat.mod_lt _ (by omega)) (by omega)
          generalize c % max n 1 = y at *
          generalize max n 1 = mx at *
          clear hz hz2
          have OZ := Lib.hid (OZ.out.same (grown_drew wo none))
          go_wp2_with fail
          go_region
          all_goals
            go_wp2_with (at_builtin; refine wpList_append_lies _ rfl _ _ 23 rfl 0 3 i0 (.int .i64 0) 1 8 Try.underlying23 HII.out.1 HII.out.2.1 HII.out.2.2.1 HII.out.2.2.2 rfl (by decide) (.slice ca k cc) k (ys.map (Value.int .i64)) rfl ((OZ.out.alloc _).row 0 (by simp) rfl) ⟨_, 0, none⟩ 1 1 [.int .i64 (y : Int)] rfl rfl (one_newsD _ _ _) (by simp [Value.oneCell']) (by omega) (by unfold maxLen; omega) (by omega) (Nat.zero_le _) _ rfl ?_; intro g9 cp9 w9 hown hgrow hat hlt9; have O9 := Lib.hid (by have h := (OZ.out.alloc (.cells #[.int .i64 (y : Int)] 3)).turnD (i := 0) (by simp) rfl hgrow hown hat; simp only [List.set_cons_zero, snocD] at h; exact h); clear hown hgrow hat hlt9)
            go_roundw
            case rel => exact ⟨k + 1, _, _, ys ++ [(y : Int)], by omega, by simp; omega, rfl, by go_num, O9.out⟩
            case measure => simp [intOf]; omega
      · obtain rfl : k = cs.length := by omega
        have IY := Lib.hid (IsInts.of_ownsN (by simpa using hyl) (OZ.out.row 0 (by simp) rfl))
        go_wp2_with fail
        clear x0 x1
        refine (implGivingOk_any (n : Int) (cs.map Int.ofNat) _ ys _ _ X5.out.ints IY.out).mono ?_
        rintro e w6 ⟨rfl, hb6⟩
        have X6 := Lib.hid (X5.out.below hb6)
        have Q6 := Lib.hid (Q5.out.trans (hb6.mono Q5.out.size))
        have J6 := Lib.hid (J5.out.below hb6)
        have IY6 := Lib.hid (IY.out.below hb6)
        clear hb6 X5 Q5 J5 IY
        cases hgv : D.giving ⟨n, cs.map Int.ofNat⟩ ys with
        | false =>
          clear hgv
          go_wp2_with fail
          have XE := Lib.hid (X6.out.below (Below.refl _ _).drew)
          have QE := Lib.hid (Q6.out.trans ((Below.refl _ _).drew.mono Q6.out.size))
          have JE := Lib.hid (J6.out.below (Below.refl _ _).drew)
          go_region_held3 (fun w' => w'.cell? ⟨b3, 0, none⟩ = some (.int .i64 n) ∧ w'.cell? ⟨b3, 1, none⟩ = some (.slice va cs.length vc))
            (first | (with_reducible exact ⟨XE.out.c0, XE.out.c1⟩) | (with_reducible exact ⟨X8.out.c0, X8.out.c1⟩) | (with_reducible exact ⟨X9.out.c0, X9.out.c1⟩))
            (first | (go_at_call 49; with_reducible refine (implGivingOk_any _ _ _ _ _ _ XE.out.ints JE.out).mono ?_; rintro e w8 ⟨rfl, hb8⟩; rw [HGF.out]; have X8 := Lib.hid (XE.out.below hb8); have Q8 := Lib.hid (QE.out.trans (hb8.mono QE.out.size)); clear hb8) | (go_at_call 42; with_reducible refine (implMostDone_any _ _ _ _ X8.out.ints).mono ?_; rintro e w9 ⟨rfl, hb9⟩; rw [HMS.out]; have X9 := Lib.hid (X8.out.below hb9); have Q9 := Lib.hid (Q8.out.trans (hb9.mono Q8.out.size)); clear hb9) | (go_at_call 23; refine (aliveD_any _).mono ?_; rintro e w' ⟨rfl, rfl⟩))
          all_goals
            go_wp2_with fail
            go_ret
            exact ⟨rfl, Q9.out⟩
        | true =>
          have HL := Lib.hid (HLE.out ys hgv)
          have hlw : IntKind.i64.wrap ((cs.length : Int) - 1) = (cs.length : Int) - 1 := IntWalk.i64_in _ (by omega)
          clear hgv
          go_wp2_with fail
          go_loopw [13] (fun i wr => ∃ k : Nat, k ≤ cs.length - 1 ∧ i = .int .i64 k ∧ (∀ j, j < k → f.getD j (-1) = ys.getD j (-1)) ∧ Below w6.heap.size w6 wr) (fun i _ => cs.length - (intOf i).toNat)
          case atStart => exact ⟨0, Nat.zero_le _, rfl, fun j h => absurd h (Nat.not_lt_zero _), Below.refl _ _⟩
          case round =>
            obtain ⟨k, hk, rfl, heq, hbr⟩ := hrel
            obtain ⟨w7, rfl⟩ : ∃ wo, wo = wr := ⟨_, rfl⟩
            have HE := Lib.hid heq
            have HB := Lib.hid hbr
            have X7 := Lib.hid (X6.out.below hbr)
            have Q7 := Lib.hid (Q6.out.trans (hbr.mono Q6.out.size))
            have J7 := Lib.hid (J6.out.below hbr)
            have IY7 := Lib.hid (IY6.out.below hbr)
            have HF2 := HFL.out
            have HBW : Hid (∀ p, Below w7.heap.size w7 (w7.drewN p)) := Lib.hid (fun p => below_drewNF p)
            have HB1 : Hid (∀ p, Below w7.heap.size w7 ((w7.drewN p).drew)) := Lib.hid (fun p => ⟨rfl, rfl, rfl, Nat.le_refl _, fun _ _ => rfl⟩)
            have HB2 : Hid (∀ p q, Below w7.heap.size w7 ((w7.drewN p).drewN q)) := Lib.hid (fun p q => ⟨rfl, rfl, rfl, Nat.le_refl _, fun _ _ => rfl⟩)
            have HB3 : Hid (∀ p q, Below w7.heap.size w7 (((w7.drewN p).drewN q).drew)) := Lib.hid (fun p q => ⟨rfl, rfl, rfl, Nat.le_refl _, fun _ _ => rfl⟩)
            clear heq hbr
            generalize cs.length = L at *
            by_cases h0 : L = 0
            · subst h0
              obtain rfl : k = 0 := by omega
              go_wp2_with fail
              go_quiet (fail)
              go_wp2_with fail
              go_quiet (fail)
              go_wp2_with fail
              go_region_held3 (fun w' => w'.cell? ⟨b3, 0, none⟩ = some (.int .i64 n) ∧ w'.cell? ⟨b3, 1, none⟩ = some (.slice va 0 vc))
                (first | (with_reducible exact ⟨(X7.out.below (by first | (with_reducible exact HBW.out _) | (with_reducible exact HB1.out _) | (with_reducible exact HB2.out _ _) | (with_reducible exact HB3.out _ _))).c0, (X7.out.below (by first | (with_reducible exact HBW.out _) | (with_reducible exact HB1.out _) | (with_reducible exact HB2.out _ _) | (with_reducible exact HB3.out _ _))).c1⟩) | (with_reducible exact ⟨X8.out.c0, X8.out.c1⟩) | (with_reducible exact ⟨X9.out.c0, X9.out.c1⟩))
                (first | (go_at_call 49; with_reducible refine (implGivingOk_any _ _ _ _ _ _ (X7.out.below (by first | (with_reducible exact HBW.out _) | (with_reducible exact HB1.out _) | (with_reducible exact HB2.out _ _) | (with_reducible exact HB3.out _ _))).ints (J7.out.below (by first | (with_reducible exact HBW.out _) | (with_reducible exact HB1.out _) | (with_reducible exact HB2.out _ _) | (with_reducible exact HB3.out _ _)))).mono ?_; rintro e w8 ⟨rfl, hb8⟩; rw [HGF.out]; have X8 := Lib.hid ((X7.out.below (by first | (with_reducible exact HBW.out _) | (with_reducible exact HB1.out _) | (with_reducible exact HB2.out _ _) | (with_reducible exact HB3.out _ _))).below hb8); have Q8 := Lib.hid ((Q7.out.trans (Below.mono (by first | (with_reducible exact HBW.out _) | (with_reducible exact HB1.out _) | (with_reducible exact HB2.out _ _) | (with_reducible exact HB3.out _ _)) Q7.out.size)).trans (hb8.mono (Q7.out.trans (Below.mono (by first | (with_reducible exact HBW.out _) | (with_reducible exact HB1.out _) | (with_reducible exact HB2.out _ _) | (with_reducible exact HB3.out _ _)) Q7.out.size)).size)); clear hb8) | (go_at_call 42; with_reducible refine (implMostDone_any _ _ _ _ X8.out.ints).mono ?_; rintro e w9 ⟨rfl, hb9⟩; rw [HMS.out]; have X9 := Lib.hid (X8.out.below hb9); have Q9 := Lib.hid (Q8.out.trans (hb9.mono Q8.out.size)); clear hb9) | (go_at_call 23; refine (aliveD_any _).mono ?_; rintro e w' ⟨rfl, rfl⟩))
              all_goals
                go_wp2_with fail
                go_ret
                exact ⟨rfl, Q9.out⟩
            · have hkl : k < L := by omega
              have hpos : decide ((0 : Int) < (L : Int)) = true := decide_eq_true (by omega)
              have hpos2 : decide (0 < L) = true := by simp; omega
              have hkf : k < f.length := by omega
              have hky : k < ys.length := by omega
              obtain ⟨aF, cF, hsF, _, _, hF⟩ := J7.out
              simp only [Value.slice.injEq] at hsF
              obtain ⟨rfl, hlF, rfl⟩ := hsF
              obtain ⟨gF, oF, rfl, hgF, hcF⟩ := hF.resolve_left (fun h => by rw [h] at hkf; exact absurd hkf (Nat.not_lt_zero _))
              obtain ⟨aY, cY, hsY, _, _, hY⟩ := IY7.out
              simp only [Value.slice.injEq] at hsY
              obtain ⟨rfl, hlY, rfl⟩ := hsY
              obtain ⟨gY, oY, rfl, hgY, hcY⟩ := hY.resolve_left (fun h => by rw [h] at hky; exact absurd hky (Nat.not_lt_zero _))
              have hc1 := hcF k hkf
              have hc2 := hcY k hky
              have hle := HL.out k hkl HE.out
              have e1 : f.getD k (-1) = f[k] := by simp [List.getD, hkf]
              have e2 : ys.getD k (-1) = ys[k] := by simp [List.getD, hky]
              rw [e1, e2] at hle
              have hnl : decide (ys[k] < f[k]) = false := decide_eq_false (by omega)
              have HN : f[k] = ys[k] → ∀ j, j < k + 1 → f.getD j (-1) = ys.getD j (-1) := fun he j hj => by
                by_cases hjk : j = k
                · subst hjk; rw [e1, e2, he]
                · exact HE.out j (by omega)
              have HNN := Lib.hid HN
              clear hcF hcY e1 e2 HN hle h0 hlF hlY HF2 hF hY
              generalize f[k] = fk at *
              generalize ys[k] = yk at *
              clear hkf hky
              by_cases hlt : (k : Int) < (L : Int) - 1
              · have hgd : decide ((k : Int) < (L : Int) - 1) = true := decide_eq_true hlt
                by_cases he : fk = yk
                · have HN2 := Lib.hid (HNN.out he)
                  have heb : (fk == yk) = true := by simp [he]
                  clear he
                  go_wp2_with fail
                  go_quiet (fail)
                  go_wp2_with fail
                  go_roundw
                  case rel => exact ⟨k + 1, by omega, by go_num, HN2.out, HB.out.trans ((below_drewNF _).mono HB.out.size)⟩
                  case measure => simp [intOf]; omega
                · have heb : (fk == yk) = false := by simp [he]
                  clear he
                  go_wp2_with fail
                  go_quiet (fail)
                  go_wp2_with fail
                  go_quiet (fail)
                  go_wp2_with fail
                  go_region_held3 (fun w' => w'.cell? ⟨b3, 0, none⟩ = some (.int .i64 n) ∧ w'.cell? ⟨b3, 1, none⟩ = some (.slice va L vc))
                    (first | (with_reducible exact ⟨(X7.out.below (by first | (with_reducible exact HBW.out _) | (with_reducible exact HB1.out _) | (with_reducible exact HB2.out _ _) | (with_reducible exact HB3.out _ _))).c0, (X7.out.below (by first | (with_reducible exact HBW.out _) | (with_reducible exact HB1.out _) | (with_reducible exact HB2.out _ _) | (with_reducible exact HB3.out _ _))).c1⟩) | (with_reducible exact ⟨X8.out.c0, X8.out.c1⟩) | (with_reducible exact ⟨X9.out.c0, X9.out.c1⟩))
                    (first | (go_at_call 49; with_reducible refine (implGivingOk_any _ _ _ _ _ _ (X7.out.below (by first | (with_reducible exact HBW.out _) | (with_reducible exact HB1.out _) | (with_reducible exact HB2.out _ _) | (with_reducible exact HB3.out _ _))).ints (J7.out.below (by first | (with_reducible exact HBW.out _) | (with_reducible exact HB1.out _) | (with_reducible exact HB2.out _ _) | (with_reducible exact HB3.out _ _)))).mono ?_; rintro e w8 ⟨rfl, hb8⟩; rw [HGF.out]; have X8 := Lib.hid ((X7.out.below (by first | (with_reducible exact HBW.out _) | (with_reducible exact HB1.out _) | (with_reducible exact HB2.out _ _) | (with_reducible exact HB3.out _ _))).below hb8); have Q8 := Lib.hid ((Q7.out.trans (Below.mono (by first | (with_reducible exact HBW.out _) | (with_reducible exact HB1.out _) | (with_reducible exact HB2.out _ _) | (with_reducible exact HB3.out _ _)) Q7.out.size)).trans (hb8.mono (Q7.out.trans (Below.mono (by first | (with_reducible exact HBW.out _) | (with_reducible exact HB1.out _) | (with_reducible exact HB2.out _ _) | (with_reducible exact HB3.out _ _)) Q7.out.size)).size)); clear hb8) | (go_at_call 42; with_reducible refine (implMostDone_any _ _ _ _ X8.out.ints).mono ?_; rintro e w9 ⟨rfl, hb9⟩; rw [HMS.out]; have X9 := Lib.hid (X8.out.below hb9); have Q9 := Lib.hid (Q8.out.trans (hb9.mono Q8.out.size)); clear hb9) | (go_at_call 23; refine (aliveD_any _).mono ?_; rintro e w' ⟨rfl, rfl⟩))
                  all_goals
                    go_wp2_with fail
                    go_ret
                    exact ⟨rfl, Q9.out⟩
              · have hgd : decide ((k : Int) < (L : Int) - 1) = false := decide_eq_false hlt
                go_wp2_with fail
                go_quiet (fail)
                go_wp2_with fail
                go_quiet (fail)
                go_wp2_with fail
                go_region_held3 (fun w' => w'.cell? ⟨b3, 0, none⟩ = some (.int .i64 n) ∧ w'.cell? ⟨b3, 1, none⟩ = some (.slice va L vc))
                  (first | (with_reducible exact ⟨(X7.out.below (by first | (with_reducible exact HBW.out _) | (with_reducible exact HB1.out _) | (with_reducible exact HB2.out _ _) | (with_reducible exact HB3.out _ _))).c0, (X7.out.below (by first | (with_reducible exact HBW.out _) | (with_reducible exact HB1.out _) | (with_reducible exact HB2.out _ _) | (with_reducible exact HB3.out _ _))).c1⟩) | (with_reducible exact ⟨X8.out.c0, X8.out.c1⟩) | (with_reducible exact ⟨X9.out.c0, X9.out.c1⟩))
                  (first | (go_at_call 49; with_reducible refine (implGivingOk_any _ _ _ _ _ _ (X7.out.below (by first | (with_reducible exact HBW.out _) | (with_reducible exact HB1.out _) | (with_reducible exact HB2.out _ _) | (with_reducible exact HB3.out _ _))).ints (J7.out.below (by first | (with_reducible exact HBW.out _) | (with_reducible exact HB1.out _) | (with_reducible exact HB2.out _ _) | (with_reducible exact HB3.out _ _)))).mono ?_; rintro e w8 ⟨rfl, hb8⟩; rw [HGF.out]; have X8 := Lib.hid ((X7.out.below (by first | (with_reducible exact HBW.out _) | (with_reducible exact HB1.out _) | (with_reducible exact HB2.out _ _) | (with_reducible exact HB3.out _ _))).below hb8); have Q8 := Lib.hid ((Q7.out.trans (Below.mono (by first | (with_reducible exact HBW.out _) | (with_reducible exact HB1.out _) | (with_reducible exact HB2.out _ _) | (with_reducible exact HB3.out _ _)) Q7.out.size)).trans (hb8.mono (Q7.out.trans (Below.mono (by first | (with_reducible exact HBW.out _) | (with_reducible exact HB1.out _) | (with_reducible exact HB2.out _ _) | (with_reducible exact HB3.out _ _)) Q7.out.size)).size)); clear hb8) | (go_at_call 42; with_reducible refine (implMostDone_any _ _ _ _ X8.out.ints).mono ?_; rintro e w9 ⟨rfl, hb9⟩; rw [HMS.out]; have X9 := Lib.hid (X8.out.below hb9); have Q9 := Lib.hid (Q8.out.trans (hb9.mono Q8.out.size)); clear hb9) | (go_at_call 23; refine (aliveD_any _).mono ?_; rintro e w' ⟨rfl, rfl⟩))
                all_goals
                  go_wp2_with fail
                  go_ret
                  exact ⟨rfl, Q9.out⟩
end Go.Proofs.Ythihcnlbohhemaa
