/- The walks of FnSortedLoads, FnSpreadOf, FnSquaresOf: true at every code. No condition. -/
import Derived.Test.YthdpeholeelhdaaLawLoad
namespace Go.Proofs.Ythdpeholeelhdaa
open Go.RowKit

theorem beq_self_h (ys : List Int) : Hid ((ys == ys) = true) := by
  have : (ys == ys) = true := by simp
  exact Lib.hid this

set_option maxHeartbeats 3200000 in
theorem lawSortedLoads_walk {w : World} (a : Option Addr) (len cap : Nat) (zs : List Int) (h : IsRow .u8 w a len cap zs) :
    Calls Try.prog 4 #[.slice a len cap] w fun e w' => e = .returned (.bool true) ∧ Below w.heap.size w w' := by
  have HD := Lib.hid (drawSortedLoads_any a len cap zs w h)
  have hl := rowL_len h
  clear h
  by_cases hbig : 1048576 < len
  · go_enter Try.func4, Try.ntmps4
    go_wp2_with fail
    go_ret
    exact ⟨rfl, Below.refl _ _⟩
  go_enter Try.func4, Try.ntmps4
  go_wp2_with fail
  refine HD.out.mono ?_
  clear HD
  rintro e w1 ⟨xs, v, rfl, hs, ho, hb⟩
  obtain ⟨b, c, rfl, hc1, hc2, hI⟩ := drawn_form ho
  have hx7 := hs.1
  have I1 := Lib.hid hI
  have Q1 := Lib.hid hb
  clear hI ho hb hs
  go_wp2_with fail
  refine (implSorted_any _ xs w1 I1.out).mono ?_
  rintro e w2 ⟨sv, rfl, ho2, hb2⟩
  have S2 := Lib.hid ho2
  have I2 := Lib.hid (I1.out.below hb2)
  have Q2 := Lib.hid (Q1.out.trans (hb2.mono Q1.out.size))
  clear hb2 I1 Q1 ho2
  go_wp2_with fail
  refine (specSorted_any _ xs w2 I2.out).mono ?_
  rintro e w3 ⟨tv, rfl, ho3, hb3⟩
  have T3 := Lib.hid (IsInts.of_owns ho3)
  have D3 := Lib.hid hb3
  clear hb3 ho3
  go_wp2_with fail
  refine (sameInts_any sv tv (sortedOf xs) (sortedOf xs) w3 ((IsInts.of_owns S2.out).below D3.out) T3.out).mono ?_
  rintro e w4 ⟨rfl, n4, rfl⟩
  rw [(beq_self_h (sortedOf xs)).out]
  have D4 := Lib.hid (below_drewN D3.out n4)
  clear T3 D3
  generalize w3.drewN n4 = w4 at *
  have I4 := Lib.hid (I2.out.below D4.out)
  have Q4 := Lib.hid (Q2.out.trans (D4.out.mono Q2.out.size))
  cases hok : loadsOk xs with
  | false =>
    have hso := S2.out
    rw [sortedOf_no hok] at hso
    rcases ownsRow_nilform hso with ⟨sa, sc, rfl⟩
    have HC := Lib.hid (implLoadsOk_c _ xs w4 I4.out)
    rw [hok] at HC
    clear hso hok
    go_wp2_with fail
    refine HC.out.mono ?_
    rintro e w5 ⟨rfl, hb5⟩
    have Q5 := Lib.hid (Q4.out.trans (hb5.mono Q4.out.size))
    clear hb5
    go_wp2_with (go_at_call 22; refine (aliveL_any _).mono ?_; rintro e w' ⟨rfl, rfl⟩)
    go_ret
    exact ⟨rfl, Q5.out⟩
  | true =>
    have HOK := Lib.hid hok
    have h1 := (loadsOk_iff.1 hok).1
    have h6 := (loadsOk_iff.1 hok).2.1
    have HSB := Lib.hid (sort_loads hok)
    have HDE := Lib.hid (sortD_desc xs)
    have HLN := Lib.hid (sortD_length xs)
    have hso := S2.out
    rw [sortedOf_yes hok] at hso
    have HF1 := Lib.hid (fairB_sort_left hok)
    have HF2 := Lib.hid (fairB_sort_right hok)
    have HSS : Hid (sortedOf (sortD xs) = sortD xs) := by
      have : sortedOf (sortD xs) = sortD xs := by rw [sortedOf_yes (by rw [loadsOk_sort]; exact hok), sortD_sortD]
      exact Lib.hid this
    obtain ⟨g, cp, rfl, hcp1, hcp2, hgl, HCL⟩ := owns_form hso HLN.out (by omega)
    have HSI := Lib.hid (IsInts.of_owns hso)
    have HCW : Hid (∀ k (hk : k < xs.length), w4.cell? ⟨g, k, none⟩ = some (.int .i64 ((sortD xs)[k]'(by rw [HLN.out]; exact hk)))) := by
      have : ∀ k (hk : k < xs.length), w4.cell? ⟨g, k, none⟩ = some (.int .i64 ((sortD xs)[k]'(by rw [HLN.out]; exact hk))) := fun k hk => (D4.out.cell (p := ⟨g, k, none⟩) hgl).trans (HCL.out k (by rw [HLN.out]; exact hk))
      exact Lib.hid this
    have hnz : ((xs.length : Int) == 0) = false := beq_false_of_ne (by omega)
    clear hso hok HCL hgl
    go_wp2_with fail
    go_loopw [5] (fun i wr => ∃ k d : Nat, 1 ≤ k ∧ k ≤ xs.length ∧ i = .int .i64 k ∧ wr = w4.drewN d) (fun i _ => xs.length - (intOf i).toNat)
    case atStart => exact ⟨1, 0, Nat.le_refl _, h1, rfl, rfl⟩
    case round =>
      obtain ⟨k, d, hk1, hk2, rfl, rfl⟩ := hrel
      by_cases hlt : k < xs.length
      · have x1 : (w4.drewN d).cell? ⟨g, k, none⟩ = _ := HCW.out k hlt
        have x0 : (w4.drewN d).cell? ⟨g, k - 1, none⟩ = _ := HCW.out (k - 1) (by omega)
        have hle := desc_get HDE.out (k - 1) k (by rw [HLN.out]; omega) (by rw [HLN.out]; exact hlt) (by omega)
        have e1 : ((k : Int) - 1) = ((k - 1 : Nat) : Int) := by omega
        have hlt2 : k - 1 < xs.length := by omega
        have HWD : Hid (∀ m, ∃ d', (w4.drewN d).drewN m = w4.drewN d') := by
          have := fun m => (⟨d + m, by rw [World.drewN_drewN]⟩ : ∃ d', (w4.drewN d).drewN m = w4.drewN d')
          exact Lib.hid this
        generalize w4.drewN d = W at x0 x1 HWD ⊢
        generalize (sortD xs)[k]'(by rw [HLN.out]; exact hlt) = u1 at x1 hle
        generalize (sortD xs)[k - 1]'(by rw [HLN.out]; omega) = u0 at x0 hle
        have hgt : ¬ u0 < u1 := by omega
        go_wp2
        go_quiet (fail)
        go_wp2
        go_roundw
        case rel =>
          obtain ⟨d', hd'⟩ := HWD.out nq
          exact ⟨k + 1, d', by omega, by omega, by go_num, hd'⟩
        case measure => simp [intOf]; omega
      · have QD := Lib.hid (below_drewN D4.out d)
        have ID := Lib.hid (I2.out.below QD.out)
        have SD := Lib.hid (HSI.out.below QD.out)
        have QQ := Lib.hid (Q2.out.trans (QD.out.mono Q2.out.size))
        generalize w4.drewN d = W at *
        go_wp2_with fail
        refine (implFairerOk_any _ _ (sortD xs) xs W SD.out ID.out).mono ?_
        rintro e w5 ⟨rfl, hb5⟩
        rw [HF1.out]
        have S5 := Lib.hid (SD.out.below hb5)
        have I5 := Lib.hid (ID.out.below hb5)
        have Q5 := Lib.hid (QQ.out.trans (hb5.mono QQ.out.size))
        clear hb5
        go_wp2_with fail
        refine (implFairerOk_any _ _ xs (sortD xs) w5 I5.out S5.out).mono ?_
        rintro e w6 ⟨rfl, hb6⟩
        rw [HF2.out]
        have S6 := Lib.hid (S5.out.below hb6)
        have Q6 := Lib.hid (Q5.out.trans (hb6.mono Q5.out.size))
        clear hb6
        go_wp2_with fail
        refine (implSorted_any _ (sortD xs) w6 S6.out).mono ?_
        rintro e w7 ⟨v7, rfl, ho7, hb7⟩
        rw [HSS.out] at ho7
        have S7 := Lib.hid (S6.out.below hb7)
        have Q7 := Lib.hid (Q6.out.trans (hb7.mono Q6.out.size))
        have V7 := Lib.hid (IsInts.of_owns ho7)
        clear hb7 ho7
        go_wp2_with fail
        refine (sameInts_any _ _ (sortD xs) (sortD xs) w7 V7.out S7.out).mono ?_
        rintro e w8 ⟨rfl, n8, rfl⟩
        rw [(beq_self_h (sortD xs)).out]
        go_wp2
        go_ret
        exact ⟨rfl, below_drewN Q7.out n8⟩

set_option maxHeartbeats 3200000 in
theorem lawSpreadOf_walk {w : World} (a : Option Addr) (len cap : Nat) (zs : List Int) (h : IsRow .u8 w a len cap zs) :
    Calls Try.prog 5 #[.slice a len cap] w fun e w' => e = .returned (.bool true) ∧ Below w.heap.size w w' := by
  have HD := Lib.hid (drawSpreadOf_any a len cap zs w h)
  have hl := rowL_len h
  clear h
  by_cases hbig : 1048576 < len
  · go_enter Try.func5, Try.ntmps5
    go_wp2_with fail
    go_ret
    exact ⟨rfl, Below.refl _ _⟩
  go_enter Try.func5, Try.ntmps5
  go_wp2_with fail
  refine HD.out.mono ?_
  clear HD
  rintro e w1 ⟨xs, v, rfl, hs, ho, hb⟩
  obtain ⟨b, c, rfl, hc1, hc2, hI⟩ := drawn_form ho
  have hx7 := hs.1
  have I1 := Lib.hid hI
  have Q1 := Lib.hid hb
  clear hI ho hb hs
  go_wp2_with fail
  refine (implSpreadOf_any _ xs w1 I1.out).mono ?_
  rintro e w2 ⟨rfl, hb2⟩
  have I2 := Lib.hid (I1.out.below hb2)
  have Q2 := Lib.hid (Q1.out.trans (hb2.mono Q1.out.size))
  clear hb2 I1 Q1
  have hne : (spreadOf xs != spreadOf xs) = false := by simp
  go_wp2_with fail
  refine (specSpreadOf_any _ xs w2 I2.out).mono ?_
  rintro e w3 ⟨rfl, hb3⟩
  have I3 := Lib.hid (I2.out.below hb3)
  have Q3 := Lib.hid (Q2.out.trans (hb3.mono Q2.out.size))
  clear hb3 I2 Q2
  cases hok : loadsOk xs with
  | false =>
    have HC := Lib.hid (implLoadsOk_c _ xs w3 I3.out)
    rw [hok] at HC
    rw [spreadOf_no hok] at hne ⊢
    clear hok
    go_wp2_with fail
    refine HC.out.mono ?_
    rintro e w5 ⟨rfl, hb5⟩
    have Q5 := Lib.hid (Q3.out.trans (hb5.mono Q3.out.size))
    clear hb5
    go_wp2_with (go_at_call 22; refine (aliveL_any _).mono ?_; rintro e w' ⟨rfl, rfl⟩)
    go_ret
    exact ⟨rfl, Q5.out⟩
  | true =>
    have hbd := spreadOf_bd hok
    have HST := Lib.hid (steps_spread hok)
    have HSO := Lib.hid (sortedOf_yes hok)
    have HSP := Lib.hid (spreadOf_sort xs)
    have HS0 := Lib.hid (steps_nonneg hok)
    clear hok
    have HC1 := Lib.hid (implSteps_any _ xs w3 I3.out)
    obtain ⟨n, hn⟩ : ∃ n, spreadOf xs = n := ⟨_, rfl⟩
    obtain ⟨S, hS⟩ : ∃ S, stepsOf xs = S := ⟨_, rfl⟩
    rw [hn] at hne hbd HST HSP ⊢
    rw [hS] at HST HS0 HC1
    have hself : (n == n) = true := by simp
    clear hn hS
    by_cases h1 : n ≤ 1
    · obtain rfl : S = 0 := HST.out.2 h1
      go_wp2_with fail
      refine HC1.out.mono ?_
      rintro e w4 ⟨rfl, hb4⟩
      have I4 := Lib.hid (I3.out.below hb4)
      have Q4 := Lib.hid (Q3.out.trans (hb4.mono Q3.out.size))
      clear hb4
      go_wp2_with fail
      refine (implSorted_any _ xs w4 I4.out).mono ?_
      rintro e w5 ⟨sv, rfl, ho5, hb5⟩
      rw [HSO.out] at ho5
      have S5 := Lib.hid (IsInts.of_owns ho5)
      have Q5 := Lib.hid (Q4.out.trans (hb5.mono Q4.out.size))
      clear ho5 hb5
      go_wp2_with fail
      refine (implSpreadOf_any _ (sortD xs) w5 S5.out).mono ?_
      rintro e w6 ⟨rfl, hb6⟩
      rw [HSP.out]
      have Q6 := Lib.hid (Q5.out.trans (hb6.mono Q5.out.size))
      clear hb6
      go_wp2
      go_ret
      exact ⟨rfl, Q6.out⟩
    · have hS0 : (S == 0) = false := by
        have : S ≠ 0 := fun e => h1 (HST.out.1 e)
        simpa using this
      go_wp2_with fail
      refine HC1.out.mono ?_
      rintro e w4 ⟨rfl, hb4⟩
      have I4 := Lib.hid (I3.out.below hb4)
      have Q4 := Lib.hid (Q3.out.trans (hb4.mono Q3.out.size))
      clear hb4
      go_wp2_with fail
      refine (implSorted_any _ xs w4 I4.out).mono ?_
      rintro e w5 ⟨sv, rfl, ho5, hb5⟩
      rw [HSO.out] at ho5
      have S5 := Lib.hid (IsInts.of_owns ho5)
      have Q5 := Lib.hid (Q4.out.trans (hb5.mono Q4.out.size))
      clear ho5 hb5
      go_wp2_with fail
      refine (implSpreadOf_any _ (sortD xs) w5 S5.out).mono ?_
      rintro e w6 ⟨rfl, hb6⟩
      rw [HSP.out]
      have Q6 := Lib.hid (Q5.out.trans (hb6.mono Q5.out.size))
      clear hb6
      go_wp2
      go_ret
      exact ⟨ret_bool (by simp [h1]), Q6.out⟩
end Go.Proofs.Ythdpeholeelhdaa
