/- SortedLoads, SpreadOf, SquaresOf, FairerOk of the model: what each returns. No condition. -/
import Derived.Test.YthdpeholeelhdaaLoadSortS
import Derived.Test.YthdpeholeelhdaaLoadFairI
import Derived.Test.YthdpeholeelhdaaLoadMath2
namespace Go.Proofs.Ythdpeholeelhdaa
open Go.RowKit

/-- a row of one's own that is not empty, written out -/
theorem owns_form {w : World} {base n : Nat} {v : Value} {ys : List Int} (h : w.ownsRow base 3 1 v ys.length (ys.map (Value.int .i64))) (hn : ys.length = n) (h0 : 0 < n) :
    ∃ g cap, v = .slice (some ⟨g, 0, none⟩) n cap ∧ n ≤ cap ∧ cap ≤ 9223372036854775807 ∧ g < w.heap.size ∧ Hid (∀ k (hk : k < ys.length), w.cell? ⟨g, k, none⟩ = some (.int .i64 ys[k])) := by
  subst hn
  have h' := h
  rcases h.2 with ⟨_, hn⟩ | ⟨g, cap, cur, rfl, hb, hg, h1, h2, h3, h4⟩
  · omega
  · unfold maxLen at h2
    refine ⟨g, cap, rfl, h1, h2, (World.ownsRow.lt h' g rfl).2, Lib.hid fun k hk => ?_⟩
    rw [h'.cellAt k (by omega)]
    simp [hk]

theorem specSorted_any (v : Value) (xs : List Int) (w : World) (h : IsInts w v xs) :
    Calls Try.prog 26 #[v] w (CopyPost (sortedOf xs) w) := by
  have HOK := Lib.hid (specLoadsOk_any v xs w h)
  have H := Lib.hid h
  obtain ⟨a, cap, rfl⟩ : ∃ a cap, v = .slice a xs.length cap := by obtain ⟨a, cap, rfl, _⟩ := h; exact ⟨a, cap, rfl⟩
  clear h
  cases hb : loadsOk xs with
  | false =>
    rw [sortedOf_no hb]
    rw [hb] at HOK
    clear hb
    go_enter Try.func26, Try.ntmps26
    go_wp2_with (go_at_call 21; refine HOK.out.mono ?_; rintro e w' ⟨rfl, n, rfl⟩)
    go_ret
    exact CopyPost.empty (w.drewN n) (below_drewN (Below.refl _ _) n)
  | true =>
    rw [sortedOf_yes hb]
    have h6 := (loadsOk_iff.1 hb).2.1
    rw [hb] at HOK
    clear hb
    go_enter Try.func26, Try.ntmps26
    go_wp2_with fail
    refine HOK.out.mono ?_
    rintro e w1 ⟨rfl, n, rfl⟩
    have HB := Lib.hid (below_drewN (Below.refl w.heap.size w) n)
    have HC := Lib.hid (l9Sorted_any _ xs (w.drewN n) (H.out.below HB.out) h6)
    have hsz : (w.drewN n).heap.size = w.heap.size := rfl
    go_wp2_with fail
    refine HC.out.mono ?_
    rintro e w2 ⟨v2, rfl, ho, hb⟩
    have HO := Lib.hid ho
    have HBB := Lib.hid hb
    clear ho hb
    go_wp2
    go_ret
    exact ⟨v2, rfl, HO.out, HB.out.trans HBB.out⟩

set_option maxHeartbeats 800000 in
theorem specSpreadOf_any (v : Value) (xs : List Int) (w : World) (h : IsInts w v xs) :
    Calls Try.prog 30 #[v] w fun e w' => e = .returned (.int .i64 (spreadOf xs)) ∧ Below w.heap.size w w' := by
  have HOK := Lib.hid (specLoadsOk_any v xs w h)
  have H := Lib.hid h
  obtain ⟨a, cap, rfl⟩ : ∃ a cap, v = .slice a xs.length cap := by obtain ⟨a, cap, rfl, _⟩ := h; exact ⟨a, cap, rfl⟩
  clear h
  cases hb : loadsOk xs with
  | false =>
    have HS := Lib.hid (spreadOf_no hb)
    rw [hb] at HOK
    clear hb
    go_enter Try.func30, Try.ntmps30
    go_wp2_with (go_at_call 21; refine HOK.out.mono ?_; rintro e w' ⟨rfl, n, rfl⟩)
    go_ret
    exact ⟨ret_int HS.out.symm, below_drewN (Below.refl _ _) n⟩
  | true =>
    have HS := Lib.hid (spreadOf_yes hb)
    have hbd := mx_mn_bd hb
    have h1 := (loadsOk_iff.1 hb).1
    have h6 := (loadsOk_iff.1 hb).2.1
    rw [hb] at HOK
    clear hb
    go_enter Try.func30, Try.ntmps30
    go_wp2_with fail
    refine HOK.out.mono ?_
    clear HOK
    rintro e w1 ⟨rfl, n, rfl⟩
    have HB := Lib.hid (below_drewN (Below.refl w.heap.size w) n)
    generalize w.drewN n = w1 at HB ⊢
    have HC := Lib.hid (l9Sorted_any _ xs w1 (H.out.below HB.out) h6)
    go_wp2_with fail
    refine HC.out.mono ?_
    clear HC
    rintro e w2 ⟨v2, rfl, ho, hb⟩
    have HB2 := Lib.hid (HB.out.trans (hb.mono HB.out.size))
    obtain ⟨g, cp, rfl, hc1, hc2, hgl, HCL⟩ := owns_form ho (sortD_length xs) (by omega)
    have x0 : w2.cell? ⟨g, 0, none⟩ = some (.int .i64 (mx xs)) := by
      rw [HCL.out 0 (by rw [sortD_length]; omega)]
      unfold mx
      rw [List.getD, List.getElem?_eq_getElem (by rw [sortD_length]; omega), Option.getD_some]
    have x1 : w2.cell? ⟨g, xs.length - 1, none⟩ = some (.int .i64 (mn xs)) := by
      rw [HCL.out (xs.length - 1) (by rw [sortD_length]; omega)]
      unfold mn
      rw [List.getD, List.getElem?_eq_getElem (by rw [sortD_length]; omega), Option.getD_some]
    have e1 : ((xs.length : Int) - 1) = ((xs.length - 1 : Nat) : Int) := by omega
    have hlt : xs.length - 1 < xs.length := by omega
    clear ho hb HCL HB
    generalize mx xs = M at *
    generalize mn xs = m at *
    generalize xs.length = n at *
    go_wp2
    go_quiet (fail)
    go_wp2
    go_ret
    exact ⟨ret_int HS.out.symm, below_drewN HB2.out _⟩

set_option maxHeartbeats 800000 in
theorem specSquaresOf_any (v : Value) (xs : List Int) (w : World) (h : IsInts w v xs) :
    Calls Try.prog 34 #[v] w fun e w' => e = .returned (.int .i64 (sqsOf xs)) ∧ Below w.heap.size w w' := by
  have HOK := Lib.hid (specLoadsOk_any v xs w h)
  obtain ⟨a, cap, rfl, ha1, ha2, ha⟩ := h
  have HA := Lib.hid ha
  unfold maxLen at ha2
  clear ha
  cases hb : loadsOk xs with
  | false =>
    have HS := Lib.hid (sqsOf_no hb)
    rw [hb] at HOK
    clear hb
    go_enter Try.func34, Try.ntmps34
    go_wp2_with (go_at_call 21; refine HOK.out.mono ?_; rintro e w' ⟨rfl, n, rfl⟩)
    go_ret
    exact ⟨ret_int HS.out.symm, below_drewN (Below.refl _ _) n⟩
  | true =>
    have HS := Lib.hid (sqsOf_yes hb)
    have HL := Lib.hid (loadsOk_iff.1 hb).2.2
    have h6 := (loadsOk_iff.1 hb).2.1
    rw [hb] at HOK
    clear hb
    go_enter Try.func34, Try.ntmps34
    go_wp2_with (go_at_call 21; refine HOK.out.mono ?_; rintro e w' ⟨rfl, n, rfl⟩)
    go_loopw [3, 4] (fun s i wr => ∃ (k d : Nat) (T : Int), k ≤ xs.length ∧ i = .int .i64 k ∧ s = .int .i64 T ∧ Hid (T = sqs (xs.take k)) ∧ wr = w.drewN d) (fun _ i _ => xs.length - (intOf i).toNat)
    case atStart => exact ⟨0, n, 0, Nat.zero_le _, rfl, rfl, Lib.hid rfl, rfl⟩
    case round =>
      obtain ⟨k, d, T, hk, rfl, rfl, HT, rfl⟩ := hrel
      have hT1 : 0 ≤ T := by rw [HT.out]; exact (sqs_bd HL.out k).1
      have hT2 : T ≤ 900 * k := by rw [HT.out]; exact (sqs_bd HL.out k).2
      by_cases hlt : k < xs.length
      · obtain ⟨g, off, rfl, hg, hc⟩ := HA.out.resolve_left (fun h => by rw [h] at hlt; exact absurd hlt (Nat.not_lt_zero k))
        have hcell : (w.drewN d).cell? ⟨g, off + k, none⟩ = _ := hc k hlt
        have HWD : Hid (∀ m, ∃ d', (w.drewN d).drewN m = w.drewN d') := by
          have := fun m => (⟨d + m, by rw [World.drewN_drewN]⟩ : ∃ d', (w.drewN d).drewN m = w.drewN d')
          exact Lib.hid this
        generalize w.drewN d = W at hcell HWD ⊢
        have hc0 := HL.out xs[k] (List.getElem_mem hlt)
        have HX : Hid (sqs (xs.take (k + 1)) = sqs (xs.take k) + xs[k] * xs[k]) := Lib.hid (sm_snoc _ xs k hlt)
        clear hc
        generalize xs[k] = c at hcell HX hc0
        have hq1 : 0 ≤ c * c := sq_nonneg c
        have hq2 : c * c ≤ 900 := by
          have := Int.mul_le_mul hc0.2 hc0.2 hc0.1 (by omega : (0 : Int) ≤ 30)
          omega
        obtain ⟨Q, hQ⟩ : ∃ Q, c * c = Q := ⟨_, rfl⟩
        rw [hQ] at hq1 hq2 HX
        have hw1 : IntKind.i64.wrap Q = Q := IntWalk.i64_in _ (by omega)
        have hw2 : IntKind.i64.wrap (T + Q) = T + Q := IntWalk.i64_in _ (by omega)
        go_wp2
        go_quiet (fail)
        go_wp2
        go_roundw
        case rel =>
          obtain ⟨d', hd'⟩ := HWD.out nq
          exact ⟨k + 1, d', T + Q, by omega, by go_num, by first | rfl | go_num | (simp [hQ]; done), Lib.hid (by rw [HX.out, HT.out]), hd'⟩
        case measure => simp [intOf]; omega
      · obtain rfl : k = xs.length := by omega
        go_wp2
        go_ret
        exact ⟨ret_int (by rw [HS.out, HT.out, List.take_length]), below_drewN (Below.refl _ _) d⟩

theorem tot_snoc (xs : List Int) (k : Nat) (h : k < xs.length) : tot (xs.take (k + 1)) = tot (xs.take k) + xs[k] := sm_snoc _ xs k h

set_option maxHeartbeats 3200000 in
theorem specFairerOk_any (u v : Value) (xs ys : List Int) (w : World) (hu : IsInts w u xs) (hv : IsInts w v ys) :
    Calls Try.prog 36 #[u, v] w fun e w' => e = .returned (.bool (fairB xs ys)) ∧ Below w.heap.size w w' := by
  have HX := Lib.hid (specLoadsOk_any u xs w hu)
  have HU := Lib.hid hu
  have HV := Lib.hid hv
  obtain ⟨a, cap, rfl⟩ : ∃ a cap, u = .slice a xs.length cap := by obtain ⟨a, cap, rfl, _⟩ := hu; exact ⟨a, cap, rfl⟩
  obtain ⟨b, cbp, rfl⟩ : ∃ a cap, v = .slice a ys.length cap := by obtain ⟨a, cap, rfl, _⟩ := hv; exact ⟨a, cap, rfl⟩
  clear hu hv
  cases hx : loadsOk xs with
  | false =>
    have HF : Hid (fairB xs ys = false) := by
      have : fairB xs ys = false := by simp [fairB, hx]
      exact Lib.hid this
    rw [hx] at HX
    clear hx
    go_enter Try.func36, Try.ntmps36
    go_wp2_with (go_at_call 21; refine HX.out.mono ?_; rintro e w' ⟨rfl, n, rfl⟩)
    go_ret
    exact ⟨ret_bool HF.out.symm, below_drewN (Below.refl _ _) n⟩
  | true =>
    rw [hx] at HX
    have x6 : xs.length ≤ 6 := (loadsOk_iff.1 hx).2.1
    have x1 : 1 ≤ xs.length := (loadsOk_iff.1 hx).1
    go_enter Try.func36, Try.ntmps36
    go_wp2_with fail
    refine HX.out.mono ?_
    rintro e w1 ⟨rfl, n1, rfl⟩
    have HB1 : Hid (Below w.heap.size w (w.drewN n1)) := Lib.hid (below_drewN (Below.refl _ _) n1)
    generalize w.drewN n1 = w1 at HB1 ⊢
    have HY := Lib.hid (specLoadsOk_any _ ys w1 (HV.out.below HB1.out))
    go_wp2_with fail
    refine HY.out.mono ?_
    clear HX HY
    rintro e w2 ⟨rfl, n2, rfl⟩
    have HB2 : Hid (Below w.heap.size w (w1.drewN n2)) := Lib.hid (below_drewN HB1.out n2)
    generalize w1.drewN n2 = w2 at HB2 ⊢
    clear HB1
    cases hy : loadsOk ys with
    | false =>
      have HF : Hid (fairB xs ys = false) := by
        have : fairB xs ys = false := by simp [fairB, hy]
        exact Lib.hid this
      clear hx hy
      go_wp2
      go_ret
      exact ⟨ret_bool HF.out.symm, HB2.out⟩
    | true =>
      have y6 : ys.length ≤ 6 := (loadsOk_iff.1 hy).2.1
      by_cases hl : xs.length = ys.length
      · have hl' : ((xs.length : Int) != (ys.length : Int)) = false := by simp [hl]
        have HF : Hid (fairB xs ys = majB (sortD xs) (sortD ys)) := by
          have : fairB xs ys = majB (sortD xs) (sortD ys) := by simp [fairB, hx, hy, hl]
          exact Lib.hid this
        have HLX := Lib.hid (sortD_length xs)
        have HLY : Hid ((sortD ys).length = xs.length) := by
          have : (sortD ys).length = xs.length := by rw [sortD_length, hl]
          exact Lib.hid this
        have HSX := Lib.hid (sort_loads hx)
        have HSY := Lib.hid (sort_loads hy)
        have HC1 := Lib.hid (l9Sorted_any _ xs w2 (HU.out.below HB2.out) x6)
        clear hx hy hl
        go_wp2_with fail
        refine HC1.out.mono ?_
        clear HC1
        rintro e w3 ⟨v1, rfl, ho1, hb1⟩
        obtain ⟨g1, c1, rfl, hc11, hc12, hg1, HCL1⟩ := owns_form ho1 HLX.out (by omega)
        have HB3 := Lib.hid (HB2.out.trans (hb1.mono HB2.out.size))
        have HC2 := Lib.hid (l9Sorted_any _ ys w3 (HV.out.below HB3.out) y6)
        clear ho1 hb1 HB2
        go_wp2_with fail
        refine HC2.out.mono ?_
        clear HC2
        rintro e w4 ⟨v2, rfl, ho2, hb2⟩
        obtain ⟨g2, c2, rfl, hc21, hc22, hg2, HCL2⟩ := owns_form ho2 HLY.out (by omega)
        have HB4 := Lib.hid (HB3.out.trans (hb2.mono HB3.out.size))
        have HK1 : Hid (∀ k (hk : k < (sortD xs).length), w4.cell? ⟨g1, k, none⟩ = some (.int .i64 (sortD xs)[k])) := by
          have : ∀ k (hk : k < (sortD xs).length), w4.cell? ⟨g1, k, none⟩ = some (.int .i64 (sortD xs)[k]) := fun k hk => (hb2.cell (p := ⟨g1, k, none⟩) hg1).trans (HCL1.out k hk)
          exact Lib.hid this
        clear ho2 hb2 HB3 HCL1
        go_wp2_with fail
        go_loop [7, 8, 9] (fun s t i => ∃ (k : Nat) (S T : Int), k ≤ xs.length ∧ i = .int .i64 k ∧ s = .int .i64 S ∧ t = .int .i64 T ∧ Hid (S = tot ((sortD xs).take k)) ∧ Hid (T = tot ((sortD ys).take k)) ∧ Hid (∀ j, j ≤ k → tot ((sortD xs).take j) ≤ tot ((sortD ys).take j))) (fun _ _ i => xs.length - (intOf i).toNat)
        case atStart => exact ⟨0, 0, 0, Nat.zero_le _, rfl, rfl, rfl, Lib.hid rfl, Lib.hid rfl, Lib.hid (fun j hj => by obtain rfl : j = 0 := by omega
                                                                                                                        exact Int.le_refl _)⟩
        case round =>
          obtain ⟨k, S, T, hk, rfl, rfl, rfl, HS, HT, HALL⟩ := hrel
          have s1 := tot_bd HSX.out k
          have t1 := tot_bd HSY.out k
          rw [← HS.out] at s1
          rw [← HT.out] at t1
          by_cases hlt : k < xs.length
          · have hcx := HK1.out k (by rw [HLX.out]; exact hlt)
            have hcy := HCL2.out k (by rw [HLY.out]; exact hlt)
            have bx := HSX.out _ (List.getElem_mem (by rw [HLX.out]; exact hlt))
            have byy := HSY.out _ (List.getElem_mem (by rw [HLY.out]; exact hlt))
            have HX1 := Lib.hid (tot_snoc (sortD xs) k (by rw [HLX.out]; exact hlt))
            have HY1 := Lib.hid (tot_snoc (sortD ys) k (by rw [HLY.out]; exact hlt))
            generalize (sortD xs)[k]'(by rw [HLX.out]; exact hlt) = x at hcx bx HX1
            generalize (sortD ys)[k]'(by rw [HLY.out]; exact hlt) = y at hcy byy HY1
            rw [← HS.out] at HX1
            rw [← HT.out] at HY1
            by_cases hgt : T + y < S + x
            · have HF2 : Hid (fairB xs ys = false) := by
                have : fairB xs ys = false := by
                  rw [HF.out, ← Bool.not_eq_true]
                  intro hm
                  have := (majB_iff.1 hm).1 (k + 1) (by rw [HLX.out]; exact hlt)
                  have := HX1.out
                  have := HY1.out
                  omega
                exact Lib.hid this
              go_wp2
              go_ret
              exact ⟨ret_bool HF2.out.symm, HB4.out⟩
            · have HN : Hid (∀ j, j ≤ k + 1 → tot ((sortD xs).take j) ≤ tot ((sortD ys).take j)) := by
                have : ∀ j, j ≤ k + 1 → tot ((sortD xs).take j) ≤ tot ((sortD ys).take j) := fun j hj => by
                  by_cases e : j = k + 1
                  · subst e
                    have := HX1.out
                    have := HY1.out
                    omega
                  · exact HALL.out j (by omega)
                exact Lib.hid this
              go_wp2
              go_round
              case rel => exact ⟨k + 1, S + x, T + y, by omega, by go_num, by go_num, by go_num, Lib.hid HX1.out.symm, Lib.hid HY1.out.symm, HN⟩
              case measure => simp [intOf]; omega
          · obtain rfl : k = xs.length := by omega
            have e1 : (sortD xs).take xs.length = sortD xs := List.take_of_length_le (Nat.le_of_eq HLX.out)
            have e2 : (sortD ys).take xs.length = sortD ys := List.take_of_length_le (Nat.le_of_eq HLY.out)
            rw [e1] at HS
            rw [e2] at HT
            have HF2 : Hid (fairB xs ys = (S == T)) := by
              have : fairB xs ys = (S == T) := by
                rw [HF.out, Bool.eq_iff_iff, majB_iff, beq_iff_eq, HS.out, HT.out]
                exact ⟨fun h => h.2, fun h => ⟨fun j hj => HALL.out j (by rw [HLX.out] at hj; exact hj), h⟩⟩
              exact Lib.hid this
            go_wp2
            go_ret
            exact ⟨ret_bool HF2.out.symm, HB4.out⟩
      · have hl' : ((xs.length : Int) != (ys.length : Int)) = true := by simp; omega
        have HF : Hid (fairB xs ys = false) := by
          have : fairB xs ys = false := by simp [fairB, hl]
          exact Lib.hid this
        clear hx hy hl
        go_wp2
        go_ret
        exact ⟨ret_bool HF.out.symm, HB2.out⟩
end Go.Proofs.Ythdpeholeelhdaa
