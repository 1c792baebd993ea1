/- StepsToFair of the model: what it returns. No condition. -/
import Derived.Test.YthdpeholeelhdaaLoadSpec
namespace Go.Proofs.Ythdpeholeelhdaa
open Go.RowKit

set_option maxHeartbeats 1600000 in
theorem specSteps_any (v : Value) (xs : List Int) (w : World) (h : IsInts w v xs) :
    Calls Try.prog 44 #[v] w fun e w' => e = .returned (.int .i64 (stepsOf xs)) ∧ Below w.heap.size w w' := by
  have HOK := Lib.hid (specLoadsOk_any v xs w h)
  have H := Lib.hid h
  obtain ⟨a, cap, rfl⟩ : ∃ a cap, v = .slice a xs.length cap := by obtain ⟨a, cap, rfl, _⟩ := h; exact ⟨a, cap, rfl⟩
  clear h
  cases hb : loadsOk xs with
  | false =>
    have HS := Lib.hid (stepsOf_no hb)
    rw [hb] at HOK
    clear hb
    go_enter Try.func44, Try.ntmps44
    go_wp2_with (go_at_call 21; refine HOK.out.mono ?_; rintro e w' ⟨rfl, n, rfl⟩)
    go_ret
    exact ⟨ret_int HS.out.symm, below_drewN (Below.refl _ _) n⟩
  | true =>
    have HS := Lib.hid (stepsOf_yes hb)
    have HSL := Lib.hid (sort_loads hb)
    have h6 := (loadsOk_iff.1 hb).2.1
    have h1 := (loadsOk_iff.1 hb).1
    have HLN := Lib.hid (sortD_length xs)
    have HEV := Lib.hid (even_length xs.length (tot xs))
    have HEG := Lib.hid (even_get xs.length (tot xs))
    have HTS := Lib.hid (tot_sort xs)
    have ht := tot_bd (loadsOk_iff.1 hb).2.2 xs.length
    rw [List.take_length] at ht
    rw [hb] at HOK
    clear hb
    have hd1 : (tot xs).tdiv xs.length = tot xs / xs.length := Int.tdiv_eq_ediv_of_nonneg ht.1
    have hd2 : (tot xs).tmod xs.length = tot xs % xs.length := Int.tmod_eq_emod_of_nonneg ht.1
    have hq0 : 0 ≤ tot xs / xs.length := Int.ediv_nonneg ht.1 (by omega)
    have hq1 : tot xs / xs.length ≤ tot xs := Int.ediv_le_self _ ht.1
    have hr0 : 0 ≤ tot xs % xs.length := Int.emod_nonneg _ (by omega)
    have hr1 : tot xs % xs.length < xs.length := Int.emod_lt_of_pos _ (by omega)
    obtain ⟨q, hq⟩ : ∃ q, tot xs / xs.length = q := ⟨_, rfl⟩
    obtain ⟨r, hr⟩ : ∃ r, tot xs % xs.length = r := ⟨_, rfl⟩
    rw [hq] at hd1 hq0 hq1 HEG
    rw [hr] at hd2 hr0 hr1 HEG
    have hw1 : IntKind.i64.wrap q = q := IntWalk.i64_in _ (by omega)
    have hw2 : IntKind.i64.wrap r = r := IntWalk.i64_in _ (by omega)
    clear hq hr
    go_enter Try.func44, Try.ntmps44
    go_wp2_with fail
    refine HOK.out.mono ?_
    clear HOK
    rintro e w1 ⟨rfl, n, rfl⟩
    have HB := Lib.hid (below_drewN (Below.refl w.heap.size w) n)
    generalize w.drewN n = w1 at HB ⊢
    have HC := Lib.hid (l9Sorted_any _ xs w1 (H.out.below HB.out) h6)
    go_wp2_with fail
    refine HC.out.mono ?_
    clear HC
    rintro e w2 ⟨v2, rfl, ho, hb⟩
    have HB2 := Lib.hid (HB.out.trans (hb.mono HB.out.size))
    obtain ⟨g, cp, rfl, hc1, hc2, hgl, HCL⟩ := owns_form ho HLN.out (by omega)
    clear ho hb HB
    generalize tot xs = T at *
    go_wp2_with fail
    go_loop [4, 5] (fun s i => ∃ (k : Nat) (S : Int), k ≤ xs.length ∧ i = .int .i64 k ∧ s = .int .i64 S ∧ Hid (S = tot ((sortD xs).take k))) (fun _ i => xs.length - (intOf i).toNat)
    case atStart => exact ⟨0, 0, Nat.zero_le _, rfl, rfl, Lib.hid rfl⟩
    case round =>
      obtain ⟨k, S, hk, rfl, rfl, HT⟩ := hrel
      have hS := tot_bd HSL.out k
      rw [← HT.out] at hS
      by_cases hlt : k < xs.length
      · have hcx := HCL.out k (by rw [HLN.out]; exact hlt)
        have bx := HSL.out _ (List.getElem_mem (by rw [HLN.out]; exact hlt))
        have HX := Lib.hid (tot_snoc (sortD xs) k (by rw [HLN.out]; exact hlt))
        generalize (sortD xs)[k]'(by rw [HLN.out]; exact hlt) = x at hcx bx HX
        go_wp2
        go_round
        case rel => exact ⟨k + 1, S + x, by omega, by go_num, by go_num, Lib.hid (by rw [HX.out, HT.out])⟩
        case measure => simp [intOf]; omega
      · obtain rfl : k = xs.length := by omega
        have HST : Hid (S = T) := by
          have : S = T := by rw [HT.out, List.take_of_length_le (Nat.le_of_eq HLN.out), HTS.out]
          exact Lib.hid this
        have hST := HST.out
        subst hST
        clear hS HT
        go_wp2_with fail
        go_loop [6, 7, 8] (fun s i _ => ∃ (k : Nat) (D : Int), k ≤ xs.length ∧ i = .int .i64 k ∧ s = .int .i64 D ∧ Hid (D = stepTo (sortD xs) (even xs.length S) k) ∧ 0 ≤ D ∧ D ≤ 30 * k) (fun _ i _ => xs.length - (intOf i).toNat)
        case atStart => exact ⟨0, 0, Nat.zero_le _, rfl, rfl, Lib.hid rfl, by omega, by omega⟩
        case round =>
          obtain ⟨k, D, hk, rfl, rfl, HD, hD0, hD1⟩ := hrel
          by_cases hlt : k < xs.length
          · have hcx := HCL.out k (by rw [HLN.out]; exact hlt)
            have bx := HSL.out _ (List.getElem_mem (by rw [HLN.out]; exact hlt))
            have HX := Lib.hid (stepTo_step (s := sortD xs) (e := even xs.length S) (k := k) (by rw [HLN.out]; exact hlt) (by rw [HEV.out]; exact hlt))
            have hxk := HEG.out k hlt
            generalize (sortD xs)[k]'(by rw [HLN.out]; exact hlt) = x at hcx bx HX
            by_cases hkr : (k : Int) < r
            · rw [if_pos hkr] at hxk
              rw [hxk] at HX
              obtain ⟨mm, hmm⟩ : ∃ mm, max 0 (x - (q + 1)) = mm := ⟨_, rfl⟩
              have hmm2 : max (x - (q + 1)) 0 = mm := by omega
              have hm0 : 0 ≤ mm := by omega
              have hm1 : mm ≤ 30 := by omega
              rw [hmm] at HX
              clear hxk
              go_wp2
              go_round
              case rel => exact ⟨k + 1, D + mm, by omega, by go_num, by first | rfl | go_num | (simp [hmm2]; done), Lib.hid (by rw [HX.out, HD.out]), by omega, by omega⟩
              case measure => simp [intOf]; omega
            · rw [if_neg hkr, Int.add_zero] at hxk
              rw [hxk] at HX
              obtain ⟨mm, hmm⟩ : ∃ mm, max 0 (x - q) = mm := ⟨_, rfl⟩
              have hmm2 : max (x - q) 0 = mm := by omega
              have hm0 : 0 ≤ mm := by omega
              have hm1 : mm ≤ 30 := by omega
              rw [hmm] at HX
              clear hxk
              go_wp2
              go_round
              case rel => exact ⟨k + 1, D + mm, by omega, by go_num, by first | rfl | go_num | (simp [hmm2]; done), Lib.hid (by rw [HX.out, HD.out]), by omega, by omega⟩
              case measure => simp [intOf]; omega
          · obtain rfl : k = xs.length := by omega
            go_wp2
            go_ret
            exact ⟨ret_int (by rw [HS.out, HD.out]), HB2.out⟩
end Go.Proofs.Ythdpeholeelhdaa
