/- The walk of FnSquaresOf: true at every code. No condition. -/
import Derived.Test.YthdpeholeelhdaaLawLoadB
namespace Go.Proofs.Ythdpeholeelhdaa
open Go.RowKit

set_option maxHeartbeats 3200000 in
theorem lawSquaresOf_walk {w : World} (a : Option Addr) (len cap : Nat) (zs : List Int) (h : IsRow .u8 w a len cap zs) :
    Calls Try.prog 6 #[.slice a len cap] w fun e w' => e = .returned (.bool true) ∧ Below w.heap.size w w' := by
  have HD := Lib.hid (drawSquaresOf_any a len cap zs w h)
  have hl := rowL_len h
  clear h
  by_cases hbig : 1048576 < len
  · go_enter Try.func6, Try.ntmps6
    go_wp2_with fail
    go_ret
    exact ⟨rfl, Below.refl _ _⟩
  go_enter Try.func6, Try.ntmps6
  go_wp2_with fail
  refine HD.out.mono ?_
  clear HD
  rintro e w1 ⟨xs, v, rfl, hs, ho, hb⟩
  obtain ⟨b, c, rfl, hc1, hc2, hI⟩ := drawn_form ho
  have hx7 := hs.1
  have I1 := Lib.hid hI
  have Q1 := Lib.hid hb
  clear hI ho hb hs
  go_wp2_with fail
  refine (implSquaresOf_any _ xs w1 I1.out).mono ?_
  rintro e w2 ⟨rfl, hb2⟩
  have I2 := Lib.hid (I1.out.below hb2)
  have Q2 := Lib.hid (Q1.out.trans (hb2.mono Q1.out.size))
  clear hb2 I1 Q1
  have hne : (sqsOf xs != sqsOf xs) = false := by simp
  go_wp2_with fail
  refine (specSquaresOf_any _ xs w2 I2.out).mono ?_
  rintro e w3 ⟨rfl, hb3⟩
  have I3 := Lib.hid (I2.out.below hb3)
  have Q3 := Lib.hid (Q2.out.trans (hb3.mono Q2.out.size))
  clear hb3 I2 Q2
  cases hok : loadsOk xs with
  | false =>
    have HC := Lib.hid (implLoadsOk_c _ xs w3 I3.out)
    rw [hok] at HC
    rw [sqsOf_no hok] at hne ⊢
    clear hok
    go_wp2_with fail
    refine HC.out.mono ?_
    rintro e w5 ⟨rfl, hb5⟩
    have Q5 := Lib.hid (Q3.out.trans (hb5.mono Q3.out.size))
    clear hb5
    go_wp2_with (go_at_call 22; refine (aliveL_any _).mono ?_; rintro e w' ⟨rfl, rfl⟩)
    go_ret
    exact ⟨rfl, Q5.out⟩
  | true =>
    rw [sqsOf_yes hok] at hne ⊢
    have HB := Lib.hid (loadsOk_iff.1 hok).2.2
    have h1 := (loadsOk_iff.1 hok).1
    have h6 := (loadsOk_iff.1 hok).2.1
    have HCE := Lib.hid (cauchy_spread hok)
    have HCA := Lib.hid (cauchy xs)
    have hsq := sqs_bd (loadsOk_iff.1 hok).2.2 xs.length
    have htt := tot_bd (loadsOk_iff.1 hok).2.2 xs.length
    rw [List.take_length] at hsq htt
    have HSN := Lib.hid (spreadOf_bd hok)
    clear hok
    have HSP := Lib.hid (implSpreadOf_any _ xs w3 I3.out)
    obtain ⟨q, hq⟩ : ∃ q, sqs xs = q := ⟨_, rfl⟩
    rw [hq] at hne hsq HCE HCA ⊢
    clear hq
    obtain ⟨ai, ci, hsl, _, _, hcell⟩ := I3.out
    simp only [Value.slice.injEq, true_and] at hsl
    obtain ⟨rfl, rfl⟩ := hsl
    have HA := Lib.hid hcell
    clear hcell
    go_wp2_with fail
    go_loop [5, 6] (fun s i => ∃ (k : Nat) (T : Int), k ≤ xs.length ∧ i = .int .i64 k ∧ s = .int .i64 T ∧ Hid (T = tot (xs.take k))) (fun _ i => xs.length - (intOf i).toNat)
    case atStart => exact ⟨0, 0, Nat.zero_le _, rfl, rfl, Lib.hid rfl⟩
    case round =>
      obtain ⟨k, T, hk, rfl, rfl, HT⟩ := hrel
      have hT := tot_bd HB.out k
      rw [← HT.out] at hT
      by_cases hlt : k < xs.length
      · obtain ⟨g, off, rfl, hg, hc⟩ := HA.out.resolve_left (fun h => by rw [h] at hlt; exact absurd hlt (Nat.not_lt_zero k))
        have hcx := hc k hlt
        have hc0 := HB.out xs[k] (List.getElem_mem hlt)
        have HS := Lib.hid (tot_snoc xs k hlt)
        generalize xs[k] = x at hcx HS hc0
        clear hc
        go_wp2
        go_round
        case rel => exact ⟨k + 1, T + x, by omega, by go_num, by go_num, Lib.hid (by rw [HS.out, HT.out])⟩
        case measure => simp [intOf]; omega
      · obtain rfl : k = xs.length := by omega
        rw [List.take_length] at HT
        rw [← HT.out] at HCE HCA htt
        have hqn1 : 0 ≤ q * (xs.length : Int) := Int.mul_nonneg hsq.1 (by omega)
        have hqn2 : q * (xs.length : Int) ≤ 5400 * 6 := Int.mul_le_mul (by omega) (by omega) (by omega) (by omega)
        have htt1 : 0 ≤ T * T := sq_nonneg T
        have htt2 : T * T ≤ 180 * 180 := Int.mul_le_mul (by omega) (by omega) (by omega) (by omega)
        have HCA' : T * T ≤ q * (xs.length : Int) := by have := HCA.out; rw [Int.mul_comm (xs.length : Int) q] at this; exact this
        have HCE' := HCE.out
        rw [Int.mul_comm (xs.length : Int) q] at HCE'
        obtain ⟨P, hP⟩ : ∃ P, q * (xs.length : Int) = P := ⟨_, rfl⟩
        obtain ⟨Y, hY⟩ : ∃ Y, T * T = Y := ⟨_, rfl⟩
        rw [hP] at hqn1 hqn2 HCA' HCE'
        rw [hY] at htt1 htt2 HCA' HCE'
        have hw1 : IntKind.i64.wrap P = P := IntWalk.i64_in _ (by omega)
        have hw2 : IntKind.i64.wrap Y = Y := IntWalk.i64_in _ (by omega)
        obtain ⟨z, hz⟩ : ∃ z, spreadOf xs = z := ⟨_, rfl⟩
        rw [hz] at HSP HSN HCE'
        clear hz HCE HCA hT
        by_cases he : P = Y
        · obtain rfl : z = 0 := HCE'.1 he
          have hee : (P == Y) = true := by simp [he]
          clear HCE' he
          go_wp2_with fail
          refine HSP.out.mono ?_
          rintro e w4 ⟨rfl, hb4⟩
          have Q4 := Lib.hid (Q3.out.trans (hb4.mono Q3.out.size))
          clear hb4
          go_wp2
          go_ret
          exact ⟨by first | rfl | (exact ret_bool (by simp [hee])), Q4.out⟩
        · have hee : (P == Y) = false := by simpa using he
          have hzz : (z == 0) = false := by
            have : z ≠ 0 := fun e => he (HCE'.2 e)
            simpa using this
          clear HCE' he
          go_wp2_with fail
          refine HSP.out.mono ?_
          rintro e w4 ⟨rfl, hb4⟩
          have Q4 := Lib.hid (Q3.out.trans (hb4.mono Q3.out.size))
          clear hb4
          go_wp2
          go_ret
          exact ⟨by first | rfl | (exact ret_bool (by simp [hee, hzz])), Q4.out⟩
end Go.Proofs.Ythdpeholeelhdaa
