/- The walk of FnRunsOf: true at every code. No condition. -/
import Derived.Test.YtdlabljipjfgjaaLawRuns
import Derived.Test.YtdlabljipjfgjaaSame
namespace Go.Proofs.Ytdlabljipjfgjaa
open Go.RowKit

theorem runsOf_back {s : ByteArray} (h : wordOk s = true) : runsOf (backStr s) = (runsOf s).reverse := by
  rw [runsOf_yes h, runsOf_yes (wordOk_back h), backStr_yes h, back0_list, runsL_reverse, List.map_reverse]
theorem runsOf_sum {s : ByteArray} (h : wordOk s = true) : sumTo (runsOf s) (runsOf s).length = s.size := by
  have h1 := runsL_sum s.data.toList
  rw [len_data] at h1
  rw [sumTo, List.take_length, runsOf_yes h, ← h1]
  generalize runsL s.data.toList = xs
  induction xs with
  | nil => rfl
  | cons p xs ih => simp at ih ⊢; omega
theorem runsOf_max {s : ByteArray} (h : wordOk s = true) : maxTo (runsOf s) (runsOf s).length = max (longestOf s ⟨#[114]⟩) (max (longestOf s ⟨#[100]⟩) (longestOf s ⟨#[110]⟩)) := by
  rw [maxTo, List.take_length, runsOf_yes h, maxL_three _ (runsL_letters _ (wordOk_list.1 h).1), longestOf_yes h (by decide +kernel), longestOf_yes h (by decide +kernel), longestOf_yes h (by decide +kernel)]
  rfl
theorem runsOf_pos {s : ByteArray} (k : Nat) (hk : k < (runsOf s).length) : 1 ≤ (runsOf s)[k] ∧ (runsOf s)[k] ≤ 14 := by
  by_cases h : wordOk s = true
  · have h14 := wordOk_size h
    have h1 := runsL_sum s.data.toList
    rw [len_data] at h1
    have hk' : k < (runsL s.data.toList).length := by rw [runsOf_yes h, List.length_map] at hk; exact hk
    have e : (runsOf s)[k] = ((runsL s.data.toList)[k].2 : Int) := by simp only [runsOf_yes h, List.getElem_map]
    have hp := runsL_pos s.data.toList _ (List.getElem_mem hk')
    have hq := le_sum_mem _ _ (List.mem_map.2 ⟨_, List.getElem_mem hk', rfl⟩ : (runsL s.data.toList)[k].2 ∈ (runsL s.data.toList).map (·.2))
    rw [e]; omega
  · rw [runsOf_no (by simpa using h)] at hk; exact absurd hk (Nat.not_lt_zero k)
theorem sumTo_bd {s : ByteArray} (k : Nat) (hk : k ≤ (runsOf s).length) : 0 ≤ sumTo (runsOf s) k ∧ sumTo (runsOf s) k ≤ 14 * k ∧ 0 ≤ maxTo (runsOf s) k ∧ maxTo (runsOf s) k ≤ 14 := by
  induction k with
  | zero => simp [sumTo, maxTo]
  | succ k ih =>
    have h1 := ih (by omega)
    have h2 := runsOf_pos (s := s) k (by omega)
    rw [sumTo_succ _ _ (by omega), maxTo_succ _ _ (by omega)]
    omega
theorem longestOf_bd3 {s t : ByteArray} : -1 ≤ longestOf s t ∧ longestOf s t ≤ 14 := by
  by_cases h : wordOk s = true
  · by_cases g : letterOk t = true
    · have := longestOf_bd h g; omega
    · rw [longestOf_no2 (by simpa using g)]; omega
  · rw [longestOf_no1 (by simpa using h)]; omega
theorem runsOf_bd' (s : ByteArray) : (runsOf s).length ≤ 14 := by
  by_cases hw : wordOk s = true
  · rw [runsOf_yes hw, List.length_map]
    have := runsL_length s.data.toList
    have h14 := wordOk_size hw
    rw [len_data] at this
    omega
  · rw [runsOf_no (by simpa using hw)]; exact Nat.zero_le _

theorem rev_get (xs : List Int) (k : Nat) (hk : k < xs.length) (h : xs.length - 1 - k < xs.reverse.length) : xs.reverse[xs.length - 1 - k] = xs[k] := by
  rw [List.getElem_reverse]; congr 1; omega

set_option maxHeartbeats 1600000 in
theorem lawRunsOf_walk {w : World} (a : Option Addr) (len cap : Nat) (zs : List Int) (h : IsRow .u8 w a len cap zs) :
    Calls Try.prog 6 #[.slice a len cap] w fun e w' => e = .returned (.bool true) ∧ Below w.heap.size w w' := by
  have HD := Lib.hid (drawRunsOf_any a len cap zs w h)
  have hl := row_len h
  clear h
  by_cases hbig : 1048576 < len
  · go_enter Try.func6, Try.ntmps6
    go_wp2_with fail
    go_ret
    exact ⟨rfl, Below.refl _ _⟩
  · go_enter Try.func6, Try.ntmps6
    go_wp2_with fail
    refine HD.out.mono ?_
    clear HD
    rintro e w1 ⟨s, rfl, hs, hb⟩
    go_wp2_with fail
    refine (implRunsOf_any s _ (small_max hs (by omega))).mono ?_
    rintro e w2 ⟨v1, rfl, ho1, hb2⟩
    go_wp2_with fail
    refine (specRunsOf_any s _ (small_max hs (by omega))).mono ?_
    rintro e w3 ⟨v2, rfl, ho2, hb3⟩
    have hbb := hb.trans ((hb2.mono hb.size).trans (hb3.mono (Nat.le_trans hb.size hb2.size)))
    have h1 := (IsInts.of_owns ho1).below hb3
    have h2 := IsInts.of_owns ho2
    have hxx : (runsOf s == runsOf s) = true := by simp
    have HX := Lib.hid hxx
    clear hxx hb hb2 hb3 ho1 ho2
    go_wp2_with fail
    refine (sameInts_any v1 v2 _ _ _ h1 h2).mono ?_
    rintro e w4 ⟨rfl, n4, rfl⟩
    rw [HX.out]
    have h14 := h1.below (below_drewN (Below.refl _ _) n4)
    have hb4 := below_drewN hbb n4
    clear h1 h2 hbb
    go_wp2_with fail
    refine (specWordOk_any s _ (small_max hs (by omega))).mono ?_
    rintro e w5 ⟨rfl, rfl⟩
    by_cases hw : wordOk s = true
    · have HBK := Lib.hid (runsOf_back hw)
      have HSM := Lib.hid (runsOf_sum hw)
      have HMX := Lib.hid (runsOf_max hw)
      have H5 := Lib.hid (back_size hw)
      have HP := Lib.hid (fun k hk => runsOf_pos (s := s) k hk)
      have HQ := Lib.hid (fun k hk => sumTo_bd (s := s) k hk)
      have hL14 := runsOf_bd' s
      clear HX
      go_wp2_with fail
      refine (implBackWord_any s _ (small_max hs (by omega))).mono ?_
      rintro e w6 ⟨rfl, hb6⟩
      go_wp2_with fail
      refine (implRunsOf_any (backStr s) _ (by rw [H5.out]; exact small_max hs (by omega))).mono ?_
      rintro e w7 ⟨v3, rfl, ho3, hb7⟩
      have h16 := (h14.below hb6).below hb7
      have h3 := IsInts.of_owns ho3
      have hb8 := (hb4.trans (hb6.mono hb4.size)).trans (hb7.mono (Nat.le_trans hb4.size hb6.size))
      rw [HBK.out] at h3
      clear ho3 hb6 hb7 h14 HBK
      generalize hX : runsOf s = xs at *
      have HXX := Lib.hid hX
      clear hX
      obtain ⟨a1, cap1, rfl, ha1, ha2, ha3⟩ := h16
      obtain ⟨a3, cap3, rfl, hc1, hc2, hc3⟩ := h3
      rw [List.length_reverse] at hc1 ⊢
      unfold maxLen at ha2 hc2
      have HA := Lib.hid ha3
      have HC := Lib.hid hc3
      clear ha3 hc3
      have hneq : ((xs.length : Int) != (xs.length : Int)) = false := by simp
      go_wp2_with fail
      go_loopw [6, 7, 8] (fun sm mo i wr => ∃ k : Nat, k ≤ xs.length ∧ i = .int .i64 k ∧ sm = .int .i64 (sumTo xs k) ∧ mo = .int .i64 (maxTo xs k) ∧ ∃ n, wr = w7.drewN n) (fun _ _ i _ => xs.length - (intOf i).toNat)
      case atStart => exact ⟨0, Nat.zero_le _, rfl, rfl, rfl, 0, rfl⟩
      case round =>
        obtain ⟨k, hk, rfl, rfl, rfl, n, rfl⟩ := hrel
        obtain ⟨q1, q2, q3, q4⟩ := HQ.out k hk
        by_cases hlt : k < xs.length
        · obtain ⟨g, off, rfl, hg, hc⟩ := HA.out.resolve_left (fun h => by rw [h] at hlt; exact absurd hlt (Nat.not_lt_zero k))
          obtain ⟨g3, off3, rfl, hg3, hd⟩ := HC.out.resolve_left (fun h => by rw [List.reverse_eq_nil_iff] at h; rw [h] at hlt; exact absurd hlt (Nat.not_lt_zero k))
          have hcell := hc k hlt
          have hdell := (hd (xs.length - 1 - k) (by rw [List.length_reverse]; omega)).trans (by rw [rev_get xs k hlt])
          clear hc hd
          obtain ⟨p1, p2⟩ := HP.out k hlt
          have HS1 := Lib.hid (sumTo_succ xs k hlt)
          have HS2 := Lib.hid (maxTo_succ xs k hlt)
          generalize xs[k] = c at *
          generalize hW : w7.drewN n = W at *
          have HW := Lib.hid hW
          have hcell' : W.cell? ⟨g, off + k, none⟩ = some (.int .i64 c) := by rw [← hW]; exact hcell
          have hdell' : W.cell? ⟨g3, off3 + (xs.length - 1 - k), none⟩ = some (.int .i64 c) := by rw [← hW]; exact hdell
          clear hW hcell hdell
          have hne2 : (c != c) = false := by simp
          have hd1 : decide (c < 1) = false := by simp; omega
          have hq2 : (0 : Int) ≤ (xs.length : Int) - 1 - (k : Int) := by omega
          have hq4 : (xs.length : Int) - 1 - (k : Int) < xs.length := by omega
          have hq3 : ((xs.length : Int) - 1 - (k : Int)).toNat = xs.length - 1 - k := by omega
          have hq1 : IntKind.i64.wrap ((xs.length : Int) - 1) = (xs.length : Int) - 1 := IntWalk.i64_in _ (by omega)
          have hq5 : IntKind.i64.wrap ((xs.length : Int) - 1 - (k : Int)) = (xs.length : Int) - 1 - (k : Int) := IntWalk.i64_in _ (by omega)
          go_wp2
          go_quiet (fail)
          clear hq1 hq2 hq3 hq4 hq5
          go_wp2
          go_roundw
          case rel => exact ⟨k + 1, by omega, by go_num, by rw [HS1.out], by rw [HS2.out], _, by rw [← HW.out, World.drewN_drewN]⟩
          case measure => simp [intOf]; omega
        · obtain rfl : k = xs.length := by omega
          have hsm : (sumTo xs xs.length == (s.size : Int)) = true := by rw [HSM.out]; simp
          have hmx : (maxTo xs xs.length == max (longestOf s ⟨#[114]⟩) (max (longestOf s ⟨#[100]⟩) (longestOf s ⟨#[110]⟩))) = true := by rw [HMX.out]; simp
          have hb9 := below_drewN hb8 n
          generalize w7.drewN n = W at *
          clear HP HQ HSM HMX HA HC
          go_wp2_with fail
          refine (implLongestOf_any s ⟨#[114]⟩ _ (small_max hs (by omega)) (by decide)).mono ?_
          rintro e w9 ⟨rfl, hb10⟩
          go_wp2_with fail
          refine (implLongestOf_any s ⟨#[100]⟩ _ (small_max hs (by omega)) (by decide)).mono ?_
          rintro e w10 ⟨rfl, hb11⟩
          go_wp2_with fail
          refine (implLongestOf_any s ⟨#[110]⟩ _ (small_max hs (by omega)) (by decide)).mono ?_
          rintro e w11 ⟨rfl, hb12⟩
          go_wp2_with (go_at_call 14; refine (alive_any _).mono ?_; rintro e w' ⟨rfl, rfl⟩)
          go_ret
          exact ⟨rfl, by
            have q9 := hb9.trans (hb10.mono hb9.size)
            have q10 := q9.trans (hb11.mono q9.size)
            exact q10.trans (hb12.mono q10.size)⟩
    · have hw' : wordOk s = false := by simpa using hw
      have hr := runsOf_no hw'
      rw [hr] at h14
      obtain ⟨a1, cap1, rfl, _⟩ := h14
      clear hw hr HX
      go_wp2_with (go_at_call 14; refine (alive_any _).mono ?_; rintro e w' ⟨rfl, rfl⟩)
      go_ret
      exact ⟨rfl, hb4⟩
end Go.Proofs.Ytdlabljipjfgjaa
