/- The walk of FnSwapAt: true at every code. No condition. -/
import Derived.Test.YtggohgkjdnnndaaSwapDr
import Derived.Test.YtggohgkjdnnndaaSwapB
import Derived.Test.YtggohgkjdnnndaaLawRost
namespace Go.Proofs.Ytggohgkjdnnndaa
open Go.RowKit

theorem distTo_one {xs ys : List ByteArray} {d : Nat} {z : Nat} (h : ∀ k, k ≠ d → dP (colN xs k) (colN ys k) = 0) (g : dP (colN xs d) (colN ys d) = z) (n : Nat) : distTo xs ys n = if d < n then z else 0 := by
  induction n with
  | zero => rfl
  | succ n ih =>
    rw [distTo, ih]
    by_cases e : n = d
    · subst e; rw [if_neg (Nat.lt_irrefl _), if_pos (Nat.lt_succ_self _), g]; omega
    · rw [h n e]
      by_cases hlt : d < n
      · rw [if_pos hlt, if_pos (by omega)]; omega
      · rw [if_neg hlt, if_neg (by omega)]
theorem swaps_of_swap {xs : List ByteArray} {d a b : Nat} (h : rosterOk xs = true) (hd : d < daysOf xs) (ha : a < xs.length) (hb : b < xs.length) (hab : a ≠ b) : swapsOf xs (swapTo xs d a b) = if swapTo xs d a b = xs then 0 else 1 := by
  obtain ⟨hal, -⟩ := ch_swap h hd ha hb hab
  have hrd := roster_days h hd
  have h4 := (rosterOk_iff.1 h).2.1
  have hcol := fun k => swapTo_col hrd ha hb hab k
  have hs := swap_one (f := colN xs d) (a := a) (b := b) (colN_lt xs d) (by rw [colN_length]; exact h4) (by rw [colN_length]; exact ha) (by rw [colN_length]; exact hb) hab
  have hsame := fun k => metP_same (colN xs k) (colN_lt xs k) (by rw [colN_length]; exact h4)
  have hm : metTo xs (swapTo xs d a b) (daysOf xs) = true := metTo_of fun k _ => by
    rw [hcol k]
    by_cases e : k = d
    · rw [if_pos e, e]; exact hs.1
    · rw [if_neg e]; exact (hsame k).1
  have heq : swapL (colN xs d) a b = colN xs d ↔ swapTo xs d a b = xs := by
    constructor
    · intro e
      refine (roster_ext hal fun k _ => ?_).symm
      rw [hcol k]
      by_cases ek : k = d
      · rw [if_pos ek, ek, e]
      · rw [if_neg ek]
    · intro e
      have := hcol d
      rw [if_pos rfl, e] at this
      exact this.symm
  rw [swapsOf_yes hal hm, distTo_one (d := d) (z := if swapTo xs d a b = xs then 0 else 1) (fun k hk => by rw [hcol k, if_neg hk]; exact (hsame k).2) (by
    rw [hcol d, if_pos rfl, hs.2]
    by_cases e : swapTo xs d a b = xs
    · rw [if_pos e, if_pos (heq.2 e)]
    · rw [if_neg e, if_neg (fun h => e (heq.1 h))]), if_pos hd]
  by_cases e : swapTo xs d a b = xs
  · rw [if_pos e, if_pos e]; rfl
  · rw [if_neg e, if_neg e]; rfl
theorem rdn_letter (j : Nat) (h : j < 3) : letterOk ⟨#[byteAt ⟨#[114, 100, 110]⟩ j]⟩ = true := by
  have : j = 0 ∨ j = 1 ∨ j = 2 := by omega
  rcases this with rfl | rfl | rfl <;> decide
theorem short_small {xs : List ByteArray} (h : rosterOk xs = true) : Short xs := fun s hs => by
  have h1 := (rosterOk_iff.1 h).2.2.2 s hs
  have h2 := (rosterOk_iff.1 h).2.2.1
  unfold maxLen; omega

set_option maxHeartbeats 6400000 in
theorem lawSwapAt_walk {w : World} (a : Option Addr) (len cap : Nat) (zs : List Int) (h : IsRow .u8 w a len cap zs) :
    Calls Try.prog 3 #[.slice a len cap] w fun e w' => e = .returned (.bool true) ∧ Below w.heap.size w w' := by
  have HD := Lib.hid (drawSwapAt_any a len cap zs w h)
  have hl := rowR_len h
  clear h
  by_cases hbig : 1048576 < len
  · go_enter Try.func3, Try.ntmps3
    go_wp2_with fail
    go_ret
    exact ⟨rfl, Below.refl _ _⟩
  go_enter Try.func3, Try.ntmps3
  go_wp2_with fail
  refine HD.out.mono ?_
  clear HD
  rintro e w1 ⟨xs, v, d, f, t, rfl, hs, hd1, hd2, hf1, hf2, ht1, ht2, ho, hb⟩
  obtain ⟨b, c, rfl, hc1, hc2, hI⟩ := drawnR_form ho
  have hx7 := hs.1
  have HSH := Lib.hid hs.short
  have I1 := Lib.hid hI
  have Q1 := Lib.hid hb
  clear hI ho hb hs
  have HIM := Lib.hid (fun W hI => implSwap_any (.slice b xs.length c) xs HSH.out d f t W hI)
  have HSP := Lib.hid (fun W hI => specSwap_any (.slice b xs.length c) xs HSH.out d f t W hI)
  cases hok : swapOk xs d f t with
  | false =>
    rw [hok, swapd_no hok] at HIM HSP
    clear hok
    go_wp2_with fail
    refine (HIM.out _ I1.out).mono ?_
    rintro e w2 ⟨v2, rfl, ho2, hb2⟩
    obtain ⟨a2, c2, rfl, hc21, hc22, hI2⟩ := drawnR_form ho2
    have I2 := Lib.hid (I1.out.below hb2)
    have Y2 := Lib.hid hI2
    have Q2 := Lib.hid (Q1.out.trans (hb2.mono Q1.out.size))
    clear hb2 ho2 hI2
    go_wp2_with fail
    refine (HSP.out _ I2.out).mono ?_
    rintro e w3 ⟨v3, rfl, ho3, hb3⟩
    obtain ⟨a3, c3, rfl, hc31, hc32, hI3⟩ := drawnR_form ho3
    have Y3 := Lib.hid (Y2.out.below hb3)
    have Z3 := Lib.hid hI3
    have Q3 := Lib.hid (Q2.out.trans (hb3.mono Q2.out.size))
    clear hb3 ho3 hI3
    go_wp2_with fail
    refine (sameTexts_any _ _ [] [] _ Y3.out Z3.out).mono ?_
    rintro e w4 ⟨rfl, hb4⟩
    rw [show decide (([] : List ByteArray) = []) = true from by simp]
    have Q4 := Lib.hid (Q3.out.trans (hb4.mono Q3.out.size))
    clear hb4
    go_wp2_with (go_at_call 17; refine (aliveR_any _).mono ?_; rintro e w' ⟨rfl, rfl⟩)
    go_ret
    exact ⟨rfl, Q4.out⟩
  | true =>
    obtain ⟨hr, hdb, hft, hfb, htb⟩ := swapOk_iff.1 hok
    obtain ⟨nd, rfl⟩ := Int.eq_ofNat_of_zero_le hdb.1
    obtain ⟨nf, rfl⟩ := Int.eq_ofNat_of_zero_le hfb.1
    obtain ⟨nt, rfl⟩ := Int.eq_ofNat_of_zero_le htb.1
    have qd : nd < daysOf xs := by omega
    have qf : nf < xs.length := by omega
    have qt : nt < xs.length := by omega
    have qn : nf ≠ nt := by omega
    obtain ⟨r1, r2, r3⟩ := swap_roster hok
    obtain ⟨k1, k2⟩ := swap_back hok
    have hsw := swaps_of_swap hr qd qf qt qn
    have HCT := Lib.hid (fun (u : ByteArray) (hu : letterOk u = true) k hk => swap_count hr qd qf qt qn hu k hk)
    have hyes : swapd xs (nd : Int) (nf : Int) (nt : Int) = swapTo xs nd nf nt := swapd_yes hok
    have HYS := Lib.hid (short_small r1)
    rw [hok, hyes] at HIM HSP
    rw [hyes] at r1 r2 r3 k1 k2 HYS
    generalize swapTo xs nd nf nt = ys at *
    have HR := Lib.hid hr
    have HR1 := Lib.hid r1
    have HR2 := Lib.hid r2
    have HR3 := Lib.hid r3
    have HBK := Lib.hid (fun (u : Value) W hI => implSwap_any u ys HYS.out (nd : Int) (nt : Int) (nf : Int) W hI)
    rw [k1, k2] at HBK
    have HSW := Lib.hid (fun (p q : Value) W hI hJ => implSwaps_any p q xs ys HSH.out HYS.out W hI hJ)
    rw [hsw] at HSW
    have HN01 : Hid ((ys = xs ∧ (if ys = xs then (0 : Int) else 1) = 0) ∨ (ys ≠ xs ∧ (if ys = xs then (0 : Int) else 1) = 1)) := by
      have : (ys = xs ∧ (if ys = xs then (0 : Int) else 1) = 0) ∨ (ys ≠ xs ∧ (if ys = xs then (0 : Int) else 1) = 1) := by
        by_cases e : ys = xs
        · exact .inl ⟨e, if_pos e⟩
        · exact .inr ⟨e, if_neg e⟩
      exact Lib.hid this
    generalize (if ys = xs then (0 : Int) else 1) = nn at *
    have HRO := Lib.hid (fun (u : Value) W hI => implRosterOk_any u ys HYS.out W hI)
    rw [r1] at HRO
    have h0 : 0 < xs.length := by omega
    have hs0 := daysOf_get h0
    clear hok hr hdb hft hfb htb r1 r2 r3 k1 k2 hsw hyes qd qn
    go_wp2_with fail
    refine (HIM.out _ I1.out).mono ?_
    rintro e w2 ⟨v2, rfl, ho2, hb2⟩
    obtain ⟨a2, c2, rfl, hc21, hc22, hI2⟩ := drawnR_form ho2
    have I2 := Lib.hid (I1.out.below hb2)
    have Y2 := Lib.hid hI2
    have Q2 := Lib.hid (Q1.out.trans (hb2.mono Q1.out.size))
    clear hb2 ho2 hI2
    go_wp2_with fail
    refine (HSP.out _ I2.out).mono ?_
    rintro e w3 ⟨v3, rfl, ho3, hb3⟩
    obtain ⟨a3, c3, rfl, hc31, hc32, hI3⟩ := drawnR_form ho3
    have I3 := Lib.hid (I2.out.below hb3)
    have Y3 := Lib.hid (Y2.out.below hb3)
    have Z3 := Lib.hid hI3
    have Q3 := Lib.hid (Q2.out.trans (hb3.mono Q2.out.size))
    clear hb3 ho3 hI3
    go_wp2_with fail
    refine (sameTexts_any _ _ ys ys _ Y3.out Z3.out).mono ?_
    rintro e w4 ⟨rfl, hb4⟩
    rw [decide_eq_true (rfl : ys = ys)]
    have I4 := Lib.hid (I3.out.below hb4)
    have Y4 := Lib.hid (Y3.out.below hb4)
    have Q4 := Lib.hid (Q3.out.trans (hb4.mono Q3.out.size))
    clear hb4
    obtain ⟨g1, o1, rfl, hg1, hcl1⟩ := I4.out.at h0
    have HC0 := Lib.hid (fun W (hb : Below w4.heap.size w4 W) => (hb.cell (p := ⟨g1, o1, none⟩) hg1).trans (hcl1 0 h0))
    have hs12 : xs[0].size ≤ 12 := by have := (rosterOk_iff.1 HR.out).2.2.1; omega
    have HS0 := Lib.hid hs0
    clear hcl1 hg1 hs0
    generalize xs[0] = s0 at *
    go_wp2_with fail
    go_loopw [11, 12, 13] (fun iv _ _ wr => ∃ (k : Nat), k ≤ s0.size ∧ iv = .int .i64 (k : Int) ∧ Hid (Below w4.heap.size w4 wr)) (fun iv _ _ _ => s0.size - (intOf iv).toNat)
    case atStart => exact ⟨0, Nat.zero_le _, rfl, Lib.hid (Below.refl _ _)⟩
    case round =>
      obtain ⟨k, hk, rfl, HB⟩ := hrel
      have c0 := HC0.out _ HB.out
      by_cases hlt : k < s0.size
      · have hki : (k : Int) < (s0.size : Int) := by omega
        have hkx : k < daysOf xs := by have := HS0.out; omega
        go_wp2_with fail
        clear c0
        go_loopw [12, 13] (fun jv _ wq => ∃ (j : Nat), j ≤ 3 ∧ jv = .int .i64 (j : Int) ∧ Hid (Below w4.heap.size w4 wq)) (fun jv _ _ => 3 - (intOf jv).toNat)
        case atStart => exact ⟨0, Nat.zero_le _, rfl, HB⟩
        case round =>
          obtain ⟨j, hj, rfl, HQ⟩ := hrel
          by_cases hjl : j < 3
          · have hji : (j : Int) < 3 := by omega
            have hwj : IntKind.i64.wrap ((j : Int) + 1) = (j : Int) + 1 := IntWalk.i64_in _ (by omega)
            have hcut := fun W => cut_letter ⟨#[114, 100, 110]⟩ j hjl W
            have HLT := Lib.hid (rdn_letter j hjl)
            have hls : (⟨#[byteAt ⟨#[114, 100, 110]⟩ j]⟩ : ByteArray).size ≤ maxLen := by show 1 ≤ maxLen; decide
            have HLS := Lib.hid hls
            clear hls
            generalize (⟨#[byteAt ⟨#[114, 100, 110]⟩ j]⟩ : ByteArray) = lt at *
            have KX := Lib.hid (fun W hI => implDayOf_any (.slice (some ⟨g1, o1, none⟩) xs.length c) xs HSH.out (k : Int) W hI)
            have KY := Lib.hid (fun W hI => implDayOf_any (.slice a2 ys.length c2) ys HYS.out (k : Int) W hI)
            rw [dayOf_yes HR.out hkx] at KX
            rw [dayOf_yes HR1.out (by rw [HR2.out]; exact hkx)] at KY
            have HCX := Lib.hid (fun W => implCountOf_any (dayStr xs k) lt W (by rw [dayStr_size]; unfold maxLen; omega) HLS.out)
            have HCY := Lib.hid (fun W => implCountOf_any (dayStr ys k) lt W (by rw [dayStr_size, HR3.out]; unfold maxLen; omega) HLS.out)
            rw [HCT.out lt HLT.out k hkx] at HCY
            generalize countOf (dayStr xs k) lt = cc at *
            have hne : (cc != cc) = false := by simp
            go_wp2_with fail
            refine (KY.out _ (Y4.out.below HQ.out)).mono ?_
            rintro e w5 ⟨rfl, hb5⟩
            have B5 := Lib.hid (HQ.out.trans (hb5.mono HQ.out.size))
            clear hb5
            go_wp2_with fail
            refine (HCY.out _).mono ?_
            rintro e w6 ⟨rfl, hb6⟩
            have B6 := Lib.hid (B5.out.trans (hb6.mono B5.out.size))
            clear hb6
            go_wp2_with fail
            refine (KX.out _ (I4.out.below B6.out)).mono ?_
            rintro e w7 ⟨rfl, hb7⟩
            have B7 := Lib.hid (B6.out.trans (hb7.mono B6.out.size))
            clear hb7
            go_wp2_with fail
            refine (HCX.out _).mono ?_
            rintro e w8 ⟨rfl, hb8⟩
            have B8 := Lib.hid (B7.out.trans (hb8.mono B7.out.size))
            clear hb8
            go_wp2_with fail
            go_roundw
            case rel => exact ⟨j + 1, by omega, by go_num, B8⟩
            case measure => simp [intOf]; omega
          · obtain rfl : j = 3 := by omega
            go_wp2_with fail
            go_roundw
            case rel => exact ⟨k + 1, by omega, by go_num, HQ⟩
            case measure => simp [intOf]; omega
      · obtain rfl : k = s0.size := by omega
        go_wp2_with fail
        clear c0
        refine (HBK.out _ _ (Y4.out.below HB.out)).mono ?_
        rintro e w5 ⟨v5, rfl, ho5, hb5⟩
        obtain ⟨a5, c5, rfl, hc51, hc52, hI5⟩ := drawnR_form ho5
        have B5 := Lib.hid (HB.out.trans (hb5.mono HB.out.size))
        have Z5 := Lib.hid hI5
        clear hb5 ho5 hI5
        go_wp2_with fail
        refine (HSW.out _ _ _ (I4.out.below B5.out) (Y4.out.below B5.out)).mono ?_
        rintro e w6 ⟨rfl, hb6⟩
        have B6 := Lib.hid (B5.out.trans (hb6.mono B5.out.size))
        have Z6 := Lib.hid (Z5.out.below hb6)
        clear hb6
        rcases HN01.out with ⟨hyx0, rfl⟩ | ⟨hyx0, rfl⟩
        · have HYX := Lib.hid hyx0
          clear hyx0
          go_wp2_with fail
          refine (HRO.out _ _ (Y4.out.below B6.out)).mono ?_
          rintro e w7 ⟨rfl, hb7⟩
          have B7 := Lib.hid (B6.out.trans (hb7.mono B6.out.size))
          have Z7 := Lib.hid (Z6.out.below hb7)
          clear hb7
          go_wp2_with fail
          refine (sameTexts_any _ _ xs xs _ Z7.out (I4.out.below B7.out)).mono ?_
          rintro e w8 ⟨rfl, hb8⟩
          rw [decide_eq_true (rfl : xs = xs)]
          have B8 := Lib.hid (B7.out.trans (hb8.mono B7.out.size))
          clear hb8
          go_wp2_with fail
          refine (sameTexts_any _ _ ys xs _ (Y4.out.below B8.out) (I4.out.below B8.out)).mono ?_
          rintro e w9 ⟨rfl, hb9⟩
          rw [decide_eq_true HYX.out]
          have B9 := Lib.hid (B8.out.trans (hb9.mono B8.out.size))
          clear hb9
          go_wp2_with fail
          go_ret
          exact ⟨rfl, Q4.out.trans (B9.out.mono Q4.out.size)⟩
        · have HYX := Lib.hid hyx0
          clear hyx0
          go_wp2_with fail
          refine (HRO.out _ _ (Y4.out.below B6.out)).mono ?_
          rintro e w7 ⟨rfl, hb7⟩
          have B7 := Lib.hid (B6.out.trans (hb7.mono B6.out.size))
          have Z7 := Lib.hid (Z6.out.below hb7)
          clear hb7
          go_wp2_with fail
          refine (sameTexts_any _ _ xs xs _ Z7.out (I4.out.below B7.out)).mono ?_
          rintro e w8 ⟨rfl, hb8⟩
          rw [decide_eq_true (rfl : xs = xs)]
          have B8 := Lib.hid (B7.out.trans (hb8.mono B7.out.size))
          clear hb8
          go_wp2_with fail
          refine (sameTexts_any _ _ ys xs _ (Y4.out.below B8.out) (I4.out.below B8.out)).mono ?_
          rintro e w9 ⟨rfl, hb9⟩
          rw [decide_eq_false HYX.out]
          have B9 := Lib.hid (B8.out.trans (hb9.mono B8.out.size))
          clear hb9
          go_wp2_with fail
          go_ret
          exact ⟨rfl, Q4.out.trans (B9.out.mono Q4.out.size)⟩
end Go.Proofs.Ytggohgkjdnnndaa
