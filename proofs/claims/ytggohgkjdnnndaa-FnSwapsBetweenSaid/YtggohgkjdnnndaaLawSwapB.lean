/- The walk of FnSwapsBetween: true at every code. Written by mklawswapb.py. No condition. -/
import Derived.Test.YtggohgkjdnnndaaSwapDr
import Derived.Test.YtggohgkjdnnndaaSwapBS
import Derived.Test.YtggohgkjdnnndaaSwapCh
import Derived.Test.YtggohgkjdnnndaaLawRost
namespace Go.Proofs.Ytggohgkjdnnndaa
open Go.RowKit

theorem short_smallB {xs : List ByteArray} (h : rosterOk xs = true) : Short xs := fun s hs => by
  have h1 := (rosterOk_iff.1 h).2.2.2 s hs
  have h2 := (rosterOk_iff.1 h).2.2.1
  unfold maxLen; omega
/-- a swap leads to a roster one nearer -/
def nearP (xs ys : List ByteArray) (d a b : Nat) : Bool := decide (distTo (swapTo xs d a b) ys (daysOf (swapTo xs d a b)) + 1 = distTo xs ys (daysOf xs))
theorem swaps_cases (xs ys : List ByteArray) : (swapsOf xs ys = -1) ∨ (alike xs ys = true ∧ metTo xs ys (daysOf xs) = true) := by
  cases h : alike xs ys with
  | false => exact .inl (swapsOf_no1 h)
  | true =>
    cases g : metTo xs ys (daysOf xs) with
    | true => exact .inr ⟨rfl, rfl⟩
    | false => exact .inl (by simp [swapsOf, g])

set_option maxHeartbeats 6400000 in
set_option maxRecDepth 20000 in
theorem lawSwapsBetween_walk {w : World} (a : Option Addr) (len cap : Nat) (zs : List Int) (h : IsRow .u8 w a len cap zs) :
    Calls Try.prog 4 #[.slice a len cap] w fun e w' => e = .returned (.bool true) ∧ Below w.heap.size w w' := by
  have HD := Lib.hid (drawSwapsBetween_any a len cap zs w h)
  have hl := rowR_len h
  clear h
  by_cases hbig : 1048576 < len
  · go_enter Try.func4, Try.ntmps4
    go_wp2_with fail
    go_ret
    exact ⟨rfl, Below.refl _ _⟩
  go_enter Try.func4, Try.ntmps4
  go_wp2_with fail
  refine HD.out.mono ?_
  clear HD
  rintro e w1 ⟨xs, ys, u, v, rfl, hs, ht, ho, hp, hb⟩
  obtain ⟨b, c, rfl, hc1, hc2, hI⟩ := drawnR_form ho
  obtain ⟨b2, c2, rfl, hc21, hc22, hJ⟩ := drawnR_form hp
  have HSX := Lib.hid hs.short
  have HSY := Lib.hid ht.short
  have I1 := Lib.hid hI
  have J1 := Lib.hid hJ
  have Q1 := Lib.hid hb
  clear hI hJ ho hp hb hs ht
  have HIM := Lib.hid (fun W hI hJ => implSwaps_any (.slice b xs.length c) (.slice b2 ys.length c2) xs ys HSX.out HSY.out W hI hJ)
  have HSP := Lib.hid (fun W hI hJ => specSwaps_any (.slice b xs.length c) (.slice b2 ys.length c2) xs ys HSX.out HSY.out W hI hJ)
  rcases swaps_cases xs ys with hno | ⟨hal, hmt⟩
  · rw [hno] at HIM HSP
    clear hno
    go_wp2_with fail
    refine (HIM.out _ I1.out J1.out).mono ?_
    rintro e w2 ⟨rfl, hb2⟩
    have I2 := Lib.hid (I1.out.below hb2)
    have J2 := Lib.hid (J1.out.below hb2)
    have Q2 := Lib.hid (Q1.out.trans (hb2.mono Q1.out.size))
    clear hb2
    go_wp2_with fail
    refine (HSP.out _ I2.out J2.out).mono ?_
    rintro e w3 ⟨rfl, hb3⟩
    have Q3 := Lib.hid (Q2.out.trans (hb3.mono Q2.out.size))
    clear hb3
    go_wp2_with (go_at_call 17; refine (aliveR_any _).mono ?_; rintro e w' ⟨rfl, rfl⟩)
    go_ret
    exact ⟨rfl, Q3.out⟩
  · have HAL := Lib.hid hal
    have HMT := Lib.hid hmt
    have HYE := Lib.hid (swapsOf_yes hal hmt)
    have HBK := Lib.hid (fun W hI hJ => implSwaps_any (.slice b2 ys.length c2) (.slice b xs.length c) ys xs HSY.out HSX.out W hI hJ)
    rw [swaps_comm xs ys] at HBK
    have HCH := Lib.hid (fun W hI hJ => implChanges_any (.slice b xs.length c) (.slice b2 ys.length c2) xs ys HSX.out HSY.out W hI hJ)
    rw [changesOf_yes hal] at HCH
    have hle := swaps_changes hal hmt
    have hzero := swaps_zero hal hmt
    have hnear := swaps_near hal hmt
    have hbd := distTo_bd hal (daysOf xs) hmt
    obtain ⟨r1, r2, hl1, hl2⟩ := alike_iff.1 hal
    have h10 := (rosterOk_iff.1 r1).1
    have h14 := (rosterOk_iff.1 r1).2.1
    have h12 := (rosterOk_iff.1 r1).2.2.1
    have HR1 := Lib.hid r1
    rw [HYE.out] at HIM HSP HBK
    have HWS := Lib.hid (fun d a b' hd ha hb => swaps_swap (d := d) (a := a) (b := b') hal hmt hd ha hb)
    have k1 : 0 < xs.length := h10
    have hs0 := daysOf_get k1
    obtain ⟨N, hN⟩ : ∃ N, distTo xs ys (daysOf xs) = N := ⟨_, rfl⟩
    have HN := Lib.hid hN
    rw [hN] at HIM HSP HBK hle hzero hnear hbd
    have HZ := Lib.hid hzero
    have HNE : Hid (N ≠ 0 → ∃ d a b, d < daysOf xs ∧ a < xs.length ∧ b < a ∧ nearP xs ys d a b = true) := by
      have : N ≠ 0 → ∃ d a b, d < daysOf xs ∧ a < xs.length ∧ b < a ∧ nearP xs ys d a b = true := fun h => by
        obtain ⟨d, a, b, h1, h2, h3, h4⟩ := hnear h
        exact ⟨d, a, b, h1, h2, h3, decide_eq_true (by rw [HN.out]; exact h4)⟩
      exact Lib.hid this
    have hN48 : N ≤ 48 := by omega
    clear hal hmt hzero hnear hbd r1 r2 hl1 hl2 hN
    obtain ⟨nn, hnn⟩ : ∃ nn : Int, (N : Int) = nn := ⟨_, rfl⟩
    rw [hnn] at HIM HSP HBK hle
    have hn0 : 0 ≤ nn := by omega
    have hn48 : nn ≤ 48 := by omega
    have HNN := Lib.hid hnn
    clear hnn
    generalize hcc : chTo xs ys xs.length = cc at *
    have hne : (nn != nn) = false := by simp
    have hne2 : (nn == nn) = true := by simp
    go_wp2_with fail
    refine (HIM.out _ I1.out J1.out).mono ?_
    rintro e w2 ⟨rfl, hb2⟩
    have I2 := Lib.hid (I1.out.below hb2)
    have J2 := Lib.hid (J1.out.below hb2)
    have Q2 := Lib.hid (Q1.out.trans (hb2.mono Q1.out.size))
    clear hb2
    go_wp2_with fail
    refine (HSP.out _ I2.out J2.out).mono ?_
    rintro e w3 ⟨rfl, hb3⟩
    have I3 := Lib.hid (I2.out.below hb3)
    have J3 := Lib.hid (J2.out.below hb3)
    have Q3 := Lib.hid (Q2.out.trans (hb3.mono Q2.out.size))
    clear hb3
    obtain ⟨g1, o1, rfl, hg1, hcl1⟩ := I3.out.at k1
    have HC0 := Lib.hid (fun W (hb : Below w3.heap.size w3 W) => (hb.cell (p := ⟨g1, o1, none⟩) hg1).trans (hcl1 0 k1))
    have hs12 : xs[0].size ≤ 12 := by omega
    have HS0 := Lib.hid hs0
    clear hcl1 hg1 hs0 h12
    generalize xs[0] = s0 at *
    have hwn : IntKind.i64.wrap (nn - 1) = nn - 1 := IntWalk.i64_in _ (by omega)
    go_wp2_with fail
    go_loopw [6, 7] (fun nv iv wr => ∃ (k : Nat) (n : Bool), k ≤ s0.size ∧ iv = .int .i64 (k : Int) ∧ nv = .bool n ∧ Hid (n = true ∨ ∀ d a b, d < k → a < xs.length → b < a → nearP xs ys d a b = false) ∧ Hid (Below w3.heap.size w3 wr)) (fun _ iv _ => s0.size - (intOf iv).toNat)
    case atStart => exact ⟨0, false, Nat.zero_le _, rfl, rfl, Lib.hid (.inr fun d a b hd => absurd hd (Nat.not_lt_zero d)), Lib.hid (Below.refl _ _)⟩
    case round =>
      obtain ⟨k, n, hk, rfl, rfl, HK, HB⟩ := hrel
      have c0 := HC0.out _ HB.out
      by_cases hlt : k < s0.size
      · have hki : (k : Int) < (s0.size : Int) := by omega
        have hkx : k < daysOf xs := by have := HS0.out; omega
        go_wp2_with fail
        clear c0
        go_loopw [6, 8] (fun nv av wq => ∃ (p : Nat) (n : Bool), p ≤ xs.length ∧ av = .int .i64 (p : Int) ∧ nv = .bool n ∧ Hid (n = true ∨ (∀ d a b, d < k → a < xs.length → b < a → nearP xs ys d a b = false) ∧ ∀ a b, a < p → b < a → nearP xs ys k a b = false) ∧ Hid (Below w3.heap.size w3 wq)) (fun _ av _ => xs.length - (intOf av).toNat)
        case atStart => exact ⟨0, n, Nat.zero_le _, rfl, rfl, Lib.hid (HK.out.imp id fun h => ⟨h, fun a b ha => absurd ha (Nat.not_lt_zero a)⟩), HB⟩
        case round =>
          obtain ⟨p, n, hp, rfl, rfl, HP, HQ⟩ := hrel
          by_cases hpl : p < xs.length
          · have hpi : (p : Int) < (xs.length : Int) := by omega
            go_wp2_with fail
            go_loopw [6, 9] (fun nv bv wz => ∃ (q : Nat) (n : Bool), q ≤ p ∧ bv = .int .i64 (q : Int) ∧ nv = .bool n ∧ Hid (n = true ∨ ((∀ d a b, d < k → a < xs.length → b < a → nearP xs ys d a b = false) ∧ ∀ a b, a < p → b < a → nearP xs ys k a b = false) ∧ ∀ b, b < q → nearP xs ys k p b = false) ∧ Hid (Below w3.heap.size w3 wz)) (fun _ bv _ => p - (intOf bv).toNat)
            case atStart => exact ⟨0, n, Nat.zero_le _, rfl, rfl, Lib.hid (HP.out.imp id fun h => ⟨h, fun b hb => absurd hb (Nat.not_lt_zero b)⟩), HQ⟩
            case round =>
              obtain ⟨q, n, hq, rfl, rfl, HJ, HZZ⟩ := hrel
              by_cases hql : q < p
              · have hqi : (q : Int) < (p : Int) := by omega
                have hok : swapOk xs (k : Int) (p : Int) (q : Int) = true := swapOk_iff.2 ⟨HR1.out, ⟨by omega, by omega⟩, by omega, ⟨by omega, by omega⟩, ⟨by omega, by omega⟩⟩
                have HSW := Lib.hid (fun W hI => implSwap_any (.slice (some ⟨g1, o1, none⟩) xs.length c) xs HSX.out (k : Int) (p : Int) (q : Int) W hI)
                rw [hok, swapd_yes hok] at HSW
                have S := HWS.out k p q hkx hpl hql
                have hz := swapsOf_yes S.al S.met
                have hnr := S.near
                rw [HN.out] at hnr
                have HNP : Hid (nearP xs ys k p q = decide (distTo (swapTo xs k p q) ys (daysOf (swapTo xs k p q)) + 1 = N)) := Lib.hid (by rw [nearP, HN.out])
                have HZS := Lib.hid (short_smallB (alike_iff.1 S.al).1)
                clear S hok
                generalize swapTo xs k p q = zs at *
                have HSZ := Lib.hid (fun z W hI hJ => implSwaps_any z (.slice b2 ys.length c2) zs ys HZS.out HSY.out W hI hJ)
                rw [hz] at HSZ
                generalize distTo zs ys (daysOf zs) = M at *
                obtain ⟨mm, hmm⟩ : ∃ mm : Int, (M : Int) = mm := ⟨_, rfl⟩
                rw [hmm] at HSZ
                have hnm : nn - 1 ≤ mm := by have := HNN.out; omega
                have HNQ : Hid (nearP xs ys k p q = (mm == nn - 1)) := by
                  have : nearP xs ys k p q = (mm == nn - 1) := by
                    rw [HNP.out, Bool.eq_iff_iff, decide_eq_true_eq, beq_iff_eq]
                    have := HNN.out
                    omega
                  exact Lib.hid this
                have hlt0 : decide (mm < nn - 1) = false := decide_eq_false (by omega)
                clear hmm hnr hz HNP
                go_wp2_with fail
                refine (HSW.out _ (I3.out.below HZZ.out)).mono ?_
                rintro e w4 ⟨z, rfl, ho4, hb4⟩
                obtain ⟨az, cz, rfl, -, -, hI4⟩ := drawnR_form ho4
                have B4 := Lib.hid (HZZ.out.trans (hb4.mono HZZ.out.size))
                have I4 := Lib.hid hI4
                clear ho4 hb4 hI4
                go_wp2_with fail
                refine (HSZ.out _ _ I4.out (J3.out.below B4.out)).mono ?_
                rintro e w5 ⟨rfl, hb5⟩
                have B5 := Lib.hid (B4.out.trans (hb5.mono B4.out.size))
                clear hb5
                cases n with
                | true =>
                  go_wp2_with fail
                  go_roundw
                  case rel => exact ⟨q + 1, true, by omega, by go_num, rfl, Lib.hid (.inl rfl), B5⟩
                  case measure => simp [intOf]; omega
                | false =>
                  have HJ2 := Lib.hid (HJ.out.resolve_left (by decide))
                  cases hE : (mm == nn - 1) with
                  | true =>
                    go_wp2_with fail
                    go_roundw
                    case rel => exact ⟨q + 1, true, by omega, by go_num, rfl, Lib.hid (.inl rfl), B5⟩
                    case measure => simp [intOf]; omega
                  | false =>
                    have HJN : Hid (∀ b, b < q + 1 → nearP xs ys k p b = false) := by
                      have : ∀ b, b < q + 1 → nearP xs ys k p b = false := fun b hb => by
                        by_cases e : b = q
                        · rw [e, HNQ.out, hE]
                        · exact HJ2.out.2 b (by omega)
                      exact Lib.hid this
                    go_wp2_with fail
                    go_roundw
                    case rel => exact ⟨q + 1, false, by omega, by go_num, rfl, Lib.hid (.inr ⟨HJ2.out.1, HJN.out⟩), B5⟩
                    case measure => simp [intOf]; omega
              · obtain rfl : q = p := by omega
                have HPN : Hid (n = true ∨ (∀ d a b, d < k → a < xs.length → b < a → nearP xs ys d a b = false) ∧ ∀ a b, a < q + 1 → b < a → nearP xs ys k a b = false) := by
                  have : n = true ∨ (∀ d a b, d < k → a < xs.length → b < a → nearP xs ys d a b = false) ∧ ∀ a b, a < q + 1 → b < a → nearP xs ys k a b = false := HJ.out.imp id fun h => ⟨h.1.1, fun a b ha hb => by
                    by_cases e : a = q
                    · subst e; exact h.2 b hb
                    · exact h.1.2 a b (by omega) hb⟩
                  exact Lib.hid this
                go_wp2_with fail
                go_roundw
                case rel => exact ⟨q + 1, n, by omega, by go_num, rfl, HPN, HZZ⟩
                case measure => simp [intOf]; omega
          · obtain rfl : p = xs.length := by omega
            have HKN : Hid (n = true ∨ ∀ d a b, d < k + 1 → a < xs.length → b < a → nearP xs ys d a b = false) := by
              have : n = true ∨ ∀ d a b, d < k + 1 → a < xs.length → b < a → nearP xs ys d a b = false := HP.out.imp id fun h d a b hd ha hb => by
                by_cases e : d = k
                · subst e; exact h.2 a b ha hb
                · exact h.1 d a b (by omega) ha hb
              exact Lib.hid this
            go_wp2_with fail
            go_roundw
            case rel => exact ⟨k + 1, n, by omega, by go_num, rfl, HKN, HQ⟩
            case measure => simp [intOf]; omega
      · obtain rfl : k = s0.size := by omega
        have HNF : Hid (N ≠ 0 → n = true) := by
          have : N ≠ 0 → n = true := fun h => by
            obtain ⟨d, a, b, h1, h2, h3, h4⟩ := HNE.out h
            rcases HK.out with e | e
            · exact e
            · rw [e d a b (by have := HS0.out; omega) h2 h3] at h4; cases h4
          exact Lib.hid this
        have hlec : decide (nn ≤ cc) = true := decide_eq_true (by have := HNN.out; omega)
        by_cases hz0 : nn = 0
        · have hzt : (nn == 0) = true := by simp [hz0]
          have HEQ : Hid (xs = ys) := Lib.hid (HZ.out.1 (by have := HNN.out; omega))
          clear hz0
          go_wp2_with fail
          clear c0
          refine (sameTexts_any _ _ xs ys _ (I3.out.below HB.out) (J3.out.below HB.out)).mono ?_
          rintro e w4 ⟨rfl, hb4⟩
          rw [decide_eq_true HEQ.out]
          have B4 := Lib.hid (HB.out.trans (hb4.mono HB.out.size))
          clear hb4
          go_wp2_with fail
          refine (HBK.out _ (J3.out.below B4.out) (I3.out.below B4.out)).mono ?_
          rintro e w5 ⟨rfl, hb5⟩
          have B5 := Lib.hid (B4.out.trans (hb5.mono B4.out.size))
          clear hb5
          go_wp2_with fail
          refine (HCH.out _ (I3.out.below B5.out) (J3.out.below B5.out)).mono ?_
          rintro e w6 ⟨rfl, hb6⟩
          have B6 := Lib.hid (B5.out.trans (hb6.mono B5.out.size))
          clear hb6
          go_wp2_with fail
          go_ret
          exact ⟨rfl, Q3.out.trans (B6.out.mono Q3.out.size)⟩
        · have hzt : (nn == 0) = false := by simp [hz0]
          have HEQ : Hid (¬ xs = ys) := by
            have : ¬ xs = ys := fun e => hz0 (by have := HZ.out.2 e; have := HNN.out; omega)
            exact Lib.hid this
          obtain rfl : n = true := HNF.out (by have := HNN.out; omega)
          clear hz0
          go_wp2_with fail
          clear c0
          refine (sameTexts_any _ _ xs ys _ (I3.out.below HB.out) (J3.out.below HB.out)).mono ?_
          rintro e w4 ⟨rfl, hb4⟩
          rw [decide_eq_false HEQ.out]
          have B4 := Lib.hid (HB.out.trans (hb4.mono HB.out.size))
          clear hb4
          go_wp2_with fail
          refine (HBK.out _ (J3.out.below B4.out) (I3.out.below B4.out)).mono ?_
          rintro e w5 ⟨rfl, hb5⟩
          have B5 := Lib.hid (B4.out.trans (hb5.mono B4.out.size))
          clear hb5
          go_wp2_with fail
          refine (HCH.out _ (I3.out.below B5.out) (J3.out.below B5.out)).mono ?_
          rintro e w6 ⟨rfl, hb6⟩
          have B6 := Lib.hid (B5.out.trans (hb6.mono B5.out.size))
          clear hb6
          go_wp2_with fail
          go_ret
          exact ⟨rfl, Q3.out.trans (B6.out.mono Q3.out.size)⟩
end Go.Proofs.Ytggohgkjdnnndaa
