/- The walk of FnChangesOf: true at every two codes. Written by mklawswapc.py. No condition. -/
import Derived.Test.YtggohgkjdnnndaaSwapDr
import Derived.Test.YtggohgkjdnnndaaSwapCh
import Derived.Test.YtggohgkjdnnndaaLawRost
namespace Go.Proofs.Ytggohgkjdnnndaa
open Go.RowKit

theorem short_smallC {xs : List ByteArray} (h : rosterOk xs = true) : Short xs := fun s hs => by
  have h1 := (rosterOk_iff.1 h).2.2.2 s hs
  have h2 := (rosterOk_iff.1 h).2.2.1
  unfold maxLen; omega
theorem short_nilC : Short [] := fun s h => by cases h
theorem changes_nil1 (xs : List ByteArray) : changesOf xs [] = -1 := changesOf_no (alike_no2 rfl)
theorem changes_nil2 (xs : List ByteArray) : changesOf [] xs = -1 := changesOf_no (alike_no1 rfl)
theorem ch_bd {xs ys : List ByteArray} (h : alike xs ys = true) : ∀ k, k ≤ xs.length → 0 ≤ chTo xs ys k ∧ chTo xs ys k ≤ 12 * k := by
  intro k
  induction k with
  | zero => intro _; exact ⟨Int.le_refl _, Int.le_refl _⟩
  | succ k ih =>
    intro hk
    have := ih (by omega)
    have hl := (alike_iff.1 h).2.2.1
    have := differ_bd h k hk (by omega)
    rw [chTo_succ hk (by omega)]
    omega
/-- what the law asks of a swap's changes -/
theorem swap_changes {xs ys : List ByteArray} (h : alike xs ys = true) {d a b : Int} (hok : swapOk xs d a b = true) : 0 ≤ changesOf xs (swapd xs d a b) ∧ changesOf xs (swapd xs d a b) ≤ 2 ∧ 0 ≤ changesOf (swapd xs d a b) ys ∧ changesOf (swapd xs d a b) ys ≤ 48 ∧ chTo xs ys xs.length ≤ changesOf xs (swapd xs d a b) + changesOf (swapd xs d a b) ys := by
  obtain ⟨h1, h2, h3, h4, h5⟩ := swapOk_iff.1 hok
  have hd : d.toNat < daysOf xs := by omega
  have ha : a.toNat < xs.length := by omega
  have hb : b.toNat < xs.length := by omega
  have e : swapd xs d a b = swapTo xs d.toNat a.toNat b.toNat := by rw [swapd, if_pos hok]
  rw [e]
  obtain ⟨g1, g2⟩ := ch_swap h1 hd ha hb (by omega)
  have g3 := swap_alike h hd ha hb
  have g4 := ch_tri h g1
  have g5 := ch_bd g1 xs.length (Nat.le_refl _)
  have g6 := ch_bd g3 _ (Nat.le_refl _)
  have h44 := (rosterOk_iff.1 h1).2.1
  rw [swapTo_length] at g6
  rw [changesOf_yes g1, changesOf_yes g3, swapTo_length]
  rw [swapTo_length] at g4
  omega

set_option maxHeartbeats 6400000 in
set_option maxRecDepth 20000 in
theorem lawChangesOf_walk {w : World} (a : Option Addr) (len cap : Nat) (zs : List Int) (h : IsRow .u8 w a len cap zs) (am : Option Addr) (lenm capm : Nat) (zm : List Int) (hm : IsRow .u8 w am lenm capm zm) :
    Calls Try.prog 5 #[.slice a len cap, .slice am lenm capm] w fun e w' => e = .returned (.bool true) ∧ Below w.heap.size w w' := by
  have HD := Lib.hid (drawChangesOf_any a len cap zs w h)
  have hl := rowR_len h
  have hlm := rowR_len hm
  have hrow := row_bytes hm
  clear h hm
  by_cases hbig : 1048576 < len
  · go_enter Try.func5, Try.ntmps5
    go_wp2_with fail
    go_ret
    exact ⟨rfl, Below.refl _ _⟩
  by_cases hbig2 : 1048576 < lenm
  · go_enter Try.func5, Try.ntmps5
    go_wp2_with fail
    go_ret
    exact ⟨rfl, Below.refl _ _⟩
  have HROW := Lib.hid hrow
  clear hrow
  go_enter Try.func5, Try.ntmps5
  go_wp2_with fail
  refine HD.out.mono ?_
  clear HD
  rintro e w1 ⟨xs, ys, u, v, rfl, hs, ht, ho, hp, hb⟩
  obtain ⟨b, c, rfl, hc1, hc2, hI⟩ := drawnR_form ho
  obtain ⟨b2, c2, rfl, hc21, hc22, hJ⟩ := drawnR_form hp
  have HSX := Lib.hid hs.short
  have HSY := Lib.hid ht.short
  have I1 := Lib.hid hI
  have J1 := Lib.hid hJ
  have Q1 := Lib.hid hb
  clear hI hJ ho hp hb hs ht
  have HIM := Lib.hid (fun W hI hJ => implChanges_any (.slice b xs.length c) (.slice b2 ys.length c2) xs ys HSX.out HSY.out W hI hJ)
  have HSP := Lib.hid (fun W hI hJ => specChanges_any (.slice b xs.length c) (.slice b2 ys.length c2) xs ys HSX.out HSY.out W hI hJ)
  cases hal : alike xs ys with
  | false =>
    rw [changesOf_no hal] at HIM HSP
    clear hal
    go_wp2_with fail
    refine (HIM.out _ I1.out J1.out).mono ?_
    rintro e w2 ⟨rfl, hb2⟩
    have I2 := Lib.hid (I1.out.below hb2)
    have J2 := Lib.hid (J1.out.below hb2)
    have Q2 := Lib.hid (Q1.out.trans (hb2.mono Q1.out.size))
    clear hb2
    go_wp2_with fail
    refine (HSP.out _ I2.out J2.out).mono ?_
    rintro e w3 ⟨rfl, hb3⟩
    have Q3 := Lib.hid (Q2.out.trans (hb3.mono Q2.out.size))
    clear hb3
    go_wp2_with (go_at_call 17; refine (aliveR_any _).mono ?_; rintro e w' ⟨rfl, rfl⟩)
    go_ret
    exact ⟨rfl, Q3.out⟩
  | true =>
    have HAL := Lib.hid hal
    have HBK := Lib.hid (fun W hI hJ => implChanges_any (.slice b2 ys.length c2) (.slice b xs.length c) ys xs HSY.out HSX.out W hI hJ)
    rw [ch_comm xs ys] at HBK
    have hzero := ch_zero hal
    have hbd := ch_bd hal xs.length (Nat.le_refl _)
    rw [changesOf_yes hal] at HIM HSP HBK
    have r1 := (alike_iff.1 hal).1
    have h10 := (rosterOk_iff.1 r1).1
    have h14 := (rosterOk_iff.1 r1).2.1
    have HSC := Lib.hid (fun d a b hok => swap_changes (d := d) (a := a) (b := b) hal hok)
    have HSS := Lib.hid (fun d a b (hok : swapOk xs d a b = true) => short_smallC (swap_roster hok).1)
    have HZ := Lib.hid hzero
    clear hal hzero r1
    obtain ⟨nn, hnn⟩ : ∃ nn, chTo xs ys xs.length = nn := ⟨_, rfl⟩
    rw [hnn] at HIM HSP HBK hbd HSC HZ
    clear hnn
    have hne : (nn != nn) = false := by simp
    have hne2 : (nn == nn) = true := by simp
    have hng : decide (nn < 0) = false := decide_eq_false (by omega)
    have hwl : IntKind.i64.wrap ((xs.length : Int) - 1) = (xs.length : Int) - 1 := IntWalk.i64_in _ (by omega)
    go_wp2_with fail
    refine (HIM.out _ I1.out J1.out).mono ?_
    rintro e w2 ⟨rfl, hb2⟩
    have I2 := Lib.hid (I1.out.below hb2)
    have J2 := Lib.hid (J1.out.below hb2)
    have Q2 := Lib.hid (Q1.out.trans (hb2.mono Q1.out.size))
    clear hb2
    go_wp2_with fail
    refine (HSP.out _ I2.out J2.out).mono ?_
    rintro e w3 ⟨rfl, hb3⟩
    have I3 := Lib.hid (I2.out.below hb3)
    have J3 := Lib.hid (J2.out.below hb3)
    have Q3 := Lib.hid (Q2.out.trans (hb3.mono Q2.out.size))
    clear hb3
    rcases HROW.out with hm0 | ⟨gm, om, zf, rfl, hgm, hcm⟩
    · subst hm0
      clear HROW
      have HSW := Lib.hid (fun W hI => implSwap_any (.slice b xs.length c) xs HSX.out (0) 0 ((xs.length : Int) - 1) W hI)
      cases hok : swapOk xs (0) 0 ((xs.length : Int) - 1) with
      | false =>
        rw [hok, swapd_no hok] at HSW
        clear hok
        go_wp2_with fail
        refine (HSW.out _ I3.out).mono ?_
        rintro e w4 ⟨z, rfl, ho4, hb4⟩
        obtain ⟨az, cz, rfl, -, -, hI4⟩ := drawnR_form ho4
        have Z4 := Lib.hid hI4
        have HA1 := Lib.hid (fun W hI hJ => implChanges_any (.slice b xs.length c) (.slice az 0 cz) xs [] HSX.out short_nilC W hI hJ)
        have HA2 := Lib.hid (fun W hI hJ => implChanges_any (.slice az 0 cz) (.slice b2 ys.length c2) [] ys short_nilC HSY.out W hI hJ)
        rw [changes_nil1] at HA1
        rw [changes_nil2] at HA2
        have I4 := Lib.hid (I3.out.below hb4)
        have J4 := Lib.hid (J3.out.below hb4)
        have B4 := Lib.hid hb4
        clear ho4 hb4 hI4
        obtain ⟨aa, haa⟩ : ∃ aa : Int, aa = -1 := ⟨_, rfl⟩
        clear haa
        go_wp2_with fail
        refine (HA1.out _ I4.out Z4.out).mono ?_
        rintro e w5 ⟨rfl, hb5⟩
        have I5 := Lib.hid (I4.out.below hb5)
        have J5 := Lib.hid (J4.out.below hb5)
        have Z5 := Lib.hid (Z4.out.below hb5)
        have B5 := Lib.hid (B4.out.trans (hb5.mono B4.out.size))
        clear hb5
        go_wp2_with fail
        refine (HA2.out _ Z5.out J5.out).mono ?_
        rintro e w6 ⟨rfl, hb6⟩
        have I6 := Lib.hid (I5.out.below hb6)
        have J6 := Lib.hid (J5.out.below hb6)
        have B6 := Lib.hid (B5.out.trans (hb6.mono B5.out.size))
        clear hb6
        by_cases hz0 : nn = 0
        · have hzt : (nn == 0) = true := by simp [hz0]
          have HEQ : Hid (xs = ys) := Lib.hid (HZ.out.1 hz0)
          clear hz0
          go_wp2_with fail
          refine (sameTexts_any _ _ xs ys _ I6.out J6.out).mono ?_
          rintro e w7 ⟨rfl, hb7⟩
          rw [decide_eq_true HEQ.out]
          have I7 := Lib.hid (I6.out.below hb7)
          have J7 := Lib.hid (J6.out.below hb7)
          have B7 := Lib.hid (B6.out.trans (hb7.mono B6.out.size))
          clear hb7
          go_wp2_with fail
          refine (HBK.out _ J7.out I7.out).mono ?_
          rintro e w8 ⟨rfl, hb8⟩
          have B8 := Lib.hid (B7.out.trans (hb8.mono B7.out.size))
          clear hb8
          go_wp2_with (go_at_call 17; refine (aliveR_any _).mono ?_; rintro e w' ⟨rfl, rfl⟩)
          go_ret
          exact ⟨rfl, Q3.out.trans (B8.out.mono Q3.out.size)⟩
        · have hzt : (nn == 0) = false := by simp [hz0]
          have HEQ : Hid (¬ xs = ys) := Lib.hid (fun e => hz0 (HZ.out.2 e))
          clear hz0
          go_wp2_with fail
          refine (sameTexts_any _ _ xs ys _ I6.out J6.out).mono ?_
          rintro e w7 ⟨rfl, hb7⟩
          rw [decide_eq_false HEQ.out]
          have I7 := Lib.hid (I6.out.below hb7)
          have J7 := Lib.hid (J6.out.below hb7)
          have B7 := Lib.hid (B6.out.trans (hb7.mono B6.out.size))
          clear hb7
          go_wp2_with fail
          refine (HBK.out _ J7.out I7.out).mono ?_
          rintro e w8 ⟨rfl, hb8⟩
          have B8 := Lib.hid (B7.out.trans (hb8.mono B7.out.size))
          clear hb8
          go_wp2_with (go_at_call 17; refine (aliveR_any _).mono ?_; rintro e w' ⟨rfl, rfl⟩)
          go_ret
          exact ⟨rfl, Q3.out.trans (B8.out.mono Q3.out.size)⟩
      | true =>
        have hsc := HSC.out _ _ _ hok
        have HZS := Lib.hid (HSS.out _ _ _ hok)
        rw [hok] at HSW
        clear hok
        generalize swapd xs (0) 0 ((xs.length : Int) - 1) = zs at *
        generalize hca : changesOf xs zs = ca at *
        generalize hcb : changesOf zs ys = cb at *
        go_wp2_with fail
        refine (HSW.out _ I3.out).mono ?_
        rintro e w4 ⟨z, rfl, ho4, hb4⟩
        obtain ⟨az, cz, rfl, -, -, hI4⟩ := drawnR_form ho4
        have Z4 := Lib.hid hI4
        have HA1 := Lib.hid (fun W hI hJ => implChanges_any (.slice b xs.length c) (.slice az zs.length cz) xs zs HSX.out HZS.out W hI hJ)
        have HA2 := Lib.hid (fun W hI hJ => implChanges_any (.slice az zs.length cz) (.slice b2 ys.length c2) zs ys HZS.out HSY.out W hI hJ)
        rw [hca] at HA1
        rw [hcb] at HA2
        have hwc : IntKind.i64.wrap (ca + cb) = ca + cb := IntWalk.i64_in _ (by omega)
        have hle1 : decide (nn ≤ ca + cb) = true := decide_eq_true (by omega)
        have hle2 : decide (ca ≤ 2) = true := decide_eq_true (by omega)
        have I4 := Lib.hid (I3.out.below hb4)
        have J4 := Lib.hid (J3.out.below hb4)
        have B4 := Lib.hid hb4
        clear ho4 hb4 hI4 hca hcb
        go_wp2_with fail
        refine (HA1.out _ I4.out Z4.out).mono ?_
        rintro e w5 ⟨rfl, hb5⟩
        have I5 := Lib.hid (I4.out.below hb5)
        have J5 := Lib.hid (J4.out.below hb5)
        have Z5 := Lib.hid (Z4.out.below hb5)
        have B5 := Lib.hid (B4.out.trans (hb5.mono B4.out.size))
        clear hb5
        go_wp2_with fail
        refine (HA2.out _ Z5.out J5.out).mono ?_
        rintro e w6 ⟨rfl, hb6⟩
        have I6 := Lib.hid (I5.out.below hb6)
        have J6 := Lib.hid (J5.out.below hb6)
        have B6 := Lib.hid (B5.out.trans (hb6.mono B5.out.size))
        clear hb6
        by_cases hz0 : nn = 0
        · have hzt : (nn == 0) = true := by simp [hz0]
          have HEQ : Hid (xs = ys) := Lib.hid (HZ.out.1 hz0)
          clear hz0
          go_wp2_with fail
          refine (sameTexts_any _ _ xs ys _ I6.out J6.out).mono ?_
          rintro e w7 ⟨rfl, hb7⟩
          rw [decide_eq_true HEQ.out]
          have I7 := Lib.hid (I6.out.below hb7)
          have J7 := Lib.hid (J6.out.below hb7)
          have B7 := Lib.hid (B6.out.trans (hb7.mono B6.out.size))
          clear hb7
          go_wp2_with fail
          refine (HBK.out _ J7.out I7.out).mono ?_
          rintro e w8 ⟨rfl, hb8⟩
          have B8 := Lib.hid (B7.out.trans (hb8.mono B7.out.size))
          clear hb8
          go_wp2_with (go_at_call 17; refine (aliveR_any _).mono ?_; rintro e w' ⟨rfl, rfl⟩)
          go_ret
          exact ⟨rfl, Q3.out.trans (B8.out.mono Q3.out.size)⟩
        · have hzt : (nn == 0) = false := by simp [hz0]
          have HEQ : Hid (¬ xs = ys) := Lib.hid (fun e => hz0 (HZ.out.2 e))
          clear hz0
          go_wp2_with fail
          refine (sameTexts_any _ _ xs ys _ I6.out J6.out).mono ?_
          rintro e w7 ⟨rfl, hb7⟩
          rw [decide_eq_false HEQ.out]
          have I7 := Lib.hid (I6.out.below hb7)
          have J7 := Lib.hid (J6.out.below hb7)
          have B7 := Lib.hid (B6.out.trans (hb7.mono B6.out.size))
          clear hb7
          go_wp2_with fail
          refine (HBK.out _ J7.out I7.out).mono ?_
          rintro e w8 ⟨rfl, hb8⟩
          have B8 := Lib.hid (B7.out.trans (hb8.mono B7.out.size))
          clear hb8
          go_wp2_with (go_at_call 17; refine (aliveR_any _).mono ?_; rintro e w' ⟨rfl, rfl⟩)
          go_ret
          exact ⟨rfl, Q3.out.trans (B8.out.mono Q3.out.size)⟩
    · by_cases hm0 : lenm = 0
      · subst hm0
        clear HROW hcm
        have HSW := Lib.hid (fun W hI => implSwap_any (.slice b xs.length c) xs HSX.out (0) 0 ((xs.length : Int) - 1) W hI)
        cases hok : swapOk xs (0) 0 ((xs.length : Int) - 1) with
        | false =>
          rw [hok, swapd_no hok] at HSW
          clear hok
          go_wp2_with fail
          refine (HSW.out _ I3.out).mono ?_
          rintro e w4 ⟨z, rfl, ho4, hb4⟩
          obtain ⟨az, cz, rfl, -, -, hI4⟩ := drawnR_form ho4
          have Z4 := Lib.hid hI4
          have HA1 := Lib.hid (fun W hI hJ => implChanges_any (.slice b xs.length c) (.slice az 0 cz) xs [] HSX.out short_nilC W hI hJ)
          have HA2 := Lib.hid (fun W hI hJ => implChanges_any (.slice az 0 cz) (.slice b2 ys.length c2) [] ys short_nilC HSY.out W hI hJ)
          rw [changes_nil1] at HA1
          rw [changes_nil2] at HA2
          have I4 := Lib.hid (I3.out.below hb4)
          have J4 := Lib.hid (J3.out.below hb4)
          have B4 := Lib.hid hb4
          clear ho4 hb4 hI4
          obtain ⟨aa, haa⟩ : ∃ aa : Int, aa = -1 := ⟨_, rfl⟩
          clear haa
          go_wp2_with fail
          refine (HA1.out _ I4.out Z4.out).mono ?_
          rintro e w5 ⟨rfl, hb5⟩
          have I5 := Lib.hid (I4.out.below hb5)
          have J5 := Lib.hid (J4.out.below hb5)
          have Z5 := Lib.hid (Z4.out.below hb5)
          have B5 := Lib.hid (B4.out.trans (hb5.mono B4.out.size))
          clear hb5
          go_wp2_with fail
          refine (HA2.out _ Z5.out J5.out).mono ?_
          rintro e w6 ⟨rfl, hb6⟩
          have I6 := Lib.hid (I5.out.below hb6)
          have J6 := Lib.hid (J5.out.below hb6)
          have B6 := Lib.hid (B5.out.trans (hb6.mono B5.out.size))
          clear hb6
          by_cases hz0 : nn = 0
          · have hzt : (nn == 0) = true := by simp [hz0]
            have HEQ : Hid (xs = ys) := Lib.hid (HZ.out.1 hz0)
            clear hz0
            go_wp2_with fail
            refine (sameTexts_any _ _ xs ys _ I6.out J6.out).mono ?_
            rintro e w7 ⟨rfl, hb7⟩
            rw [decide_eq_true HEQ.out]
            have I7 := Lib.hid (I6.out.below hb7)
            have J7 := Lib.hid (J6.out.below hb7)
            have B7 := Lib.hid (B6.out.trans (hb7.mono B6.out.size))
            clear hb7
            go_wp2_with fail
            refine (HBK.out _ J7.out I7.out).mono ?_
            rintro e w8 ⟨rfl, hb8⟩
            have B8 := Lib.hid (B7.out.trans (hb8.mono B7.out.size))
            clear hb8
            go_wp2_with (go_at_call 17; refine (aliveR_any _).mono ?_; rintro e w' ⟨rfl, rfl⟩)
            go_ret
            exact ⟨rfl, Q3.out.trans (B8.out.mono Q3.out.size)⟩
          · have hzt : (nn == 0) = false := by simp [hz0]
            have HEQ : Hid (¬ xs = ys) := Lib.hid (fun e => hz0 (HZ.out.2 e))
            clear hz0
            go_wp2_with fail
            refine (sameTexts_any _ _ xs ys _ I6.out J6.out).mono ?_
            rintro e w7 ⟨rfl, hb7⟩
            rw [decide_eq_false HEQ.out]
            have I7 := Lib.hid (I6.out.below hb7)
            have J7 := Lib.hid (J6.out.below hb7)
            have B7 := Lib.hid (B6.out.trans (hb7.mono B6.out.size))
            clear hb7
            go_wp2_with fail
            refine (HBK.out _ J7.out I7.out).mono ?_
            rintro e w8 ⟨rfl, hb8⟩
            have B8 := Lib.hid (B7.out.trans (hb8.mono B7.out.size))
            clear hb8
            go_wp2_with (go_at_call 17; refine (aliveR_any _).mono ?_; rintro e w' ⟨rfl, rfl⟩)
            go_ret
            exact ⟨rfl, Q3.out.trans (B8.out.mono Q3.out.size)⟩
        | true =>
          have hsc := HSC.out _ _ _ hok
          have HZS := Lib.hid (HSS.out _ _ _ hok)
          rw [hok] at HSW
          clear hok
          generalize swapd xs (0) 0 ((xs.length : Int) - 1) = zs at *
          generalize hca : changesOf xs zs = ca at *
          generalize hcb : changesOf zs ys = cb at *
          go_wp2_with fail
          refine (HSW.out _ I3.out).mono ?_
          rintro e w4 ⟨z, rfl, ho4, hb4⟩
          obtain ⟨az, cz, rfl, -, -, hI4⟩ := drawnR_form ho4
          have Z4 := Lib.hid hI4
          have HA1 := Lib.hid (fun W hI hJ => implChanges_any (.slice b xs.length c) (.slice az zs.length cz) xs zs HSX.out HZS.out W hI hJ)
          have HA2 := Lib.hid (fun W hI hJ => implChanges_any (.slice az zs.length cz) (.slice b2 ys.length c2) zs ys HZS.out HSY.out W hI hJ)
          rw [hca] at HA1
          rw [hcb] at HA2
          have hwc : IntKind.i64.wrap (ca + cb) = ca + cb := IntWalk.i64_in _ (by omega)
          have hle1 : decide (nn ≤ ca + cb) = true := decide_eq_true (by omega)
          have hle2 : decide (ca ≤ 2) = true := decide_eq_true (by omega)
          have I4 := Lib.hid (I3.out.below hb4)
          have J4 := Lib.hid (J3.out.below hb4)
          have B4 := Lib.hid hb4
          clear ho4 hb4 hI4 hca hcb
          go_wp2_with fail
          refine (HA1.out _ I4.out Z4.out).mono ?_
          rintro e w5 ⟨rfl, hb5⟩
          have I5 := Lib.hid (I4.out.below hb5)
          have J5 := Lib.hid (J4.out.below hb5)
          have Z5 := Lib.hid (Z4.out.below hb5)
          have B5 := Lib.hid (B4.out.trans (hb5.mono B4.out.size))
          clear hb5
          go_wp2_with fail
          refine (HA2.out _ Z5.out J5.out).mono ?_
          rintro e w6 ⟨rfl, hb6⟩
          have I6 := Lib.hid (I5.out.below hb6)
          have J6 := Lib.hid (J5.out.below hb6)
          have B6 := Lib.hid (B5.out.trans (hb6.mono B5.out.size))
          clear hb6
          by_cases hz0 : nn = 0
          · have hzt : (nn == 0) = true := by simp [hz0]
            have HEQ : Hid (xs = ys) := Lib.hid (HZ.out.1 hz0)
            clear hz0
            go_wp2_with fail
            refine (sameTexts_any _ _ xs ys _ I6.out J6.out).mono ?_
            rintro e w7 ⟨rfl, hb7⟩
            rw [decide_eq_true HEQ.out]
            have I7 := Lib.hid (I6.out.below hb7)
            have J7 := Lib.hid (J6.out.below hb7)
            have B7 := Lib.hid (B6.out.trans (hb7.mono B6.out.size))
            clear hb7
            go_wp2_with fail
            refine (HBK.out _ J7.out I7.out).mono ?_
            rintro e w8 ⟨rfl, hb8⟩
            have B8 := Lib.hid (B7.out.trans (hb8.mono B7.out.size))
            clear hb8
            go_wp2_with (go_at_call 17; refine (aliveR_any _).mono ?_; rintro e w' ⟨rfl, rfl⟩)
            go_ret
            exact ⟨rfl, Q3.out.trans (B8.out.mono Q3.out.size)⟩
          · have hzt : (nn == 0) = false := by simp [hz0]
            have HEQ : Hid (¬ xs = ys) := Lib.hid (fun e => hz0 (HZ.out.2 e))
            clear hz0
            go_wp2_with fail
            refine (sameTexts_any _ _ xs ys _ I6.out J6.out).mono ?_
            rintro e w7 ⟨rfl, hb7⟩
            rw [decide_eq_false HEQ.out]
            have I7 := Lib.hid (I6.out.below hb7)
            have J7 := Lib.hid (J6.out.below hb7)
            have B7 := Lib.hid (B6.out.trans (hb7.mono B6.out.size))
            clear hb7
            go_wp2_with fail
            refine (HBK.out _ J7.out I7.out).mono ?_
            rintro e w8 ⟨rfl, hb8⟩
            have B8 := Lib.hid (B7.out.trans (hb8.mono B7.out.size))
            clear hb8
            go_wp2_with (go_at_call 17; refine (aliveR_any _).mono ?_; rintro e w' ⟨rfl, rfl⟩)
            go_ret
            exact ⟨rfl, Q3.out.trans (B8.out.mono Q3.out.size)⟩
      · have hmp : (0 : Int) < (lenm : Int) := by omega
        obtain ⟨hz256, hcz⟩ := hcm 0 (by omega)
        have cz := ((Q3.out.cell (p := ⟨gm, om, none⟩) hgm)).trans hcz
        have hwz : IntKind.i64.wrap ((zf 0 : Nat) : Int) = ((zf 0 : Nat) : Int) := IntWalk.i64_in _ (by omega)
        have htm : ((zf 0 : Nat) : Int).tmod 7 = ((zf 0 : Nat) : Int) % 7 := Int.tmod_eq_emod_of_nonneg (by omega)
        clear HROW hcm hcz
        generalize hzf : ((zf 0 : Nat) : Int) = zz at *
        have HSW := Lib.hid (fun W hI => implSwap_any (.slice b xs.length c) xs HSX.out (zz % 7) 0 ((xs.length : Int) - 1) W hI)
        cases hok : swapOk xs (zz % 7) 0 ((xs.length : Int) - 1) with
        | false =>
          rw [hok, swapd_no hok] at HSW
          clear hok
          go_wp2_with fail
          refine (HSW.out _ I3.out).mono ?_
          rintro e w4 ⟨z, rfl, ho4, hb4⟩
          obtain ⟨az, cz, rfl, -, -, hI4⟩ := drawnR_form ho4
          have Z4 := Lib.hid hI4
          have HA1 := Lib.hid (fun W hI hJ => implChanges_any (.slice b xs.length c) (.slice az 0 cz) xs [] HSX.out short_nilC W hI hJ)
          have HA2 := Lib.hid (fun W hI hJ => implChanges_any (.slice az 0 cz) (.slice b2 ys.length c2) [] ys short_nilC HSY.out W hI hJ)
          rw [changes_nil1] at HA1
          rw [changes_nil2] at HA2
          have I4 := Lib.hid (I3.out.below hb4)
          have J4 := Lib.hid (J3.out.below hb4)
          have B4 := Lib.hid hb4
          clear ho4 hb4 hI4
          obtain ⟨aa, haa⟩ : ∃ aa : Int, aa = -1 := ⟨_, rfl⟩
          clear haa
          go_wp2_with fail
          refine (HA1.out _ I4.out Z4.out).mono ?_
          rintro e w5 ⟨rfl, hb5⟩
          have I5 := Lib.hid (I4.out.below hb5)
          have J5 := Lib.hid (J4.out.below hb5)
          have Z5 := Lib.hid (Z4.out.below hb5)
          have B5 := Lib.hid (B4.out.trans (hb5.mono B4.out.size))
          clear hb5
          go_wp2_with fail
          refine (HA2.out _ Z5.out J5.out).mono ?_
          rintro e w6 ⟨rfl, hb6⟩
          have I6 := Lib.hid (I5.out.below hb6)
          have J6 := Lib.hid (J5.out.below hb6)
          have B6 := Lib.hid (B5.out.trans (hb6.mono B5.out.size))
          clear hb6
          by_cases hz0 : nn = 0
          · have hzt : (nn == 0) = true := by simp [hz0]
            have HEQ : Hid (xs = ys) := Lib.hid (HZ.out.1 hz0)
            clear hz0
            go_wp2_with fail
            refine (sameTexts_any _ _ xs ys _ I6.out J6.out).mono ?_
            rintro e w7 ⟨rfl, hb7⟩
            rw [decide_eq_true HEQ.out]
            have I7 := Lib.hid (I6.out.below hb7)
            have J7 := Lib.hid (J6.out.below hb7)
            have B7 := Lib.hid (B6.out.trans (hb7.mono B6.out.size))
            clear hb7
            go_wp2_with fail
            refine (HBK.out _ J7.out I7.out).mono ?_
            rintro e w8 ⟨rfl, hb8⟩
            have B8 := Lib.hid (B7.out.trans (hb8.mono B7.out.size))
            clear hb8
            go_wp2_with (go_at_call 17; refine (aliveR_any _).mono ?_; rintro e w' ⟨rfl, rfl⟩)
            go_ret
            exact ⟨rfl, Q3.out.trans (B8.out.mono Q3.out.size)⟩
          · have hzt : (nn == 0) = false := by simp [hz0]
            have HEQ : Hid (¬ xs = ys) := Lib.hid (fun e => hz0 (HZ.out.2 e))
            clear hz0
            go_wp2_with fail
            refine (sameTexts_any _ _ xs ys _ I6.out J6.out).mono ?_
            rintro e w7 ⟨rfl, hb7⟩
            rw [decide_eq_false HEQ.out]
            have I7 := Lib.hid (I6.out.below hb7)
            have J7 := Lib.hid (J6.out.below hb7)
            have B7 := Lib.hid (B6.out.trans (hb7.mono B6.out.size))
            clear hb7
            go_wp2_with fail
            refine (HBK.out _ J7.out I7.out).mono ?_
            rintro e w8 ⟨rfl, hb8⟩
            have B8 := Lib.hid (B7.out.trans (hb8.mono B7.out.size))
            clear hb8
            go_wp2_with (go_at_call 17; refine (aliveR_any _).mono ?_; rintro e w' ⟨rfl, rfl⟩)
            go_ret
            exact ⟨rfl, Q3.out.trans (B8.out.mono Q3.out.size)⟩
        | true =>
          have hsc := HSC.out _ _ _ hok
          have HZS := Lib.hid (HSS.out _ _ _ hok)
          rw [hok] at HSW
          clear hok
          generalize swapd xs (zz % 7) 0 ((xs.length : Int) - 1) = zs at *
          generalize hca : changesOf xs zs = ca at *
          generalize hcb : changesOf zs ys = cb at *
          go_wp2_with fail
          refine (HSW.out _ I3.out).mono ?_
          rintro e w4 ⟨z, rfl, ho4, hb4⟩
          obtain ⟨az, cz, rfl, -, -, hI4⟩ := drawnR_form ho4
          have Z4 := Lib.hid hI4
          have HA1 := Lib.hid (fun W hI hJ => implChanges_any (.slice b xs.length c) (.slice az zs.length cz) xs zs HSX.out HZS.out W hI hJ)
          have HA2 := Lib.hid (fun W hI hJ => implChanges_any (.slice az zs.length cz) (.slice b2 ys.length c2) zs ys HZS.out HSY.out W hI hJ)
          rw [hca] at HA1
          rw [hcb] at HA2
          have hwc : IntKind.i64.wrap (ca + cb) = ca + cb := IntWalk.i64_in _ (by omega)
          have hle1 : decide (nn ≤ ca + cb) = true := decide_eq_true (by omega)
          have hle2 : decide (ca ≤ 2) = true := decide_eq_true (by omega)
          have I4 := Lib.hid (I3.out.below hb4)
          have J4 := Lib.hid (J3.out.below hb4)
          have B4 := Lib.hid hb4
          clear ho4 hb4 hI4 hca hcb
          go_wp2_with fail
          refine (HA1.out _ I4.out Z4.out).mono ?_
          rintro e w5 ⟨rfl, hb5⟩
          have I5 := Lib.hid (I4.out.below hb5)
          have J5 := Lib.hid (J4.out.below hb5)
          have Z5 := Lib.hid (Z4.out.below hb5)
          have B5 := Lib.hid (B4.out.trans (hb5.mono B4.out.size))
          clear hb5
          go_wp2_with fail
          refine (HA2.out _ Z5.out J5.out).mono ?_
          rintro e w6 ⟨rfl, hb6⟩
          have I6 := Lib.hid (I5.out.below hb6)
          have J6 := Lib.hid (J5.out.below hb6)
          have B6 := Lib.hid (B5.out.trans (hb6.mono B5.out.size))
          clear hb6
          by_cases hz0 : nn = 0
          · have hzt : (nn == 0) = true := by simp [hz0]
            have HEQ : Hid (xs = ys) := Lib.hid (HZ.out.1 hz0)
            clear hz0
            go_wp2_with fail
            refine (sameTexts_any _ _ xs ys _ I6.out J6.out).mono ?_
            rintro e w7 ⟨rfl, hb7⟩
            rw [decide_eq_true HEQ.out]
            have I7 := Lib.hid (I6.out.below hb7)
            have J7 := Lib.hid (J6.out.below hb7)
            have B7 := Lib.hid (B6.out.trans (hb7.mono B6.out.size))
            clear hb7
            go_wp2_with fail
            refine (HBK.out _ J7.out I7.out).mono ?_
            rintro e w8 ⟨rfl, hb8⟩
            have B8 := Lib.hid (B7.out.trans (hb8.mono B7.out.size))
            clear hb8
            go_wp2_with (go_at_call 17; refine (aliveR_any _).mono ?_; rintro e w' ⟨rfl, rfl⟩)
            go_ret
            exact ⟨rfl, Q3.out.trans (B8.out.mono Q3.out.size)⟩
          · have hzt : (nn == 0) = false := by simp [hz0]
            have HEQ : Hid (¬ xs = ys) := Lib.hid (fun e => hz0 (HZ.out.2 e))
            clear hz0
            go_wp2_with fail
            refine (sameTexts_any _ _ xs ys _ I6.out J6.out).mono ?_
            rintro e w7 ⟨rfl, hb7⟩
            rw [decide_eq_false HEQ.out]
            have I7 := Lib.hid (I6.out.below hb7)
            have J7 := Lib.hid (J6.out.below hb7)
            have B7 := Lib.hid (B6.out.trans (hb7.mono B6.out.size))
            clear hb7
            go_wp2_with fail
            refine (HBK.out _ J7.out I7.out).mono ?_
            rintro e w8 ⟨rfl, hb8⟩
            have B8 := Lib.hid (B7.out.trans (hb8.mono B7.out.size))
            clear hb8
            go_wp2_with (go_at_call 17; refine (aliveR_any _).mono ?_; rintro e w' ⟨rfl, rfl⟩)
            go_ret
            exact ⟨rfl, Q3.out.trans (B8.out.mono Q3.out.size)⟩
end Go.Proofs.Ytggohgkjdnnndaa
