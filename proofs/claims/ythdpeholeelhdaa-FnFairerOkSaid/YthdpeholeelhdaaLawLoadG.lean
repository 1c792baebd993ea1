/- The walk of FnFairerOk: true at every code. Written by mklawloadg.py. No condition. -/
import Derived.Test.YthdpeholeelhdaaLawLoadD
import Derived.Test.YthdpeholeelhdaaLoadDraw3
namespace Go.Proofs.Ythdpeholeelhdaa
open Go.RowKit

set_option maxHeartbeats 6400000 in
theorem lawFairerOk_walk {w : World} (a : Option Addr) (len cap : Nat) (zs : List Int) (h : IsRow .u8 w a len cap zs) :
    Calls Try.prog 7 #[.slice a len cap] w fun e w' => e = .returned (.bool true) ∧ Below w.heap.size w w' := by
  have HD := Lib.hid (drawFairerOk_any a len cap zs w h)
  have hl := rowL_len h
  clear h
  by_cases hbig : 1048576 < len
  · go_enter Try.func7, Try.ntmps7
    go_wp2_with fail
    go_ret
    exact ⟨rfl, Below.refl _ _⟩
  go_enter Try.func7, Try.ntmps7
  go_wp2_with fail
  refine HD.out.mono ?_
  clear HD
  rintro e w1 ⟨xs, ys, v, u, rfl, hs, hsy, ho, hoy, hb⟩
  obtain ⟨b, c, rfl, hc1, hc2, hI⟩ := drawn_form ho
  obtain ⟨b', c', rfl, hc1', hc2', hI'⟩ := drawn_form hoy
  have hx7 := hs.1
  have hy7 := hsy.1
  have I1 := Lib.hid hI
  have J1 := Lib.hid hI'
  have Q1 := Lib.hid hb
  clear hI hI' ho hoy hb hs hsy
  go_wp2_with fail
  refine (implFairerOk_any _ _ xs ys w1 I1.out J1.out).mono ?_
  rintro e w2 ⟨rfl, hb2⟩
  have I2 := Lib.hid (I1.out.below hb2)
  have J2 := Lib.hid (J1.out.below hb2)
  have Q2 := Lib.hid (Q1.out.trans (hb2.mono Q1.out.size))
  clear hb2 I1 J1 Q1
  have hne : (fairB xs ys != fairB xs ys) = false := by simp
  go_wp2_with fail
  refine (specFairerOk_any _ _ xs ys w2 I2.out J2.out).mono ?_
  rintro e w3 ⟨rfl, hb3⟩
  have I3 := Lib.hid (I2.out.below hb3)
  have J3 := Lib.hid (J2.out.below hb3)
  have Q3 := Lib.hid (Q2.out.trans (hb3.mono Q2.out.size))
  clear hb3 I2 J2 Q2
  obtain ⟨ok, hok⟩ : ∃ ok, fairB xs ys = ok := ⟨_, rfl⟩
  have HOK := Lib.hid hok
  rw [hok] at hne ⊢
  clear hok
  go_wp2_with fail
  refine (specLoadsOk_c _ xs w3 I3.out).mono ?_
  rintro e w4 ⟨rfl, hb4⟩
  have I4 := Lib.hid (I3.out.below hb4)
  have J4 := Lib.hid (J3.out.below hb4)
  have Q4 := Lib.hid (Q3.out.trans (hb4.mono Q3.out.size))
  clear hb4 I3 J3 Q3
  cases hox : loadsOk xs with
  | false =>
    obtain rfl : ok = false := by rw [← HOK.out]; simp [fairB, hox]
    clear hox HOK
    go_wp2_with (go_at_call 22; refine (aliveL_any _).mono ?_; rintro e w' ⟨rfl, rfl⟩)
    go_ret
    exact ⟨rfl, Q4.out⟩
  | true =>
    have HOX := Lib.hid hox
    clear hox
    go_wp2_with fail
    refine (specLoadsOk_c _ ys w4 J4.out).mono ?_
    rintro e w5 ⟨rfl, hb5⟩
    have I5 := Lib.hid (I4.out.below hb5)
    have J5 := Lib.hid (J4.out.below hb5)
    have Q5 := Lib.hid (Q4.out.trans (hb5.mono Q4.out.size))
    clear hb5 I4 J4 Q4
    cases hoy : loadsOk ys with
    | false =>
      obtain rfl : ok = false := by rw [← HOK.out]; simp [fairB, hoy]
      clear hoy HOK
      go_wp2_with (go_at_call 22; refine (aliveL_any _).mono ?_; rintro e w' ⟨rfl, rfl⟩)
      go_ret
      exact ⟨rfl, Q5.out⟩
    | true =>
      have HOY := Lib.hid hoy
      have h1 := (loadsOk_iff.1 HOX.out).1
      have h6 := (loadsOk_iff.1 HOX.out).2.1
      have HB := Lib.hid (loadsOk_iff.1 HOX.out).2.2
      have htt := tot_bd HB.out xs.length
      rw [List.take_length] at htt
      have HAA := Lib.hid (fairB_refl HOX.out)
      clear hoy
      have hI5 := I5.out
      obtain ⟨ai, ci, hsl, _, _, hcell⟩ := hI5
      simp only [Value.slice.injEq, true_and] at hsl
      obtain ⟨rfl, rfl⟩ := hsl
      obtain ⟨g, off, rfl, hgl, hc⟩ := hcell.resolve_left (fun h => by rw [h] at h1; exact absurd h1 (by simp))
      have HCC := Lib.hid hc
      clear hc hcell hgl
      go_wp2_with fail
      go_loop [6, 7] (fun s i => ∃ (k : Nat) (T : Int), k ≤ xs.length ∧ i = .int .i64 k ∧ s = .int .i64 T ∧ Hid (T = tot (xs.take k))) (fun _ i => xs.length - (intOf i).toNat)
      case atStart => exact ⟨0, 0, Nat.zero_le _, rfl, rfl, Lib.hid rfl⟩
      case round =>
        obtain ⟨k, T, hk, rfl, rfl, HT⟩ := hrel
        have hT := tot_bd HB.out k
        rw [← HT.out] at hT
        by_cases hlt : k < xs.length
        · have hcx := HCC.out k hlt
          have hc0 := HB.out xs[k] (List.getElem_mem hlt)
          have HS := Lib.hid (tot_snoc xs k hlt)
          generalize xs[k] = x at hcx HS hc0
          go_wp2
          go_round
          case rel => exact ⟨k + 1, T + x, by omega, by go_num, by go_num, Lib.hid (by rw [HS.out, HT.out])⟩
          case measure => simp [intOf]; omega
        · have hkn : k = xs.length := by omega
          have HTD : Hid (T = tot xs) := by
            have : T = tot xs := by rw [HT.out, hkn, List.take_length]
            exact Lib.hid this
          clear HT hT hkn
          have hTD := HTD.out
          rw [← hTD] at htt
          clear hTD
          go_wp2_with fail
          refine (implFairestOf_any xs.length T w5).mono ?_
          rintro e w6 ⟨v6, rfl, ho6, hb6⟩
          have I6 := Lib.hid (I5.out.below hb6)
          have J6 := Lib.hid (J5.out.below hb6)
          have Q6 := Lib.hid (Q5.out.trans (hb6.mono Q5.out.size))
          clear hb6 I5 J5 Q5
          have HBEST : Hid (T ≤ 30 → fairest xs.length T = even xs.length (tot xs) ∧ fairB (even xs.length (tot xs)) xs = true) := by
            have : T ≤ 30 → fairest xs.length T = even xs.length (tot xs) ∧ fairB (even xs.length (tot xs)) xs = true := fun h => by
              refine ⟨?_, (even_fair HOX.out (by rw [← HTD.out]; exact h)).2⟩
              rw [fairest_yes (by omega) (by omega) htt.1 h, Int.toNat_natCast, HTD.out]
            exact Lib.hid this
          by_cases hT30 : T ≤ 30
          · obtain ⟨hbe, hbf⟩ := HBEST.out hT30
            rw [hbe] at ho6
            have HBF := Lib.hid hbf
            have HEL := Lib.hid (even_length xs.length (tot xs))
            obtain ⟨g6, c6, rfl, hc61, hc62, -, -⟩ := owns_form ho6 HEL.out (by omega)
            have B6 := Lib.hid (IsInts.of_owns ho6)
            have hnz : ((xs.length : Int) == 0) = false := beq_false_of_ne (by omega)
            clear ho6 hbe hbf HBEST
            cases ok with
            | false =>
              go_wp2_with fail
              refine (implFairerOk_any _ _ (even xs.length (tot xs)) xs w6 B6.out I6.out).mono ?_
              rintro e w7 ⟨rfl, hb7⟩
              rw [HBF.out]
              have I7 := Lib.hid (I6.out.below hb7)
              have J7 := Lib.hid (J6.out.below hb7)
              have B7 := Lib.hid (B6.out.below hb7)
              have Q7 := Lib.hid (Q6.out.trans (hb7.mono Q6.out.size))
              clear hb7 I6 J6 Q6 B6
              go_wp2_with fail
              refine (implFairerOk_any _ _ xs xs w7 I7.out I7.out).mono ?_
              rintro e w8 ⟨rfl, hb8⟩
              rw [HAA.out]
              have Q8 := Lib.hid (Q7.out.trans (hb8.mono Q7.out.size))
              clear hb8
              go_wp2
              go_ret
              exact ⟨by first | rfl | exact ret_bool (by simp [hq, hp]) | exact ret_bool (by simp), Q8.out⟩
            | true =>
              have hq := fairB_sqs HOK.out
              have hp := fairB_spread HOK.out
              have HSQ1 := Lib.hid (sqsOf_yes HOX.out)
              have HSQ2 := Lib.hid (sqsOf_yes HOY.out)
              have HBOTH := Lib.hid (fun h => fairB_both HOK.out h)
              have HSX := Lib.hid (sortedOf_yes HOX.out)
              obtain ⟨q1, hq1⟩ : ∃ q, sqs xs = q := ⟨_, rfl⟩
              obtain ⟨q2, hq2⟩ : ∃ q, sqs ys = q := ⟨_, rfl⟩
              obtain ⟨p1, hp1⟩ : ∃ q, spreadOf xs = q := ⟨_, rfl⟩
              obtain ⟨p2, hp2⟩ : ∃ q, spreadOf ys = q := ⟨_, rfl⟩
              have HSP1 := Lib.hid hp1
              have HSP2 := Lib.hid hp2
              rw [hq1, hq2] at hq
              rw [hp1, hp2] at hp
              rw [hq1] at HSQ1
              rw [hq2] at HSQ2
              clear hq1 hq2 hp1 hp2
              cases hr2 : fairB ys xs with
              | false =>
                have HR2 := Lib.hid hr2
                clear hr2
                go_wp2_with fail
                refine (implSquaresOf_any _ xs w6 I6.out).mono ?_
                rintro e w7 ⟨rfl, hb7⟩
                rw [HSQ1.out]
                have I7 := Lib.hid (I6.out.below hb7)
                have J7 := Lib.hid (J6.out.below hb7)
                have B7 := Lib.hid (B6.out.below hb7)
                have Q7 := Lib.hid (Q6.out.trans (hb7.mono Q6.out.size))
                clear hb7 I6 J6 Q6 B6
                go_wp2_with fail
                refine (implSquaresOf_any _ ys w7 J7.out).mono ?_
                rintro e w8 ⟨rfl, hb8⟩
                rw [HSQ2.out]
                have I8 := Lib.hid (I7.out.below hb8)
                have J8 := Lib.hid (J7.out.below hb8)
                have B8 := Lib.hid (B7.out.below hb8)
                have Q8 := Lib.hid (Q7.out.trans (hb8.mono Q7.out.size))
                clear hb8 I7 J7 Q7 B7
                go_wp2_with fail
                refine (implSpreadOf_any _ xs w8 I8.out).mono ?_
                rintro e w9 ⟨rfl, hb9⟩
                rw [HSP1.out]
                have I9 := Lib.hid (I8.out.below hb9)
                have J9 := Lib.hid (J8.out.below hb9)
                have B9 := Lib.hid (B8.out.below hb9)
                have Q9 := Lib.hid (Q8.out.trans (hb9.mono Q8.out.size))
                clear hb9 I8 J8 Q8 B8
                go_wp2_with fail
                refine (implSpreadOf_any _ ys w9 J9.out).mono ?_
                rintro e w10 ⟨rfl, hb10⟩
                rw [HSP2.out]
                have I10 := Lib.hid (I9.out.below hb10)
                have J10 := Lib.hid (J9.out.below hb10)
                have B10 := Lib.hid (B9.out.below hb10)
                have Q10 := Lib.hid (Q9.out.trans (hb10.mono Q9.out.size))
                clear hb10 I9 J9 Q9 B9
                go_wp2_with fail
                refine (implFairerOk_any _ _ ys xs w10 J10.out I10.out).mono ?_
                rintro e w11 ⟨rfl, hb11⟩
                rw [HR2.out]
                have I11 := Lib.hid (I10.out.below hb11)
                have J11 := Lib.hid (J10.out.below hb11)
                have B11 := Lib.hid (B10.out.below hb11)
                have Q11 := Lib.hid (Q10.out.trans (hb11.mono Q10.out.size))
                clear hb11 I10 J10 Q10 B10
                go_wp2_with fail
                refine (implFairerOk_any _ _ (even xs.length (tot xs)) xs w11 B11.out I11.out).mono ?_
                rintro e w12 ⟨rfl, hb12⟩
                rw [HBF.out]
                have I12 := Lib.hid (I11.out.below hb12)
                have J12 := Lib.hid (J11.out.below hb12)
                have B12 := Lib.hid (B11.out.below hb12)
                have Q12 := Lib.hid (Q11.out.trans (hb12.mono Q11.out.size))
                clear hb12 I11 J11 Q11 B11
                go_wp2_with fail
                refine (implFairerOk_any _ _ xs xs w12 I12.out I12.out).mono ?_
                rintro e w13 ⟨rfl, hb13⟩
                rw [HAA.out]
                have Q13 := Lib.hid (Q12.out.trans (hb13.mono Q12.out.size))
                clear hb13
                go_wp2
                go_ret
                exact ⟨by first | rfl | exact ret_bool (by simp [hq, hp]) | exact ret_bool (by simp), Q13.out⟩
              | true =>
                have HR2 := Lib.hid hr2
                have HSY : Hid (sortedOf ys = sortD xs) := Lib.hid ((sortedOf_yes HOY.out).trans (HBOTH.out hr2).symm)
                clear hr2
                go_wp2_with fail
                refine (implSquaresOf_any _ xs w6 I6.out).mono ?_
                rintro e w7 ⟨rfl, hb7⟩
                rw [HSQ1.out]
                have I7 := Lib.hid (I6.out.below hb7)
                have J7 := Lib.hid (J6.out.below hb7)
                have B7 := Lib.hid (B6.out.below hb7)
                have Q7 := Lib.hid (Q6.out.trans (hb7.mono Q6.out.size))
                clear hb7 I6 J6 Q6 B6
                go_wp2_with fail
                refine (implSquaresOf_any _ ys w7 J7.out).mono ?_
                rintro e w8 ⟨rfl, hb8⟩
                rw [HSQ2.out]
                have I8 := Lib.hid (I7.out.below hb8)
                have J8 := Lib.hid (J7.out.below hb8)
                have B8 := Lib.hid (B7.out.below hb8)
                have Q8 := Lib.hid (Q7.out.trans (hb8.mono Q7.out.size))
                clear hb8 I7 J7 Q7 B7
                go_wp2_with fail
                refine (implSpreadOf_any _ xs w8 I8.out).mono ?_
                rintro e w9 ⟨rfl, hb9⟩
                rw [HSP1.out]
                have I9 := Lib.hid (I8.out.below hb9)
                have J9 := Lib.hid (J8.out.below hb9)
                have B9 := Lib.hid (B8.out.below hb9)
                have Q9 := Lib.hid (Q8.out.trans (hb9.mono Q8.out.size))
                clear hb9 I8 J8 Q8 B8
                go_wp2_with fail
                refine (implSpreadOf_any _ ys w9 J9.out).mono ?_
                rintro e w10 ⟨rfl, hb10⟩
                rw [HSP2.out]
                have I10 := Lib.hid (I9.out.below hb10)
                have J10 := Lib.hid (J9.out.below hb10)
                have B10 := Lib.hid (B9.out.below hb10)
                have Q10 := Lib.hid (Q9.out.trans (hb10.mono Q9.out.size))
                clear hb10 I9 J9 Q9 B9
                go_wp2_with fail
                refine (implFairerOk_any _ _ ys xs w10 J10.out I10.out).mono ?_
                rintro e w11 ⟨rfl, hb11⟩
                rw [HR2.out]
                have I11 := Lib.hid (I10.out.below hb11)
                have J11 := Lib.hid (J10.out.below hb11)
                have B11 := Lib.hid (B10.out.below hb11)
                have Q11 := Lib.hid (Q10.out.trans (hb11.mono Q10.out.size))
                clear hb11 I10 J10 Q10 B10
                go_wp2_with fail
                refine (implSorted_any _ xs w11 I11.out).mono ?_
                rintro e w12 ⟨sv, rfl, hos, hb12⟩
                rw [HSX.out] at hos
                have I12 := Lib.hid (I11.out.below hb12)
                have J12 := Lib.hid (J11.out.below hb12)
                have B12 := Lib.hid (B11.out.below hb12)
                have Q12 := Lib.hid (Q11.out.trans (hb12.mono Q11.out.size))
                clear hb12 I11 J11 Q11 B11
                have S12 := Lib.hid (IsInts.of_owns hos)
                clear hos
                go_wp2_with fail
                refine (implSorted_any _ ys w12 J12.out).mono ?_
                rintro e w13 ⟨tv, rfl, hot, hb13⟩
                rw [HSY.out] at hot
                have I13 := Lib.hid (I12.out.below hb13)
                have J13 := Lib.hid (J12.out.below hb13)
                have B13 := Lib.hid (B12.out.below hb13)
                have S13 := Lib.hid (S12.out.below hb13)
                have Q13 := Lib.hid (Q12.out.trans (hb13.mono Q12.out.size))
                clear hb13 I12 J12 Q12 B12 S12
                have T0 := Lib.hid (IsInts.of_owns hot)
                clear hot
                go_wp2_with fail
                refine (sameInts_any sv tv (sortD xs) (sortD xs) w13 S13.out T0.out).mono ?_
                rintro e w50 ⟨rfl, n50, rfl⟩
                rw [(beq_self_h (sortD xs)).out]
                have hd := below_drewN (Below.refl w13.heap.size w13) n50
                have I50 := Lib.hid (I13.out.below hd)
                have J50 := Lib.hid (J13.out.below hd)
                have B50 := Lib.hid (B13.out.below hd)
                have Q50 := Lib.hid (Q13.out.trans (hd.mono Q13.out.size))
                clear hd I13 J13 Q13 S13 T0 B13
                generalize w13.drewN n50 = w50 at *
                go_wp2_with fail
                refine (implFairerOk_any _ _ (even xs.length (tot xs)) xs w50 B50.out I50.out).mono ?_
                rintro e w51 ⟨rfl, hb51⟩
                rw [HBF.out]
                have I51 := Lib.hid (I50.out.below hb51)
                have J51 := Lib.hid (J50.out.below hb51)
                have B51 := Lib.hid (B50.out.below hb51)
                have Q51 := Lib.hid (Q50.out.trans (hb51.mono Q50.out.size))
                clear hb51 I50 J50 Q50 B50
                go_wp2_with fail
                refine (implFairerOk_any _ _ xs xs w51 I51.out I51.out).mono ?_
                rintro e w52 ⟨rfl, hb52⟩
                rw [HAA.out]
                have Q52 := Lib.hid (Q51.out.trans (hb52.mono Q51.out.size))
                clear hb52
                go_wp2
                go_ret
                exact ⟨by first | rfl | exact ret_bool (by simp [hq, hp]) | exact ret_bool (by simp), Q52.out⟩
          · have hbe : fairest xs.length T = [] := fairest_no (by omega)
            rw [hbe] at ho6
            obtain ⟨a6, c6, rfl⟩ := ownsRow_nilform ho6
            clear ho6 hbe HBEST
            cases ok with
            | false =>
              go_wp2_with fail
              refine (implFairerOk_any _ _ xs xs w6 I6.out I6.out).mono ?_
              rintro e w7 ⟨rfl, hb7⟩
              rw [HAA.out]
              have Q7 := Lib.hid (Q6.out.trans (hb7.mono Q6.out.size))
              clear hb7
              go_wp2
              go_ret
              exact ⟨by first | rfl | exact ret_bool (by simp [hq, hp]) | exact ret_bool (by simp), Q7.out⟩
            | true =>
              have hq := fairB_sqs HOK.out
              have hp := fairB_spread HOK.out
              have HSQ1 := Lib.hid (sqsOf_yes HOX.out)
              have HSQ2 := Lib.hid (sqsOf_yes HOY.out)
              have HBOTH := Lib.hid (fun h => fairB_both HOK.out h)
              have HSX := Lib.hid (sortedOf_yes HOX.out)
              obtain ⟨q1, hq1⟩ : ∃ q, sqs xs = q := ⟨_, rfl⟩
              obtain ⟨q2, hq2⟩ : ∃ q, sqs ys = q := ⟨_, rfl⟩
              obtain ⟨p1, hp1⟩ : ∃ q, spreadOf xs = q := ⟨_, rfl⟩
              obtain ⟨p2, hp2⟩ : ∃ q, spreadOf ys = q := ⟨_, rfl⟩
              have HSP1 := Lib.hid hp1
              have HSP2 := Lib.hid hp2
              rw [hq1, hq2] at hq
              rw [hp1, hp2] at hp
              rw [hq1] at HSQ1
              rw [hq2] at HSQ2
              clear hq1 hq2 hp1 hp2
              cases hr2 : fairB ys xs with
              | false =>
                have HR2 := Lib.hid hr2
                clear hr2
                go_wp2_with fail
                refine (implSquaresOf_any _ xs w6 I6.out).mono ?_
                rintro e w7 ⟨rfl, hb7⟩
                rw [HSQ1.out]
                have I7 := Lib.hid (I6.out.below hb7)
                have J7 := Lib.hid (J6.out.below hb7)
                have Q7 := Lib.hid (Q6.out.trans (hb7.mono Q6.out.size))
                clear hb7 I6 J6 Q6
                go_wp2_with fail
                refine (implSquaresOf_any _ ys w7 J7.out).mono ?_
                rintro e w8 ⟨rfl, hb8⟩
                rw [HSQ2.out]
                have I8 := Lib.hid (I7.out.below hb8)
                have J8 := Lib.hid (J7.out.below hb8)
                have Q8 := Lib.hid (Q7.out.trans (hb8.mono Q7.out.size))
                clear hb8 I7 J7 Q7
                go_wp2_with fail
                refine (implSpreadOf_any _ xs w8 I8.out).mono ?_
                rintro e w9 ⟨rfl, hb9⟩
                rw [HSP1.out]
                have I9 := Lib.hid (I8.out.below hb9)
                have J9 := Lib.hid (J8.out.below hb9)
                have Q9 := Lib.hid (Q8.out.trans (hb9.mono Q8.out.size))
                clear hb9 I8 J8 Q8
                go_wp2_with fail
                refine (implSpreadOf_any _ ys w9 J9.out).mono ?_
                rintro e w10 ⟨rfl, hb10⟩
                rw [HSP2.out]
                have I10 := Lib.hid (I9.out.below hb10)
                have J10 := Lib.hid (J9.out.below hb10)
                have Q10 := Lib.hid (Q9.out.trans (hb10.mono Q9.out.size))
                clear hb10 I9 J9 Q9
                go_wp2_with fail
                refine (implFairerOk_any _ _ ys xs w10 J10.out I10.out).mono ?_
                rintro e w11 ⟨rfl, hb11⟩
                rw [HR2.out]
                have I11 := Lib.hid (I10.out.below hb11)
                have J11 := Lib.hid (J10.out.below hb11)
                have Q11 := Lib.hid (Q10.out.trans (hb11.mono Q10.out.size))
                clear hb11 I10 J10 Q10
                go_wp2_with fail
                refine (implFairerOk_any _ _ xs xs w11 I11.out I11.out).mono ?_
                rintro e w12 ⟨rfl, hb12⟩
                rw [HAA.out]
                have Q12 := Lib.hid (Q11.out.trans (hb12.mono Q11.out.size))
                clear hb12
                go_wp2
                go_ret
                exact ⟨by first | rfl | exact ret_bool (by simp [hq, hp]) | exact ret_bool (by simp), Q12.out⟩
              | true =>
                have HR2 := Lib.hid hr2
                have HSY : Hid (sortedOf ys = sortD xs) := Lib.hid ((sortedOf_yes HOY.out).trans (HBOTH.out hr2).symm)
                clear hr2
                go_wp2_with fail
                refine (implSquaresOf_any _ xs w6 I6.out).mono ?_
                rintro e w7 ⟨rfl, hb7⟩
                rw [HSQ1.out]
                have I7 := Lib.hid (I6.out.below hb7)
                have J7 := Lib.hid (J6.out.below hb7)
                have Q7 := Lib.hid (Q6.out.trans (hb7.mono Q6.out.size))
                clear hb7 I6 J6 Q6
                go_wp2_with fail
                refine (implSquaresOf_any _ ys w7 J7.out).mono ?_
                rintro e w8 ⟨rfl, hb8⟩
                rw [HSQ2.out]
                have I8 := Lib.hid (I7.out.below hb8)
                have J8 := Lib.hid (J7.out.below hb8)
                have Q8 := Lib.hid (Q7.out.trans (hb8.mono Q7.out.size))
                clear hb8 I7 J7 Q7
                go_wp2_with fail
                refine (implSpreadOf_any _ xs w8 I8.out).mono ?_
                rintro e w9 ⟨rfl, hb9⟩
                rw [HSP1.out]
                have I9 := Lib.hid (I8.out.below hb9)
                have J9 := Lib.hid (J8.out.below hb9)
                have Q9 := Lib.hid (Q8.out.trans (hb9.mono Q8.out.size))
                clear hb9 I8 J8 Q8
                go_wp2_with fail
                refine (implSpreadOf_any _ ys w9 J9.out).mono ?_
                rintro e w10 ⟨rfl, hb10⟩
                rw [HSP2.out]
                have I10 := Lib.hid (I9.out.below hb10)
                have J10 := Lib.hid (J9.out.below hb10)
                have Q10 := Lib.hid (Q9.out.trans (hb10.mono Q9.out.size))
                clear hb10 I9 J9 Q9
                go_wp2_with fail
                refine (implFairerOk_any _ _ ys xs w10 J10.out I10.out).mono ?_
                rintro e w11 ⟨rfl, hb11⟩
                rw [HR2.out]
                have I11 := Lib.hid (I10.out.below hb11)
                have J11 := Lib.hid (J10.out.below hb11)
                have Q11 := Lib.hid (Q10.out.trans (hb11.mono Q10.out.size))
                clear hb11 I10 J10 Q10
                go_wp2_with fail
                refine (implSorted_any _ xs w11 I11.out).mono ?_
                rintro e w12 ⟨sv, rfl, hos, hb12⟩
                rw [HSX.out] at hos
                have I12 := Lib.hid (I11.out.below hb12)
                have J12 := Lib.hid (J11.out.below hb12)
                have Q12 := Lib.hid (Q11.out.trans (hb12.mono Q11.out.size))
                clear hb12 I11 J11 Q11
                have S12 := Lib.hid (IsInts.of_owns hos)
                clear hos
                go_wp2_with fail
                refine (implSorted_any _ ys w12 J12.out).mono ?_
                rintro e w13 ⟨tv, rfl, hot, hb13⟩
                rw [HSY.out] at hot
                have I13 := Lib.hid (I12.out.below hb13)
                have J13 := Lib.hid (J12.out.below hb13)
                have S13 := Lib.hid (S12.out.below hb13)
                have Q13 := Lib.hid (Q12.out.trans (hb13.mono Q12.out.size))
                clear hb13 I12 J12 Q12 S12
                have T0 := Lib.hid (IsInts.of_owns hot)
                clear hot
                go_wp2_with fail
                refine (sameInts_any sv tv (sortD xs) (sortD xs) w13 S13.out T0.out).mono ?_
                rintro e w50 ⟨rfl, n50, rfl⟩
                rw [(beq_self_h (sortD xs)).out]
                have hd := below_drewN (Below.refl w13.heap.size w13) n50
                have I50 := Lib.hid (I13.out.below hd)
                have J50 := Lib.hid (J13.out.below hd)
                have Q50 := Lib.hid (Q13.out.trans (hd.mono Q13.out.size))
                clear hd I13 J13 Q13 S13 T0
                generalize w13.drewN n50 = w50 at *
                go_wp2_with fail
                refine (implFairerOk_any _ _ xs xs w50 I50.out I50.out).mono ?_
                rintro e w51 ⟨rfl, hb51⟩
                rw [HAA.out]
                have Q51 := Lib.hid (Q50.out.trans (hb51.mono Q50.out.size))
                clear hb51
                go_wp2
                go_ret
                exact ⟨by first | rfl | exact ret_bool (by simp [hq, hp]) | exact ret_bool (by simp), Q51.out⟩
end Go.Proofs.Ythdpeholeelhdaa
