/- The walk of FnGivenOn: true at every code. No condition. -/
import Derived.Test.YthdpeholeelhdaaLawLoadD
import Derived.Test.YthdpeholeelhdaaLoadDraw2
namespace Go.Proofs.Ythdpeholeelhdaa
open Go.RowKit

set_option maxHeartbeats 6400000 in
theorem lawGivenOn_walk {w : World} (a : Option Addr) (len cap : Nat) (zs : List Int) (h : IsRow .u8 w a len cap zs) :
    Calls Try.prog 8 #[.slice a len cap] w fun e w' => e = .returned (.bool true) ∧ Below w.heap.size w w' := by
  have HD := Lib.hid (drawGivenOn_any a len cap zs w h)
  have hl := rowL_len h
  clear h
  by_cases hbig : 1048576 < len
  · go_enter Try.func8, Try.ntmps8
    go_wp2_with fail
    go_ret
    exact ⟨rfl, Below.refl _ _⟩
  go_enter Try.func8, Try.ntmps8
  go_wp2_with fail
  refine HD.out.mono ?_
  clear HD
  rintro e w1 ⟨xs, v, f, t, rfl, hs, hf1, hf2, ht1, ht2, ho, hb⟩
  obtain ⟨b, c, rfl, hc1, hc2, hI⟩ := drawn_form ho
  have hx7 := hs.1
  have I1 := Lib.hid hI
  have Q1 := Lib.hid hb
  clear hI ho hb hs
  have HC1 := Lib.hid (implGivenOn_any _ xs f t w1 I1.out)
  cases hg : givOk xs f t with
  | false =>
    have HG := Lib.hid hg
    clear hg
    go_wp2_with fail
    refine HC1.out.mono ?_
    rintro e w2 hgp
    obtain ⟨a2, c2, rfl, hi2, hb2⟩ := hgp.none HG.out
    have I2 := Lib.hid (I1.out.below hb2)
    have X2 := Lib.hid hi2
    have Q2 := Lib.hid (Q1.out.trans (hb2.mono Q1.out.size))
    clear hi2 hb2 hgp HC1
    go_wp2_with fail
    refine (specGivenOn_any _ xs f t w2 I2.out).mono ?_
    rintro e w3 hgp
    obtain ⟨a3, c3, rfl, hi3, hb3⟩ := hgp.none HG.out
    have X3 := Lib.hid (X2.out.below hb3)
    have Y3 := Lib.hid hi3
    have Q3 := Lib.hid (Q2.out.trans (hb3.mono Q2.out.size))
    clear hi3 hb3 hgp
    go_wp2_with fail
    refine (sameInts_any _ _ [] [] w3 X3.out Y3.out).mono ?_
    rintro e w4 ⟨rfl, n4, rfl⟩
    rw [(beq_self_h []).out]
    go_wp2_with (go_at_call 22; refine (aliveL_any _).mono ?_; rintro e w' ⟨rfl, rfl⟩)
    go_ret
    exact ⟨rfl, below_drewN Q3.out n4⟩
  | true =>
    have HG := Lib.hid hg
    have hgi := givOk_iff.1 hg
    obtain ⟨F, rfl⟩ : ∃ F : Nat, f = F := ⟨f.toNat, by omega⟩
    obtain ⟨T, rfl⟩ : ∃ T : Nat, t = T := ⟨t.toNat, by omega⟩
    have hF : F < xs.length := by omega
    have hT : T < xs.length := by omega
    have hB := givOk_back hg
    have HBK := Lib.hid hB.1
    have HBR := Lib.hid hB.2
    have HOKX := Lib.hid hgi.1
    have HOKR := Lib.hid hgi.2.2.2.2
    have HFR := Lib.hid (giv_fair hg (by simpa using hF) (by simpa using hT))
    have hst := giv_steps hg
    have hn0 := steps_nonneg hgi.1
    have hm0 := steps_nonneg hgi.2.2.2.2
    have hF' : (F : Int) < xs.length := by omega
    have hT' : (T : Int) < xs.length := by omega
    have HRL := Lib.hid (givRow_length xs F T)
    have h6 := (loadsOk_iff.1 hgi.1).2.1
    have h1 := (loadsOk_iff.1 hgi.1).1
    have HXB := Lib.hid (loadsOk_iff.1 hgi.1).2.2
    simp only [Int.toNat_natCast] at hst hm0 HBR HFR HBK HOKR
    clear hg hgi hB
    have hI1 := I1.out
    obtain ⟨ai, ci, hsl, _, _, hcell⟩ := hI1
    simp only [Value.slice.injEq, true_and] at hsl
    obtain ⟨rfl, rfl⟩ := hsl
    obtain ⟨g, off, rfl, hgl, hc⟩ := hcell.resolve_left (fun h => by rw [h] at h1; exact absurd h1 (by simp))
    have d1 := hc F hF
    have d2 := hc T hT
    have DD := Lib.hid (And.intro hgl (And.intro d1 d2))
    clear hc hcell hgl d1 d2
    go_wp2_with fail
    refine HC1.out.mono ?_
    rintro e w2 hgp
    obtain ⟨v2, rfl, ho2, hb2⟩ := hgp.yes HG.out
    rw [Int.toNat_natCast, Int.toNat_natCast] at ho2
    obtain ⟨b2, c2, rfl, hc21, hc22, hi2⟩ := drawn_form ho2
    rw [HRL.out] at hc21
    have I2 := Lib.hid (I1.out.below hb2)
    have X2 := Lib.hid hi2
    have D2 := Lib.hid hb2
    clear hi2 hb2 hgp HC1 ho2
    go_wp2_with fail
    refine (specGivenOn_any _ xs F T w2 I2.out).mono ?_
    rintro e w3 hgp
    obtain ⟨v3, rfl, ho3, hb3⟩ := hgp.yes HG.out
    rw [Int.toNat_natCast, Int.toNat_natCast] at ho3
    have X3 := Lib.hid (X2.out.below hb3)
    have Y3 := Lib.hid (IsInts.of_owns ho3)
    have D3 := Lib.hid (D2.out.trans (hb3.mono D2.out.size))
    clear hb3 hgp ho3
    go_wp2_with fail
    refine (sameInts_any _ _ (givRow xs F T) (givRow xs F T) w3 X3.out Y3.out).mono ?_
    rintro e w4 ⟨rfl, n4, rfl⟩
    rw [(beq_self_h (givRow xs F T)).out]
    have X4 := Lib.hid (X3.out.below (below_drewN (Below.refl _ _) n4))
    have D4 := Lib.hid (below_drewN D3.out n4)
    generalize w3.drewN n4 = w4 at *
    go_wp2_with fail
    refine (implGivenOn_any _ (givRow xs F T) T F w4 X4.out).mono ?_
    rintro e w5 hgp
    obtain ⟨v5, rfl, ho5, hb5⟩ := hgp.yes HBK.out
    rw [Int.toNat_natCast, Int.toNat_natCast, HBR.out] at ho5
    have X5 := Lib.hid (X4.out.below hb5)
    have Z5 := Lib.hid (IsInts.of_owns ho5)
    have D5 := Lib.hid (D4.out.trans (hb5.mono D4.out.size))
    clear hb5 hgp ho5
    have y1 : w5.cell? ⟨g, off + F, none⟩ = _ := (D5.out.cell (p := ⟨g, off + F, none⟩) DD.out.1).trans DD.out.2.1
    have y2 : w5.cell? ⟨g, off + T, none⟩ = _ := (D5.out.cell (p := ⟨g, off + T, none⟩) DD.out.1).trans DD.out.2.2
    have bf := HXB.out xs[F] (List.getElem_mem hF)
    have bt := HXB.out xs[T] (List.getElem_mem hT)
    generalize xs[F] = x1 at y1 bf HFR
    generalize xs[T] = x2 at y2 bt HFR
    have HSQX := Lib.hid (sqsOf_yes HOKX.out)
    have HSQR := Lib.hid (sqsOf_yes HOKR.out)
    go_wp2_with fail
    go_quiet (fail)
    have I6 := Lib.hid (I1.out.below (below_drewN D5.out nq))
    have X6 := Lib.hid (X5.out.below (below_drewN (Below.refl _ _) nq))
    have Z6 := Lib.hid (Z5.out.below (below_drewN (Below.refl _ _) nq))
    have Q6 := Lib.hid (Q1.out.trans ((below_drewN D5.out nq).mono Q1.out.size))
    clear y1 y2 DD
    generalize w5.drewN nq = w6 at *
    go_wp2_with fail
    refine (implSteps_any _ xs w6 I6.out).mono ?_
    rintro e w7 ⟨rfl, hb7⟩
    have I7 := Lib.hid (I6.out.below hb7)
    have X7 := Lib.hid (X6.out.below hb7)
    have Z7 := Lib.hid (Z6.out.below hb7)
    have Q7 := Lib.hid (Q6.out.trans (hb7.mono Q6.out.size))
    clear hb7 I6 X6 Z6 Q6
    go_wp2_with fail
    refine (implSteps_any _ (givRow xs F T) w7 X7.out).mono ?_
    rintro e w8 ⟨rfl, hb8⟩
    have I8 := Lib.hid (I7.out.below hb8)
    have X8 := Lib.hid (X7.out.below hb8)
    have Z8 := Lib.hid (Z7.out.below hb8)
    have Q8 := Lib.hid (Q7.out.trans (hb8.mono Q7.out.size))
    clear hb8 I7 X7 Z7 Q7
    obtain ⟨n, hn⟩ : ∃ n, stepsOf xs = n := ⟨_, rfl⟩
    obtain ⟨m, hm⟩ : ∃ m, stepsOf (givRow xs F T) = m := ⟨_, rfl⟩
    rw [hn] at hst hn0 ⊢
    rw [hm] at hst hm0 ⊢
    clear hn hm
    go_wp2_with fail
    refine (sameInts_any _ _ xs xs w8 Z8.out I8.out).mono ?_
    rintro e w9 ⟨rfl, n9, rfl⟩
    rw [(beq_self_h xs).out]
    have I9 := Lib.hid (I8.out.below (below_drewN (Below.refl _ _) n9))
    have X9 := Lib.hid (X8.out.below (below_drewN (Below.refl _ _) n9))
    have Q9 := Lib.hid (below_drewN Q8.out n9)
    clear I8 X8 Q8 Z8
    generalize w8.drewN n9 = w9 at *
    by_cases hgap : x1 - x2 < 2
    · go_wp2
      go_ret
      exact ⟨by first | rfl | exact ret_bool (by simp; omega), Q9.out⟩
    · obtain ⟨k1, k2, k3⟩ := HFR.out (by omega)
      have HK1 := Lib.hid k1
      have HK2 := Lib.hid k2
      clear k1 k2
      go_wp2_with fail
      refine (implFairerOk_any _ _ (givRow xs F T) xs w9 X9.out I9.out).mono ?_
      rintro e w10 ⟨rfl, hb10⟩
      rw [HK1.out]
      have I10 := Lib.hid (I9.out.below hb10)
      have X10 := Lib.hid (X9.out.below hb10)
      have Q10 := Lib.hid (Q9.out.trans (hb10.mono Q9.out.size))
      clear hb10 I9 X9 Q9
      go_wp2_with fail
      refine (implFairerOk_any _ _ xs (givRow xs F T) w10 I10.out X10.out).mono ?_
      rintro e w11 ⟨rfl, hb11⟩
      rw [HK2.out]
      have I11 := Lib.hid (I10.out.below hb11)
      have X11 := Lib.hid (X10.out.below hb11)
      have Q11 := Lib.hid (Q10.out.trans (hb11.mono Q10.out.size))
      clear hb11 I10 X10 Q10
      go_wp2_with fail
      refine (implSquaresOf_any _ (givRow xs F T) w11 X11.out).mono ?_
      rintro e w12 ⟨rfl, hb12⟩
      have I12 := Lib.hid (I11.out.below hb12)
      have Q12 := Lib.hid (Q11.out.trans (hb12.mono Q11.out.size))
      clear hb12 I11 X11 Q11
      rw [HSQR.out]
      go_wp2_with fail
      refine (implSquaresOf_any _ xs w12 I12.out).mono ?_
      rintro e w13 ⟨rfl, hb13⟩
      have Q13 := Lib.hid (Q12.out.trans (hb13.mono Q12.out.size))
      clear hb13 I12 Q12
      rw [HSQX.out]
      generalize sqs xs = s1 at *
      generalize sqs (givRow xs F T) = s2 at *
      go_wp2
      go_ret
      exact ⟨by first | rfl | exact ret_bool (by simp; omega), Q13.out⟩
end Go.Proofs.Ythdpeholeelhdaa
