/- spec.GivingOk: what it returns, for every day and row of numbers. No condition. -/
import Derived.Test.YthihcnlbohhemaaDayGiv
namespace Go.Proofs.Ythihcnlbohhemaa
open Go.RowKit

theorem l1In_in {n lo hi : Int} (w : World) (h1 : lo ≤ n) (h2 : n ≤ hi) :
    Calls Try.prog 72 #[.int .i64 n, .int .i64 lo, .int .i64 hi] w fun e w' => e = .returned (.bool true) ∧ w' = w :=
  (l1In_same n lo hi w).mono fun _ _ ⟨h, g⟩ => ⟨by rw [h]; simp [h1, h2], g⟩
theorem l1In_out {n lo hi : Int} (w : World) (h : ¬ (lo ≤ n ∧ n ≤ hi)) :
    Calls Try.prog 72 #[.int .i64 n, .int .i64 lo, .int .i64 hi] w fun e w' => e = .returned (.bool false) ∧ w' = w :=
  (l1In_same n lo hi w).mono fun _ _ ⟨h2, g⟩ => ⟨by
    rw [h2]
    have : (decide (lo ≤ n) && decide (n ≤ hi)) = false := by
      rw [Bool.and_eq_false_iff, decide_eq_false_iff_not, decide_eq_false_iff_not]
      omega
    rw [this], g⟩
theorem okAt_is {n : Nat} {cs : List Nat} {w : List Int} {k p : Nat} (hk : k < cs.length) (hx : w.getD k (-1) = (p : Int)) (hp : p < n) : okAt n cs 0 w k = (cs[k].testBit p && (List.range k).all (fun j => w.getD j (-1) != (p : Int))) := by
  rw [okAt, hx, ca_at hk]
  have e1 : decide ((0 : Int) ≤ (p : Int)) = true := by simp
  have e2 : decide ((p : Int) < (n : Int)) = true := by simp; omega
  rw [e1, e2, Int.toNat_natCast]
  simp only [Bool.true_and, Nat.zero_testBit, Bool.not_false, Bool.and_true]
theorem okAt_bit {n : Nat} {cs : List Nat} {w : List Int} {k p : Nat} (hk : k < cs.length) (hx : w.getD k (-1) = (p : Int)) (hp : p < n) (hb : cs[k].testBit p = false) : okAt n cs 0 w k = false := by
  rw [okAt_is hk hx hp, hb, Bool.false_and]
theorem okAt_twice {n : Nat} {cs : List Nat} {w : List Int} {k p j : Nat} (hk : k < cs.length) (hx : w.getD k (-1) = (p : Int)) (hp : p < n) (hj : j < k) (he : w.getD j (-1) = (p : Int)) : okAt n cs 0 w k = false := by
  rw [okAt_is hk hx hp, Bool.and_eq_false_iff]
  refine .inr (List.all_eq_false.2 ⟨j, List.mem_range.2 hj, by rw [he]; simp⟩)
theorem okAt_all {n : Nat} {cs : List Nat} {w : List Int} {k p : Nat} (hk : k < cs.length) (hx : w.getD k (-1) = (p : Int)) (hp : p < n) (hb : cs[k].testBit p = true) (h : ∀ j, j < k → w.getD j (-1) ≠ (p : Int)) : okAt n cs 0 w k = true := by
  rw [okAt_is hk hx hp, hb, Bool.true_and, List.all_eq_true]
  intro j hj
  simpa using h j (List.mem_range.1 hj)

set_option maxHeartbeats 2400000 in
theorem specGivingOk_any (ppl : Int) (xs : List Int) (cv : Value) (ws : List Int) (wv : Value) (w : World) (h1 : IsInts w cv xs) (h2 : IsInts w wv ws) :
    Calls Try.prog 50 #[.agg #[.int .i64 ppl, cv], wv] w fun e w' => e = .returned (.bool (D.giving ⟨ppl, xs⟩ ws)) ∧ Below w.heap.size w w' := by
  have hB0 : Below w.heap.size w (w.alloc (.cells #[.int .i64 ppl, cv] 44)) := (Below.refl _ _).alloc (Nat.le_refl _) _
  have X0 := Lib.hid (DayBox.new (ppl := ppl) 44 h1)
  have C0 := Lib.hid (specDayOk_any ppl xs cv _ X0.out.ints)
  have W0 := Lib.hid (h2.below hB0)
  have Q0 := Lib.hid hB0
  clear hB0
  obtain ⟨a, n0, c0, rfl⟩ := h1.slice
  obtain ⟨b, cbp, rfl, hb1, hb2, _⟩ := h2
  unfold maxLen at hb2
  clear h1
  rcases D.two ppl xs with hok | ⟨hok, n, cs, rfl, rfl, G, hdn, hdc⟩
  · have HS := Lib.hid (giv_day (w := ws) hok)
    go_enter Try.func50, Try.ntmps50
    go_wp2_with fail
    refine C0.out.mono ?_
    rintro e w1 ⟨rfl, hbw⟩
    have Q1 := Lib.hid (Q0.out.trans (hbw.mono Q0.out.size))
    clear hbw
    go_wp2_with fail
    go_ret
    exact ⟨ret_bool HS.out.symm, Q1.out⟩
  · have HK := Lib.hid hok
    have HN := Lib.hid hdn
    have HD := Lib.hid hdc
    have HG := Lib.hid G
    have hl5 := G.l5
    have hn6 := G.n6
    clear hdn hdc G
    go_enter Try.func50, Try.ntmps50
    go_wp2_with fail
    refine C0.out.mono ?_
    rintro e w1 ⟨rfl, hbw⟩
    have X1 := Lib.hid (X0.out.below hbw)
    have W1 := Lib.hid (W0.out.below hbw)
    have Q1 := Lib.hid (Q0.out.trans (hbw.mono Q0.out.size))
    clear hbw
    have x0 := X1.out.c0
    have x1 := X1.out.c1
    obtain ⟨aa, cap, hsl, hcap1, hcap2, _⟩ := X1.out.ints.nats
    simp only [Value.slice.injEq] at hsl
    obtain ⟨rfl, rfl, rfl⟩ := hsl
    unfold maxLen at hcap2
    by_cases hl : ws.length = cs.length
    · have hl' : ((ws.length : Int) != (cs.length : Int)) = false := by simp [hl]
      have HL := Lib.hid hl
      have hlw : ws.length ≤ 5 := by omega
      clear hl
      go_wp2_with fail
      clear x0 x1
      go_loopw [5] (fun i wr => ∃ k : Nat, k ≤ ws.length ∧ i = .int .i64 k ∧ Hid (okTo n cs ws k) ∧ DayBox w.heap.size n (.slice a cs.length c0) (cs.map Int.ofNat) wr ∧ IsInts wr (.slice b ws.length cbp) ws ∧ Below w.heap.size w wr) (fun i _ => ws.length - (intOf i).toNat)
      case atStart => exact ⟨0, Nat.zero_le _, rfl, Lib.hid (fun i hi => absurd hi (Nat.not_lt_zero i)), X1.out, W1.out, Q1.out⟩
      case round =>
        obtain ⟨k, hk, rfl, HO, hX, hW, hQ⟩ := hrel
        have X2 := Lib.hid hX
        have W2 := Lib.hid hW
        have Q2 := Lib.hid hQ
        have x0 := hX.c0
        have x1 := hX.c1
        clear hX hW hQ
        by_cases hlt : k < ws.length
        · obtain ⟨bb, cb2, hsl, _, _, HB⟩ := W2.out
          simp only [Value.slice.injEq, true_and] at hsl
          obtain ⟨rfl, rfl⟩ := hsl
          have hltc : k < cs.length := by have := HL.out; omega
          obtain ⟨ab, cb3, hsl, _, _, HA⟩ := X2.out.ints.nats
          simp only [Value.slice.injEq, true_and] at hsl
          obtain ⟨rfl, rfl⟩ := hsl
          obtain ⟨g, off, rfl, hg, hc⟩ := HB.resolve_left (fun h => by rw [h] at hlt; exact absurd hlt (Nat.not_lt_zero k))
          obtain ⟨g2, off2, rfl, hg2, hc2⟩ := HA.resolve_left (fun h => by rw [h] at hltc; exact absurd hltc (Nat.not_lt_zero k))
          have hcell := hc k hlt
          have hcell2 := hc2 k hltc
          clear hc hc2
          have HX := Lib.hid (show ws.getD k (-1) = ws[k] by simp [List.getD, hlt])
          generalize ws[k] = x at hcell HX
          have hnw : IntKind.i64.wrap ((n : Int) - 1) = (n : Int) - 1 := IntWalk.i64_in _ (by omega)
          by_cases hx : 0 ≤ x ∧ x ≤ (n : Int) - 1
          · obtain ⟨p, rfl⟩ : ∃ p : Nat, x = p := ⟨x.toNat, by omega⟩
            have hp : p < n := by omega
            have HI := Lib.hid (fun W => l1In_in (n := (p : Int)) (lo := 0) (hi := (n : Int) - 1) W hx.1 hx.2)
            have hsb := shr_bit cs[k] p
            have hp64 : p < 64 := by omega
            clear hx
            by_cases hb : cs[k].testBit p = true
            · rw [if_pos hb] at hsb
              have HALL := Lib.hid (okAt_all (w := ws) hltc HX.out hp hb)
              have HTW := Lib.hid (fun j hj he => okAt_twice (w := ws) (j := j) hltc HX.out hp hj he)
              clear hb
              generalize cs[k] = c at *
              go_wp2_with fail
              go_quiet ((go_at_call 72; exact Calls.quiet_of_same (HI.out _)))
              go_wp2_with fail
              go_loopw [6] (fun ji wr2 => ∃ j : Nat, j ≤ k ∧ ji = .int .i64 j ∧ Hid (∀ i, i < j → ws.getD i (-1) ≠ (p : Int)) ∧ DayBox w.heap.size n (.slice (some ⟨g2, off2, none⟩) cs.length c0) (cs.map Int.ofNat) wr2 ∧ IsInts wr2 (.slice (some ⟨g, off, none⟩) ws.length cbp) ws ∧ Below w.heap.size w wr2) (fun ji _ => k - (intOf ji).toNat)
              case atStart => exact ⟨0, Nat.zero_le _, rfl, Lib.hid (fun i hi => absurd hi (Nat.not_lt_zero i)), X2.out.below (below_drewN (Below.refl _ _) _), W2.out.below (below_drewN (Below.refl _ _) _), below_drewN Q2.out _⟩
              case round =>
                obtain ⟨j, hj, rfl, HJ, hX3, hW3, hQ3⟩ := hrel
                rename_i wr2
                have X3 := Lib.hid hX3
                have W3 := Lib.hid hW3
                have Q3 := Lib.hid hQ3
                clear hX3 hW3 hQ3 hcell hcell2 x0 x1
                by_cases hjk : j < k
                · obtain ⟨_, _, hsl, _, _, HB3⟩ := W3.out
                  simp only [Value.slice.injEq, true_and] at hsl
                  obtain ⟨rfl, rfl⟩ := hsl
                  obtain ⟨_, _, hgo, hg3, hc3⟩ := HB3.resolve_left (fun h => by rw [h] at hlt; exact absurd hlt (Nat.not_lt_zero k))
                  simp only [Option.some.injEq, Addr.mk.injEq, and_true] at hgo
                  obtain ⟨rfl, rfl⟩ := hgo
                  have hjl : j < ws.length := by omega
                  have hcj := hc3 j hjl
                  have hck := hc3 k hlt
                  have HXJ := Lib.hid (show ws.getD j (-1) = ws[j] by simp [List.getD, hjl])
                  have hwk : ws[k] = (p : Int) := by have := HX.out; simpa [List.getD, hlt] using this
                  rw [hwk] at hck
                  clear hc3 hwk
                  generalize ws[j] = y at *
                  by_cases he : y = (p : Int)
                  · have he' : (y == (p : Int)) = true := by simpa using he
                    have HS := Lib.hid (giv_no (w := ws) HN.out HD.out hltc (HTW.out j hjk (by rw [HXJ.out, he])))
                    clear he
                    go_wp2_with fail
                    go_quiet (fail)
                    go_wp2_with fail
                    go_ret
                    exact ⟨ret_bool HS.out.symm, below_drewN Q3.out _⟩
                  · have he' : (y == (p : Int)) = false := by simpa using he
                    have HJ2 : Hid (∀ i, i < j + 1 → ws.getD i (-1) ≠ (p : Int)) := Lib.hid (fun i hi => by
                      by_cases hij : i = j
                      · subst hij; rw [HXJ.out]; exact he
                      · exact HJ.out i (by omega))
                    clear he
                    go_wp2_with fail
                    go_quiet (fail)
                    go_wp2_with fail
                    go_roundw
                    case rel => exact ⟨j + 1, by omega, by go_num, HJ2, X3.out.below (below_drewN (Below.refl _ _) _), W3.out.below (below_drewN (Below.refl _ _) _), below_drewN Q3.out _⟩
                    case measure => simp [intOf]; omega
                · obtain rfl : j = k := by omega
                  have HO2 := Lib.hid (okTo_snoc HO.out (HALL.out HJ.out))
                  go_wp2_with fail
                  go_roundw
                  case rel => exact ⟨j + 1, by omega, by go_num, HO2, X3.out, W3.out, Q3.out⟩
                  case measure => simp [intOf]; omega
            · have hb' : cs[k].testBit p = false := by simpa using hb
              rw [if_neg hb] at hsb
              have HS := Lib.hid (giv_no (w := ws) HN.out HD.out hltc (okAt_bit hltc HX.out hp hb'))
              clear hb hb'
              generalize cs[k] = c at *
              go_wp2_with fail
              go_quiet ((go_at_call 72; exact Calls.quiet_of_same (HI.out _)))
              go_wp2_with fail
              go_ret
              exact ⟨ret_bool HS.out.symm, below_drewN Q2.out _⟩
          · have HS := Lib.hid (giv_no (w := ws) HN.out HD.out hltc (ok_no (by rw [HX.out]; omega)))
            have HI := Lib.hid (fun W => l1In_out (n := x) (lo := 0) (hi := (n : Int) - 1) W hx)
            clear hx
            go_wp2_with fail
            go_quiet ((go_at_call 72; exact Calls.quiet_of_same (HI.out _)))
            go_wp2_with fail
            go_ret
            exact ⟨ret_bool HS.out.symm, below_drewN Q2.out _⟩
        · obtain rfl : k = ws.length := by omega
          have HS := Lib.hid (giv_yes HK.out HN.out HD.out HL.out (by rw [← HL.out]; exact HO.out))
          go_wp2_with fail
          go_ret
          exact ⟨ret_bool HS.out.symm, Q2.out⟩
    · have hl' : ((ws.length : Int) != (cs.length : Int)) = true := by simpa [Int.natCast_inj] using hl
      have HS := Lib.hid (giv_len (w := ws) HD.out hl)
      clear hl
      go_wp2_with fail
      go_ret
      exact ⟨ret_bool HS.out.symm, Q1.out⟩
end Go.Proofs.Ythihcnlbohhemaa
