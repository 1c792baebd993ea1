/- impl.GivingOk: what it returns, for every day and row of numbers. No condition. -/
import Derived.Test.YthihcnlbohhemaaDayShort
namespace Go.Proofs.Ythihcnlbohhemaa
open Go.RowKit

/-- who is taken by the first k -/
def tk (w : List Int) : Nat → Nat
  | 0 => 0
  | k + 1 => tk w k ||| 2 ^ (w.getD k (-1)).toNat
def okTo (n : Nat) (cs : List Nat) (w : List Int) (k : Nat) : Prop := ∀ i, i < k → okAt n cs 0 w i = true
theorem tk_bit (w : List Int) (q : Nat) : ∀ k, (tk w k).testBit q = true ↔ ∃ j, j < k ∧ (w.getD j (-1)).toNat = q := by
  intro k
  induction k with
  | zero => simp [tk]
  | succ k ih =>
    simp only [tk]
    rw [testBit_put, Bool.or_eq_true, ih, decide_eq_true_eq]
    constructor
    · rintro (⟨j, hj, h⟩ | h)
      · exact ⟨j, by omega, h⟩
      · exact ⟨k, by omega, h⟩
    · rintro ⟨j, hj, h⟩
      by_cases hk : j = k
      · subst hk; exact .inr h
      · exact .inl ⟨j, by omega, h⟩
theorem tk_lt {n : Nat} {cs : List Nat} {w : List Int} (hn : n ≤ 6) : ∀ k, okTo n cs w k → tk w k < 64 := by
  intro k
  induction k with
  | zero => intro _; simp [tk]
  | succ k ih =>
    intro h
    simp only [tk]
    obtain ⟨a, b, _, _⟩ := okAt_parts (h k (by omega))
    have hp : 2 ^ (w.getD k (-1)).toNat < 2 ^ 6 := Nat.pow_lt_pow_right (by omega) (by omega)
    exact Nat.or_lt_two_pow (n := 6) (by have := ih (fun i hi => h i (by omega)); omega) hp
theorem ok_step {n : Nat} {cs : List Nat} {w : List Int} {k p : Nat} (h : okTo n cs w k) (hk : k < cs.length) (hx : w.getD k (-1) = (p : Int)) (hp : p < n) : okAt n cs 0 w k = (andn cs[k] (tk w k)).testBit p := by
  rw [andn_bit, okAt, hx, ca_at hk]
  have e1 : decide ((0 : Int) ≤ (p : Int)) = true := by simp
  have e2 : decide ((p : Int) < (n : Int)) = true := by simp; omega
  rw [e1, e2, Int.toNat_natCast]
  simp only [Bool.true_and, Nat.zero_testBit, Bool.not_false, Bool.and_true]
  congr 1
  rw [Bool.eq_iff_iff, List.all_eq_true, Bool.not_eq_true', ← Bool.not_eq_true, tk_bit]
  constructor
  · rintro h2 ⟨j, hj, hj2⟩
    have h3 := h2 j (List.mem_range.2 hj)
    obtain ⟨a, _, _, _⟩ := okAt_parts (h j hj)
    simp only [bne_iff_ne, ne_eq] at h3
    omega
  · intro h2 j hj
    rw [List.mem_range] at hj
    obtain ⟨a, _, _, _⟩ := okAt_parts (h j hj)
    simp only [bne_iff_ne, ne_eq]
    intro h3
    exact h2 ⟨j, hj, by omega⟩
theorem ok_no {n : Nat} {cs : List Nat} {w : List Int} {k : Nat} (h : ¬ (0 ≤ w.getD k (-1) ∧ w.getD k (-1) < n)) : okAt n cs 0 w k = false := by
  unfold okAt
  generalize w.getD k (-1) = y at *
  by_cases h0 : 0 ≤ y
  · have : ¬ y < n := fun h1 => h ⟨h0, h1⟩
    simp [this]
  · simp [h0]
theorem okTo_snoc {n : Nat} {cs : List Nat} {w : List Int} {k : Nat} (h : okTo n cs w k) (h1 : okAt n cs 0 w k = true) : okTo n cs w (k + 1) := fun i hi => by
  by_cases hk : i = k
  · subst hk; exact h1
  · exact h i (by omega)
theorem giv_no {d : D} {n : Nat} {cs : List Nat} {w : List Int} {k : Nat} (hn : d.n = n) (hc : d.cs = cs) (hk : k < cs.length) (h : okAt n cs 0 w k = false) : d.giving w = false := by
  subst hn hc
  cases hg : d.giving w with
  | false => rfl
  | true =>
    simp only [D.giving, Bool.and_eq_true] at hg
    have := (gok_iff.1 hg.2).2 k hk
    rw [h] at this; cases this
theorem giv_len {d : D} {cs : List Nat} {w : List Int} (hc : d.cs = cs) (h : ¬ w.length = cs.length) : d.giving w = false := by
  subst hc
  cases hg : d.giving w with
  | false => rfl
  | true =>
    simp only [D.giving, Bool.and_eq_true] at hg
    exact absurd (gok_iff.1 hg.2).1 h
theorem giv_yes {d : D} {n : Nat} {cs : List Nat} {w : List Int} (ho : d.ok = true) (hn : d.n = n) (hc : d.cs = cs) (hl : w.length = cs.length) (h : okTo n cs w cs.length) : d.giving w = true := by
  subst hn hc
  simp only [D.giving, ho, Bool.true_and]
  exact gok_iff.2 ⟨hl, h⟩
theorem giv_day {d : D} {w : List Int} (h : d.ok = false) : d.giving w = false := by simp [D.giving, h]
theorem pow_small (p : Nat) (h : p < 6) : ∃ Q : Nat, (2 : Int) ^ p = (Q : Int) ∧ 2 ^ p = Q ∧ 1 ≤ Q ∧ Q ≤ 32 := by
  have : ∀ l : Nat, l < 6 → 1 ≤ 2 ^ l ∧ 2 ^ l ≤ 32 := by decide
  exact ⟨2 ^ p, by simp, rfl, (this p h).1, (this p h).2⟩

set_option maxHeartbeats 1600000 in
theorem implGivingOk_any (ppl : Int) (xs : List Int) (cv : Value) (ws : List Int) (wv : Value) (w : World) (h1 : IsInts w cv xs) (h2 : IsInts w wv ws) :
    Calls Try.prog 49 #[.agg #[.int .i64 ppl, cv], wv] w fun e w' => e = .returned (.bool (D.giving ⟨ppl, xs⟩ ws)) ∧ Below w.heap.size w w' := by
  have hB0 : Below w.heap.size w (w.alloc (.cells #[.int .i64 ppl, cv] 44)) := (Below.refl _ _).alloc (Nat.le_refl _) _
  have X0 := Lib.hid (DayBox.new (ppl := ppl) 44 h1)
  have C0 := Lib.hid (implDayOk_any ppl xs cv _ X0.out.ints)
  have W0 := Lib.hid (h2.below hB0)
  have Q0 := Lib.hid hB0
  clear hB0
  obtain ⟨a, n0, c0, rfl⟩ := h1.slice
  obtain ⟨b, cbp, rfl, hb1, hb2, _⟩ := h2
  unfold maxLen at hb2
  clear h1
  rcases D.two ppl xs with hok | ⟨hok, n, cs, rfl, rfl, G, hdn, hdc⟩
  · have HS := Lib.hid (giv_day (w := ws) hok)
    go_enter Try.func49, Try.ntmps49
    go_wp2_with fail
    refine C0.out.mono ?_
    rintro e w1 ⟨rfl, hbw⟩
    have Q1 := Lib.hid (Q0.out.trans (hbw.mono Q0.out.size))
    clear hbw
    go_wp2_with fail
    go_ret
    exact ⟨ret_bool HS.out.symm, Q1.out⟩
  · have HK := Lib.hid hok
    have HN := Lib.hid hdn
    have HD := Lib.hid hdc
    have HG := Lib.hid G
    have hl5 := G.l5
    have hn6 := G.n6
    clear hdn hdc G
    go_enter Try.func49, Try.ntmps49
    go_wp2_with fail
    refine C0.out.mono ?_
    rintro e w1 ⟨rfl, hbw⟩
    have X1 := Lib.hid (X0.out.below hbw)
    have W1 := Lib.hid (W0.out.below hbw)
    have Q1 := Lib.hid (Q0.out.trans (hbw.mono Q0.out.size))
    clear hbw
    have x0 := X1.out.c0
    have x1 := X1.out.c1
    obtain ⟨aa, cap, hsl, hcap1, hcap2, HA⟩ := X1.out.ints.nats
    simp only [Value.slice.injEq] at hsl
    obtain ⟨rfl, rfl, rfl⟩ := hsl
    unfold maxLen at hcap2
    obtain ⟨bb, cb2, hsl, _, _, HB⟩ := W1.out
    simp only [Value.slice.injEq, true_and] at hsl
    obtain ⟨rfl, rfl⟩ := hsl
    have HA := Lib.hid HA
    have HB := Lib.hid HB
    by_cases hl : ws.length = cs.length
    · have hl' : ((ws.length : Int) != (cs.length : Int)) = false := by simp [hl]
      have HL := Lib.hid hl
      have hlw : ws.length ≤ 5 := by omega
      clear hl
      go_wp2_with fail
      go_loopw [5, 21] (fun t i wr => ∃ k : Nat, k ≤ ws.length ∧ t = .int .i64 (tk ws k : Int) ∧ i = .int .i64 k ∧ Hid (okTo n cs ws k) ∧ wr = w1) (fun _ i _ => ws.length - (intOf i).toNat)
      case atStart => exact ⟨0, Nat.zero_le _, rfl, rfl, Lib.hid (fun i hi => absurd hi (Nat.not_lt_zero i)), rfl⟩
      case round =>
        obtain ⟨k, hk, rfl, rfl, HO, rfl⟩ := hrel
        by_cases hlt : k < ws.length
        · obtain ⟨g, off, rfl, hg, hc⟩ := HB.out.resolve_left (fun h => by rw [h] at hlt; exact absurd hlt (Nat.not_lt_zero k))
          have hltc : k < cs.length := by have := HL.out; omega
          obtain ⟨g2, off2, rfl, hg2, hc2⟩ := HA.out.resolve_left (fun h => by rw [h] at hltc; exact absurd hltc (Nat.not_lt_zero k))
          have hcell := hc k hlt
          have hcell2 := hc2 k hltc
          clear hc hc2
          have HX := Lib.hid (show ws.getD k (-1) = ws[k] by simp [List.getD, hlt])
          have HT := Lib.hid (show tk ws (k + 1) = tk ws k ||| 2 ^ (ws.getD k (-1)).toNat from rfl)
          have ht64 := tk_lt HG.out.n6 k HO.out
          have hc64 := HG.out.lt64 k hltc
          have HSTEP := Lib.hid (fun p hx hp => ok_step (p := p) HO.out hltc hx hp)
          generalize ws[k] = x at hcell HX
          by_cases hx1 : x < 0
          · have HS := Lib.hid (giv_no (w := ws) HN.out HD.out hltc (ok_no (by rw [HX.out]; omega)))
            clear ht64 hc64
            go_wp2_with fail
            go_ret
            exact ⟨ret_bool HS.out.symm, Q1.out⟩
          by_cases hx2 : (n : Int) ≤ x
          · have HS := Lib.hid (giv_no (w := ws) HN.out HD.out hltc (ok_no (by rw [HX.out]; omega)))
            clear ht64 hc64
            go_wp2_with fail
            go_ret
            exact ⟨ret_bool HS.out.symm, Q1.out⟩
          obtain ⟨p, rfl⟩ : ∃ p : Nat, x = p := ⟨x.toNat, by omega⟩
          have hp : p < n := by omega
          obtain ⟨q1, q2⟩ := andNot_is cs[k] (tk ws k) hc64 ht64
          have HST := Lib.hid (HSTEP.out p HX.out hp)
          have HI := Lib.hid (fun W => inSet_any (andn cs[k] (tk ws k)) p W q2 (by omega))
          clear HSTEP
          by_cases hb : (andn cs[k] (tk ws k)).testBit p = true
          · obtain ⟨q3, q4⟩ := or_pow (tk ws k) p ht64 (by omega)
            obtain ⟨Q, hQ, hQ2, hQ3, hQ4⟩ := pow_small p (by omega)
            have hQw : IntKind.i64.wrap (Q : Int) = Q := IntWalk.i64_in _ (by omega)
            have HT2 : Hid (tk ws (k + 1) = tk ws k ||| 2 ^ p) := by
              have : tk ws (k + 1) = tk ws k ||| 2 ^ p := by rw [HT.out, HX.out]; rfl
              exact Lib.hid this
            have HO2 := Lib.hid (okTo_snoc HO.out (by rw [HST.out]; exact hb))
            rw [hQ] at q3
            generalize ht2 : tk ws k ||| 2 ^ p = t2 at *
            generalize cs[k] = c at *
            generalize andn c (tk ws k) = z at *
            clear q4 ht2 HX HT
            go_wp2_with (go_at_call 106; refine (HI.out _).mono ?_; rintro e w' ⟨rfl, rfl⟩)
            go_roundw
            case rel => exact ⟨k + 1, by omega, by rw [HT2.out], by go_num, HO2, trivial⟩
            case measure => simp [intOf]; omega
          · have hb' : (andn cs[k] (tk ws k)).testBit p = false := by simpa using hb
            have HS := Lib.hid (giv_no (w := ws) HN.out HD.out hltc (by rw [HST.out]; exact hb'))
            clear hb
            generalize andn cs[k] (tk ws k) = z at *
            generalize cs[k] = c at *
            go_wp2_with (go_at_call 106; refine (HI.out _).mono ?_; rintro e w' ⟨rfl, rfl⟩)
            go_ret
            exact ⟨ret_bool HS.out.symm, Q1.out⟩
        · obtain rfl : k = ws.length := by omega
          have HS := Lib.hid (giv_yes HK.out HN.out HD.out HL.out (by rw [← HL.out]; exact HO.out))
          go_wp2_with fail
          go_ret
          exact ⟨ret_bool HS.out.symm, Q1.out⟩
    · have hl' : ((ws.length : Int) != (cs.length : Int)) = true := by simpa [Int.natCast_inj] using hl
      have HS := Lib.hid (giv_len (w := ws) HD.out hl)
      clear hl
      go_wp2_with fail
      go_ret
      exact ⟨ret_bool HS.out.symm, Q1.out⟩
end Go.Proofs.Ythihcnlbohhemaa
