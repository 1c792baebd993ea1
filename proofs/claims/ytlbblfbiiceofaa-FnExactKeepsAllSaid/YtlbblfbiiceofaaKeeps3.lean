/- KeepsRule on the model's side, for rules of runs. No condition. -/
import Derived.Test.YtlbblfbiiceofaaKeeps2
namespace Go.Proofs.Ytlbblfbiiceofaa
open Go.RowKit

set_option maxHeartbeats 1600000 in
theorem specKeeps_1 (letter : ByteArray) (many : Int) (s : ByteArray) (w : World) (hl : letterOk letter = true) (h0 : 2 ≤ many) (h4 : many ≤ 4) (hw : wordOk s = true) :
    Calls Try.prog 103 #[.agg #[.int .i64 1, .string letter, .string ⟨#[]⟩, .int .i64 many], .string s] w
      fun e w' => e = .returned (.bool (longAll (runsL s.data.toList) (byteAt letter 0) many)) ∧ Below w.heap.size w w' := by
  have hsm : s.size ≤ maxLen := Nat.le_trans (wordOk_size hw) (by decide)
  have hok : (Ru.mk 1 letter ⟨#[]⟩ many).ok = true := Ru.ok_iff.2 ⟨hl, .inr (.inl ⟨rfl, rfl, h0, h4⟩)⟩
  have h1 := letterOk_size hl
  have hp1 : 0 < letter.size := by omega
  have h14 := wordOk_size hw
  go_enter Try.func103, Try.ntmps103
  go_wp2_with fail
  refine (specRuleOk_any 1 letter ⟨#[]⟩ many _).mono ?_
  rintro e w1 ⟨rfl, hb1⟩
  rw [hok]
  simp only [World.size_alloc] at hb1
  obtain ⟨y0, y1, y2, y3, q1, s1⟩ := ru_cells 1 letter ⟨#[]⟩ many hb1
  go_wp2_with (go_at_call 58; refine (specWordOk_any _ _ hsm).mono ?_; rintro e w' ⟨rfl, rfl⟩)
  refine (specRunsOf_any s _ hsm).mono ?_
  rintro e w2 ⟨v, rfl, hown, hb2⟩
  rw [runsOf_yes hw] at hown
  have B2 := Lib.hid (hb1.trans (hb2.mono s1))
  have hRow : IsInts w2 v ((runsL s.data.toList).map (fun p => (p.2 : Int))) := IsInts.of_owns hown
  obtain ⟨a, cap, rfl, hcap, hmax, hor⟩ := hRow
  have HOR := Lib.hid hor
  have HSL := Lib.hid (And.intro (fun k h => sumRuns_lt s.data.toList k h) (fun k h => runs_letter s.data.toList k h))
  have HPOS := Lib.hid (runsL_pos s.data.toList)
  have hRl : (runsL s.data.toList).length ≤ 14 := Nat.le_trans (runsL_length _) (by rw [len_data]; exact h14)
  have HRD := Lib.hid (len_data s)
  have hc1 : Hid (letter[0] = byteAt letter 0) := Lib.hid (byteAt_eq letter 0 hp1)
  clear hown hor hb1 hb2 y0 y1 y2 y3 q1 s1
  rw [List.length_map] at hcap ⊢
  generalize hR : runsL s.data.toList = R at *
  have HRR := Lib.hid hR
  clear hR
  go_wp2_with fail
  go_loopw [7, 8] (fun p i wr => ∃ k : Nat, k ≤ R.length ∧ i = .int .i64 (k : Int) ∧ p = .int .i64 ((sumRuns R k : Nat) : Int) ∧ longAll (R.take k) (byteAt letter 0) many = true ∧ Below w2.heap.size w2 wr) (fun _ i _ => R.length - (intOf i).toNat)
  case atStart => exact ⟨0, Nat.zero_le _, rfl, rfl, rfl, Below.refl _ _⟩
  case round =>
    obtain ⟨k, hk, rfl, rfl, hall, hb⟩ := hrel
    have HA := Lib.hid hall
    have HB := Lib.hid hb
    obtain ⟨y0, y1, y2, y3, q1, s1⟩ := ru_cells 1 letter ⟨#[]⟩ many (B2.out.trans (hb.mono (by have := B2.out.size; simp only [World.size_alloc] at this; exact this)))
    have Q1 := Lib.hid q1
    clear hall hb y0 y2 q1 s1
    by_cases hlt : k < R.length
    · obtain ⟨g, off, rfl, hg, hcell⟩ := HOR.out.resolve_left (fun e => by have := congrArg List.length e; rw [List.length_map] at this; simp at this; rw [this] at hlt; exact Nat.not_lt_zero _ hlt)
      have hck := (HB.out.cell (p := ⟨g, off + k, none⟩) hg).trans (hcell k (by rw [List.length_map]; exact hlt))
      rw [List.getElem_map] at hck
      have hsum := HSL.out.1 k hlt
      have hps := sumRuns_succ R k hlt
      have hlet := HSL.out.2 k hlt
      have hLT : Hid (longAll (R.take (k + 1)) (byteAt letter 0) many = (!(R[k].1 == byteAt letter 0) || decide (many ≤ (R[k].2 : Int)))) := by
        have : longAll (R.take (k + 1)) (byteAt letter 0) many = (!(R[k].1 == byteAt letter 0) || decide (many ≤ (R[k].2 : Int))) := by
          rw [List.take_succ_eq_append_getElem hlt, longAll_snoc, HA.out, Bool.true_and]
        exact Lib.hid this
      have hmem : R[k] ∈ R := List.getElem_mem hlt
      have hALL : Hid (longAll (R.take (k + 1)) (byteAt letter 0) many = false → longAll R (byteAt letter 0) many = false) := by
        have : longAll (R.take (k + 1)) (byteAt letter 0) many = false → longAll R (byteAt letter 0) many = false := fun h => by
          have h2 : longAll (R.take (k + 1) ++ R.drop (k + 1)) (byteAt letter 0) many = false := by
            unfold longAll at h ⊢
            rw [List.all_append, h]; rfl
          rwa [List.take_append_drop] at h2
        exact Lib.hid this
      rw [HRD.out] at hsum
      generalize hrk : R[k] = rk at *
      obtain ⟨rc, rn⟩ := rk
      simp only at hck hsum hps hlet hLT
      have hpos : 1 ≤ rn := HPOS.out _ hmem
      have hps' : sumRuns R k < s.size := by omega
      have hsb : s[sumRuns R k] = rc := (byteAt_eq s _ hps').trans hlet
      have HPS := Lib.hid hps
      have hp14 : sumRuns R k ≤ 14 := by omega
      clear hlet hps hmem hcell hrk
      generalize sumRuns R k = p at *
      have hrn : (rn : Int) ≤ 14 := by omega
      by_cases t1 : (rc == letter[0]) = true
      · have t1' : ((rc.toNat : Int) == (letter[0].toNat : Int)) = true := by rw [u8_beq]; exact t1
        have t1c : (rc == byteAt letter 0) = true := by rw [← hc1.out]; exact t1
        by_cases t2 : (rn : Int) < many
        · have HF : Hid (longAll R (byteAt letter 0) many = false) := by
            have : longAll R (byteAt letter 0) many = false := hALL.out (by rw [hLT.out, t1c]; simp; omega)
            exact Lib.hid this
          clear t1 t1c
          go_wp2
          go_quiet (fail)
          go_wp2
          go_ret
          exact ⟨ret_bool (by rw [HRR.out, HF.out]), below_drewN Q1.out _⟩
        · have HF : Hid (longAll (R.take (k + 1)) (byteAt letter 0) many = true) := by
            have : longAll (R.take (k + 1)) (byteAt letter 0) many = true := by rw [hLT.out, t1c]; simp; omega
            exact Lib.hid this
          clear t1 t1c
          go_wp2
          go_quiet (fail)
          go_wp2
          go_roundw
          case rel => exact ⟨k + 1, hlt, by go_num, by rw [HPS.out]; go_num, HF.out, below_drewN HB.out _⟩
          case measure => simp [intOf]; omega
      · have t1' : ((rc.toNat : Int) == (letter[0].toNat : Int)) = false := by rw [u8_beq]; simpa using t1
        have HF : Hid (longAll (R.take (k + 1)) (byteAt letter 0) many = true) := by
          have t1c : (rc == byteAt letter 0) = false := by rw [← hc1.out]; simpa using t1
          have : longAll (R.take (k + 1)) (byteAt letter 0) many = true := by rw [hLT.out, t1c]; rfl
          exact Lib.hid this
        clear t1
        go_wp2
        go_quiet (fail)
        go_wp2
        go_roundw
        case rel => exact ⟨k + 1, hlt, by go_num, by rw [HPS.out]; go_num, HF.out, below_drewN HB.out _⟩
        case measure => simp [intOf]; omega
    · obtain rfl : k = R.length := by omega
      have HF : Hid (longAll R (byteAt letter 0) many = true) := by
        have := HA.out
        rw [List.take_length] at this
        exact Lib.hid this
      go_wp2
      go_ret
      exact ⟨ret_bool (by rw [HRR.out, HF.out]), Q1.out⟩
end Go.Proofs.Ytlbblfbiiceofaa
