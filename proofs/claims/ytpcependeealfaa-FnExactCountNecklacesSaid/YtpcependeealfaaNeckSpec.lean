/- CountNecklaces of the model and of the program. No condition. -/
import Derived.Test.YtpcependeealfaaRollCnt
import Derived.Test.YtpcependeealfaaRingSt
import Derived.Test.YtpcependeealfaaRingNum
namespace Go.Proofs.Ytpcependeealfaa
open Go.RowKit

/-- a letter by its number -/
def lettB (l : Nat) : UInt8 := if l = 0 then 114 else if l = 1 then 100 else 110
theorem letts_at (l : Nat) (h : l < 3) : (⟨#[114, 100, 110]⟩ : ByteArray).extract l (l + 1) = txtOf [lettB l] := by
  have : l = 0 ∨ l = 1 ∨ l = 2 := by omega
  rcases this with rfl | rfl | rfl <;> rfl
theorem letts_run (l : Nat) (li : Int) (h : l < 3) (e : li = (l : Int)) (w : World) :
    (Instr.slice 9 (.string ⟨#[114, 100, 110]⟩) (some (.int .i64 li)) (some (.int .i64 (li + 1))) none).run Try.prog w = .ok (.string (txtOf [lettB l])) w := by
  subst e
  have hs : (⟨#[114, 100, 110]⟩ : ByteArray).size = 3 := rfl
  have := run_slice_string (P := Try.prog) (w := w) 9 ⟨#[114, 100, 110]⟩ .i64 .i64 (l : Int) ((l : Int) + 1) Try.underlying9 (by omega) (by omega) (by rw [hs]; omega)
  rw [this, show ((l : Int) + 1).toNat = l + 1 from by omega, Int.toNat_natCast, letts_at l h]
theorem txt_more (w : List UInt8) (c : UInt8) : txtOf w ++ txtOf [c] = txtOf (w ++ [c]) := by
  apply bytes_ext
  rw [ByteArray.data_append, Array.toList_append, txtOf_list, txtOf_list, txtOf_list]
theorem txt_word {l : List UInt8} {n : Nat} (h : l.length = n) (ha : allL l = true) (hn : n ≤ 6) : wordOk (txtOf l) = true := by
  simp only [wordOk, Bool.and_eq_true, decide_eq_true_eq]
  rw [txtOf_list, txtOf_size]
  exact ⟨ha, by omega⟩
theorem neck_is {m : M} {l : List UInt8} {n : Nat} (hm : m.ok = true) (h : l.length = n) (ha : allL l = true) (h1 : 1 ≤ n) (hn : n ≤ 6) : leastRoll (txtOf l) = txtOf (leastR l) ∧ ringOk m (txtOf l) = decide (0 ≤ ringL m l) := by
  have hw := txt_word h ha hn
  refine ⟨by rw [leastRoll, if_pos hw, txtOf_list], ?_⟩
  rw [ringOk, ringState_yes hm hw (by rw [txtOf_size]; omega), txtOf_list]
theorem txt_beq (a b : List UInt8) : ((txtOf a).toList == (txtOf b).toList) = decide (a = b) := by
  rw [ByteArray.toList_eq, ByteArray.toList_eq, txtOf_list, txtOf_list, Bool.eq_iff_iff, beq_iff_eq, decide_eq_true_eq]
theorem countNecks_yes {m : M} {r : Nat} (h : m.ok = true) (g : ringNum (r : Int) = true) : countNecks m (r : Int) = cntTo (fun way => neckB m (digits r way)) (3 ^ r) := by
  rw [countNecks, h, g, words_count]; rfl
theorem countNecks_no {m : M} {n : Int} (h : (m.ok && ringNum n) = false) : countNecks m n = -1 := by rw [countNecks, h]; rfl
theorem pow3_le (r k : Nat) (h : k ≤ r) (hr : r ≤ 6) : 1 ≤ 3 ^ k ∧ 3 ^ k ≤ 3 ^ r ∧ 3 ^ r ≤ 729 := by
  refine ⟨Nat.pow_pos (by omega), Nat.pow_le_pow_right (by omega) h, ?_⟩
  have := Nat.pow_le_pow_right (n := 3) (by omega) hr
  exact this
theorem digit_div (k way : Nat) : way / 3 ^ k / 3 = way / 3 ^ (k + 1) := by rw [Nat.div_div_eq_div_mul, Nat.pow_succ]
theorem digits_lett (k way : Nat) : digits (k + 1) way = digits k way ++ [lettB (way / 3 ^ k % 3)] := rfl

set_option maxHeartbeats 4000000 in
theorem specCountNecklaces_any (m : M) (n : Int) (nv ev : Value) (w : World) (h1 : IsInts w nv m.next) (h2 : IsBools w ev m.ends) (hst : (Lit.int .i64 m.st).wf = true) :
    Calls Try.prog 58 #[.agg #[.int .i64 m.st, nv, ev], .int .i64 n] w fun e w' => e = .returned (.int .i64 (countNecks m n)) ∧ Below w.heap.size w w' := by
  have M0 := Lib.hid (MachBox.new (st := m.st) 26 h1 h2)
  have q0 : Hid (Below w.heap.size w (w.alloc (.cells #[.int .i64 m.st, nv, ev] 26))) := Lib.hid ((Below.refl _ _).alloc (Nat.le_refl _) _)
  have HIN := Lib.hid (fun W => l1In_any n 1 6 W)
  clear h1 h2
  go_enter Try.func58, Try.ntmps58
  go_wp2_with fail
  refine (specMachineOk_any m nv ev _ M0.out.ints M0.out.bools hst).mono ?_
  rintro e w1 ⟨rfl, hb1⟩
  have M1 := Lib.hid (M0.out.below hb1)
  have q1 := Lib.hid (q0.out.trans (hb1.mono q0.out.size))
  clear hb1 M0
  have y10 := M1.out.c0
  have y11 := M1.out.c1
  have y12 := M1.out.c2
  by_cases hk : m.ok = true
  · have HK := Lib.hid hk
    rw [hk]
    by_cases hr : ringNum n = true
    · obtain ⟨r0, hr0, hr5⟩ := ringNum_nat hr
      obtain ⟨r, hrn⟩ : ∃ r : Nat, n = (r : Int) := ⟨n.toNat, by omega⟩
      have hr1 : 1 ≤ r := by omega
      have hr6 : r ≤ 6 := by omega
      have HE := Lib.hid (show countNecks m n = cntTo (fun way => neckB m (digits r way)) (3 ^ r) by rw [hrn]; exact countNecks_yes hk (by rw [← hrn]; exact hr))
      have HIN2 : Hid (∀ W, Calls Try.prog 68 #[.int .i64 n, .int .i64 1, .int .i64 6] W fun e w' => e = .returned (.bool true) ∧ W = w') := Lib.hid (fun W => by
        have := HIN.out W
        rwa [show (decide ((1 : Int) ≤ n) && decide (n ≤ 6)) = true from hr] at this)
      have HRN := Lib.hid hrn
      have hP := Lib.hid (pow3_le r r (Nat.le_refl _) hr6)
      have HP := Lib.hid (fun k hk => pow3_le r k hk hr6)
      generalize hP3 : 3 ^ r = P3 at *
      have HP3 := Lib.hid hP3
      clear hk hr hr0 hr5 HIN hrn hP3
      go_wp2_with (go_at_call 68; refine (HIN2.out _).mono ?_; rintro e w2 ⟨rfl, rfl⟩)
      clear y10 y11 y12
      go_loopw [5, 6] (fun av kv wr => ∃ (k : Nat) (ki ai : Int), ki = (k : Int) ∧ k ≤ r ∧ kv = .int .i64 ki ∧ av = .int .i64 ai ∧ ai = ((3 ^ k : Nat) : Int) ∧ wr = w1) (fun _ kv _ => 7 - (intOf kv).toNat)
      case atStart => exact ⟨0, 0, 1, rfl, Nat.zero_le _, rfl, rfl, rfl, rfl⟩
      case round =>
        obtain ⟨k, ki, ai, hki, hkr, rfl, rfl, hai, rfl⟩ := hrel
        have HKI := Lib.hid hki
        have HAI := Lib.hid hai
        have hn := HRN.out
        have hp := HP.out k hkr
        have ha0 : 0 ≤ ai := by omega
        have ha1 : ai ≤ 729 := by omega
        have hq : IntKind.i64.wrap (ki + 1) = ki + 1 := IntWalk.i64_in _ (by omega)
        have hq2 : IntKind.i64.wrap (ai * 3) = ai * 3 := IntWalk.i64_in _ (by omega)
        clear hai hp
        by_cases hlt : k < r
        · have hltI : ki < n := by omega
          clear hki hn
          go_wp2_with fail
          go_roundw
          case rel => exact ⟨k + 1, ki + 1, ai * 3, by have := HKI.out; omega, by omega, by first | rfl | rw [hq], by first | rfl | rw [hq2], by rw [HAI.out, Nat.pow_succ]; omega, by first | rfl | trivial⟩
          case measure => simp [intOf]; have := HKI.out; omega
        · have hnlt : ¬ ki < n := by omega
          have hkr2 : k = r := by omega
          have HAP : Hid (ai = (P3 : Int)) := Lib.hid (by rw [HAI.out, hkr2, HP3.out])
          clear hki hn
          go_wp2_with fail
          go_loopw [7, 8, 9, 10, 11] (fun cv wv _ _ _ wr => ∃ (t : Nat) (ti : Int), ti = (t : Int) ∧ t ≤ P3 ∧ wv = .int .i64 ti ∧ cv = .int .i64 (cntTo (fun way => neckB m (digits r way)) t) ∧ MachBox w.heap.size m.st nv m.next ev m.ends wr ∧ Below w.heap.size w wr) (fun _ wv _ _ _ _ => P3 - (intOf wv).toNat)
          case atStart => exact ⟨0, 0, rfl, Nat.zero_le _, rfl, rfl, M1.out, q1.out⟩
          case round =>
            obtain ⟨t, ti, hti, htP, rfl, rfl, hX, hQ⟩ := hrel
            have MK := Lib.hid hX
            have QK := Lib.hid hQ
            have HTI := Lib.hid hti
            have hap := HAP.out
            have hPm := hP.out.2.2
            have hq3 : IntKind.i64.wrap (ti + 1) = ti + 1 := IntWalk.i64_in _ (by omega)
            clear hX hQ
            by_cases htl : t < P3
            · have htlI : ti < ai := by omega
              clear hti hap
              go_wp2_with fail
              go_loopw [9, 10, 11] (fun sv lv jv wr2 => ∃ (j : Nat) (ji li : Int), ji = (j : Int) ∧ j ≤ r ∧ jv = .int .i64 ji ∧ sv = .string (txtOf (digits j t)) ∧ lv = .int .i64 li ∧ li = ((t / 3 ^ j : Nat) : Int) ∧ MachBox w.heap.size m.st nv m.next ev m.ends wr2 ∧ Below w.heap.size w wr2) (fun _ _ jv _ => 7 - (intOf jv).toNat)
              case atStart => exact ⟨0, 0, ti, rfl, Nat.zero_le _, rfl, rfl, rfl, by rw [HTI.out, Nat.pow_zero, Nat.div_one], MK.out, QK.out⟩
              case round =>
                obtain ⟨j, ji, li, hji, hjr, rfl, rfl, rfl, hli, hX, hQ⟩ := hrel
                have ML := Lib.hid hX
                have QL := Lib.hid hQ
                have HJI := Lib.hid hji
                have HLI := Lib.hid hli
                have hlt3 : t / 3 ^ j ≤ t := Nat.div_le_self _ _
                have hq4 : IntKind.i64.wrap (ji + 1) = ji + 1 := IntWalk.i64_in _ (by omega)
                have hl0 : 0 ≤ li := by rw [hli]; exact Int.natCast_nonneg _
                have hl1 : li ≤ 729 := by rw [hli]; exact Int.le_trans (Int.ofNat_le.2 (show t / 3 ^ j ≤ 729 from Nat.le_trans hlt3 (by omega))) (by decide)
                clear hX hQ
                by_cases hjl : j < r
                · have hjlI : ji < n := by have := HRN.out; omega
                  have hdl : t / 3 ^ j % 3 < 3 := Nat.mod_lt _ (by omega)
                  generalize hdi : ((t / 3 ^ j % 3 : Nat) : Int) = di at *
                  have hmod1 : li.tmod 3 = di := by rw [hli, ← hdi]; rfl
                  have hmod2 : li % 3 = di := by omega
                  have hdiv1 : li.tdiv 3 = ((t / 3 ^ (j + 1) : Nat) : Int) := by rw [hli, ← digit_div]; rfl
                  have hdiv2 : li / 3 = ((t / 3 ^ (j + 1) : Nat) : Int) := by rw [hli, ← digit_div]; rfl
                  have hL := fun W => letts_run (t / 3 ^ j % 3) di hdl hdi.symm W
                  have hd0 : 0 ≤ di := by omega
                  have hd2 : di ≤ 2 := by omega
                  have hq5 : IntKind.i64.wrap (di + 1) = di + 1 := IntWalk.i64_in _ (by omega)
                  have hle2 : t / 3 ^ (j + 1) ≤ t := Nat.div_le_self _ _
                  have HTM := Lib.hid (txt_more (digits j t) (lettB (t / 3 ^ j % 3)))
                  rw [← digits_lett] at HTM
                  have hszd : (txtOf (digits j t)).size ≤ 6 := by rw [txtOf_size, digits_length]; omega
                  have hszl : (txtOf [lettB (t / 3 ^ j % 3)]).size = 1 := by rw [txtOf_size]; rfl
                  generalize hl2 : ((t / 3 ^ (j + 1) : Nat) : Int) = l2 at *
                  have HL2 := Lib.hid hl2
                  have hl20 : 0 ≤ l2 := by rw [← hl2]; exact Int.natCast_nonneg _
                  have hl21 : l2 ≤ 729 := by rw [← hl2]; exact Int.le_trans (Int.ofNat_le.2 (show t / 3 ^ (j + 1) ≤ 729 from Nat.le_trans hle2 (by omega))) (by decide)
                  generalize lettB (t / 3 ^ j % 3) = lb at *
                  clear hli hji hdi hdl hl2
                  generalize hdn : txtOf (digits (j + 1) t) = dn at *
                  have HDN := Lib.hid hdn
                  clear hdn
                  generalize txtOf (digits j t) = dt at *
                  go_wp2_with fail
                  go_roundw
                  case rel => exact ⟨j + 1, ji + 1, l2, by have := HJI.out; omega, by omega, by first | rfl | rw [hq4], by first | rfl | rw [HDN.out, HTM.out] | rw [HTM.out], by first | rfl | trivial, HL2.out.symm, ML.out, QL.out⟩
                  case measure => simp [intOf]; have := HJI.out; omega
                · have hjr2 : j = r := by omega
                  have hjnl : ¬ ji < n := by have := HRN.out; omega
                  subst hjr2
                  obtain ⟨HLR, HRK⟩ := neck_is HK.out (digits_length j t) (digits_all j t) hr1 hr6
                  have hszd : (txtOf (digits j t)).size ≤ maxLen := by rw [txtOf_size, digits_length]; unfold maxLen; omega
                  have HC1 := Lib.hid (fun W => specLeastRoll_any (txtOf (digits j t)) W hszd)
                  have HC2 := Lib.hid (fun W a b => specRingOk_any m (txtOf (digits j t)) nv ev W a b hst hszd)
                  rw [HLR] at HC1
                  rw [HRK] at HC2
                  have hbq := txt_beq (leastR (digits j t)) (digits j t)
                  have y10 := ML.out.c0
                  have y11 := ML.out.c1
                  have y12 := ML.out.c2
                  have hcb := cntTo_bd (fun way => neckB m (digits j way)) t
                  clear hji hli HLR HRK hszd
                  by_cases he : leastR (digits j t) = digits j t
                  · rw [decide_eq_true he] at hbq
                    cases hg : decide (0 ≤ ringL m (digits j t)) with
                    | true =>
                      have HS := Lib.hid (cntTo_yes (fun way => neckB m (digits j way)) t (by show (decide _ && decide _) = true; rw [decide_eq_true he, hg]; rfl))
                      rw [hg] at HC2
                      rw [he] at *
                      generalize txtOf (digits j t) = dt at *
                      generalize cntTo (fun way => neckB m (digits j way)) t = cn at *
                      clear hg he
                      have hq6 : IntKind.i64.wrap (cn + 1) = cn + 1 := IntWalk.i64_in _ (by omega)
                      go_wp2_with (first | (go_at_call 48; refine (HC1.out _).mono ?_; rintro e w5 ⟨rfl, n5, rfl⟩; have M5 := Lib.hid (ML.out.below (below_drewN (Below.refl _ _) n5)); have Q5 := Lib.hid (below_drewN QL.out n5); have z10 := M5.out.c0; have z11 := M5.out.c1; have z12 := M5.out.c2) | (go_at_call 43; refine (HC2.out _ M5.out.ints M5.out.bools).mono ?_; rintro e w6 ⟨rfl, hb6⟩; have M6 := Lib.hid (M5.out.below hb6); have Q6 := Lib.hid (Q5.out.trans (hb6.mono Q5.out.size)); clear hb6))
                      go_roundw
                      case rel => exact ⟨t + 1, ti + 1, by have := HTI.out; omega, by omega, by first | rfl | rw [hq3], by rw [HS.out], M6.out, Q6.out⟩
                      case measure => simp [intOf]; have := HTI.out; omega
                    | false =>
                      have HS := Lib.hid (cntTo_no (fun way => neckB m (digits j way)) t (by show (decide _ && decide _) = false; rw [hg, Bool.and_false]))
                      rw [hg] at HC2
                      rw [he] at *
                      generalize txtOf (digits j t) = dt at *
                      generalize cntTo (fun way => neckB m (digits j way)) t = cn at *
                      clear hg he
                      go_wp2_with (first | (go_at_call 48; refine (HC1.out _).mono ?_; rintro e w5 ⟨rfl, n5, rfl⟩; have M5 := Lib.hid (ML.out.below (below_drewN (Below.refl _ _) n5)); have Q5 := Lib.hid (below_drewN QL.out n5); have z10 := M5.out.c0; have z11 := M5.out.c1; have z12 := M5.out.c2) | (go_at_call 43; refine (HC2.out _ M5.out.ints M5.out.bools).mono ?_; rintro e w6 ⟨rfl, hb6⟩; have M6 := Lib.hid (M5.out.below hb6); have Q6 := Lib.hid (Q5.out.trans (hb6.mono Q5.out.size)); clear hb6))
                      go_roundw
                      case rel => exact ⟨t + 1, ti + 1, by have := HTI.out; omega, by omega, by first | rfl | rw [hq3], by rw [HS.out], M6.out, Q6.out⟩
                      case measure => simp [intOf]; have := HTI.out; omega
                  · rw [decide_eq_false he] at hbq
                    have HS := Lib.hid (cntTo_no (fun way => neckB m (digits j way)) t (by show (decide _ && decide _) = false; rw [decide_eq_false he, Bool.false_and]))
                    generalize txtOf (leastR (digits j t)) = dl at *
                    generalize txtOf (digits j t) = dt at *
                    generalize cntTo (fun way => neckB m (digits j way)) t = cn at *
                    clear he
                    go_wp2_with (go_at_call 48; refine (HC1.out _).mono ?_; rintro e w5 ⟨rfl, n5, rfl⟩; have M5 := Lib.hid (ML.out.below (below_drewN (Below.refl _ _) n5)); have Q5 := Lib.hid (below_drewN QL.out n5))
                    go_roundw
                    case rel => exact ⟨t + 1, ti + 1, by have := HTI.out; omega, by omega, by first | rfl | rw [hq3], by rw [HS.out], M5.out, Q5.out⟩
                    case measure => simp [intOf]; have := HTI.out; omega
            · have htnl : ¬ ti < ai := by omega
              have htP2 : t = P3 := by omega
              clear hti hap
              have HFE : Hid (countNecks m n = cntTo (fun way => neckB m (digits r way)) t) := Lib.hid (by rw [HE.out, htP2])
              generalize cntTo (fun way => neckB m (digits r way)) t = cn at *
              go_wp2_with fail
              go_ret
              exact ⟨ret_int HFE.out.symm, QK.out⟩
    · have hrf : ringNum n = false := by simpa using hr
      have HE := Lib.hid (countNecks_no (m := m) (n := n) (by rw [hrf, Bool.and_false]))
      have HIN2 : Hid (∀ W, Calls Try.prog 68 #[.int .i64 n, .int .i64 1, .int .i64 6] W fun e w' => e = .returned (.bool false) ∧ W = w') := Lib.hid (fun W => by
        have := HIN.out W
        rwa [show (decide ((1 : Int) ≤ n) && decide (n ≤ 6)) = false from hrf] at this)
      clear hk hr HIN hrf
      go_wp2_with (go_at_call 68; refine (HIN2.out _).mono ?_; rintro e w2 ⟨rfl, rfl⟩)
      go_ret
      exact ⟨ret_int HE.out.symm, q1.out⟩
  · have hkf : m.ok = false := by simpa using hk
    have HE := Lib.hid (countNecks_no (m := m) (n := n) (by rw [hkf, Bool.false_and]))
    rw [hkf]
    clear hk hkf
    go_wp2_with fail
    go_ret
    exact ⟨ret_int HE.out.symm, q1.out⟩
end Go.Proofs.Ytpcependeealfaa
