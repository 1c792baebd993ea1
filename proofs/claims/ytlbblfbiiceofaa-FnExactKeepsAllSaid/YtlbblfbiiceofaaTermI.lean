/- TermOk of the program and of the model: what each returns, for every row of marks. No condition. -/
import Derived.Test.YtlbblfbiiceofaaPartsUnder
namespace Go.Proofs.Ytlbblfbiiceofaa
open Go.RowKit

theorem termOk_long {ts : List Mk} (h : 9 < ts.length) : termOk ts = false := by
  simp only [termOk, Bool.and_eq_false_iff, decide_eq_false_iff_not]
  exact .inl (by omega)
theorem termOk_end {ts : List Mk} {p : Nat} (h : leftOf (ts.take ts.length) 0 = some p) (hl : ts.length ≤ 9) : termOk ts = ((p : Int) == 1) := by
  rw [List.take_length] at h
  have e : decide (ts.length ≤ 9) = true := decide_eq_true hl
  rw [termOk, h, e, Bool.true_and]
  by_cases hp : p = 1
  · subst hp; rfl
  · rw [decide_eq_false (by simpa using hp)]
    have : ((p : Int) == 1) = false := by simp; omega
    rw [this]
theorem leftOf_yes {ts : List Mk} {k p : Nat} (hk : k < ts.length) (h : leftOf (ts.take k) 0 = some p) (hf : ts[k].fine = true) (hu : ts[k].under ≤ p) : leftOf (ts.take (k + 1)) 0 = some (p + 1 - ts[k].under) := by
  rw [leftOf_succ hk h, stepP, if_pos ⟨hf, hu⟩]
theorem leftOf_no {ts : List Mk} {k p : Nat} (hk : k < ts.length) (h : leftOf (ts.take k) 0 = some p) (hf : ¬ (ts[k].fine = true ∧ ts[k].under ≤ p)) : termOk ts = false :=
  termOk_stop (k := k + 1) (by rw [leftOf_succ hk h, stepP, if_neg hf])
theorem left_le {ts : List Mk} {k p : Nat} (hk : k ≤ ts.length) (h : leftOf (ts.take k) 0 = some p) : p ≤ k := by
  have := leftOf_le _ _ _ h
  rw [List.length_take] at this
  omega
theorem Mk.under_le (m : Mk) : m.under ≤ 2 := by
  unfold Mk.under
  by_cases h0 : m.kind = 0
  · rw [if_pos h0]; omega
  · rw [if_neg h0]
    by_cases h3 : m.kind = 3
    · rw [if_pos h3]; omega
    · rw [if_neg h3]; exact Nat.le_refl _

set_option maxHeartbeats 1600000 in
theorem implTermOk_any (ms : List Mk) (hwf : ∀ m ∈ ms, m.wf) (v : Value) (w : World) (h : IsMarks w v ms) :
    Calls Try.prog 70 #[v] w fun e w' => e = .returned (.bool (termOk ms)) ∧ Below w.heap.size w w' := by
  obtain ⟨a, cap, rfl, ha1, ha2, ha⟩ := h
  have HA := Lib.hid ha
  have HWF := Lib.hid hwf
  unfold maxLen at ha2
  clear ha hwf
  by_cases hb : 9 < ms.length
  · have HE := Lib.hid (termOk_long hb)
    go_enter Try.func70, Try.ntmps70
    go_wp2_with fail
    go_ret
    exact ⟨ret_bool HE.out.symm, Below.refl _ _⟩
  · go_enter Try.func70, Try.ntmps70
    go_wp2_with fail
    go_loopw [3, 13] (fun l i wr => ∃ (k p : Nat), k ≤ ms.length ∧ i = .int .i64 k ∧ l = .int .i64 p ∧ leftOf (ms.take k) 0 = some p ∧ Below w.heap.size w wr) (fun _ i _ => ms.length - (intOf i).toNat)
    case atStart => exact ⟨0, 0, Nat.zero_le _, rfl, rfl, rfl, Below.refl _ _⟩
    case round =>
      obtain ⟨k, p, hk, rfl, rfl, hp, hbel⟩ := hrel
      have hpk := left_le hk hp
      by_cases hlt : k < ms.length
      · obtain ⟨g, off, rfl, hg, hc⟩ := HA.out.resolve_left (fun h => by rw [h] at hlt; exact absurd hlt (Nat.not_lt_zero k))
        obtain ⟨c0, c1, c2, c3, c4⟩ := (hc k hlt).below hbel hg
        have HU := Lib.hid (fun W => partsUnder_any ms[k] (HWF.out ms[k] (List.getElem_mem hlt)) W)
        have HY := Lib.hid (leftOf_yes hlt hp)
        have HN := Lib.hid (leftOf_no hlt hp)
        have BB := Lib.hid hbel
        clear hc hbel hp
        generalize ms[k] = m at *
        obtain ⟨k1, r1, l1, t1, n1⟩ := m
        have HU2 : Hid (∀ W, Calls Try.prog 88 #[.agg #[.int .i64 k1, .int .i64 r1, .string l1, .string t1, .int .i64 n1]] W (UnderPost ⟨k1, r1, l1, t1, n1⟩ W)) := Lib.hid HU.out
        clear HU
        simp only at c0 c1 c2 c3 c4
        go_wp2_with fail
        refine (HU2.out _).mono ?_
        rintro e w2 ⟨u, rfl, hu, hb2⟩
        have B2 := Lib.hid (BB.out.trans (((Below.refl wr.heap.size wr).alloc (Nat.le_refl _) _).trans (hb2.mono (by simp)) |>.mono BB.out.size))
        clear hb2
        generalize (Mk.mk k1 ⟨r1, l1, t1, n1⟩).fine = fb at *
        have hu3 := Mk.under_le ⟨k1, r1, l1, t1, n1⟩
        generalize (Mk.mk k1 ⟨r1, l1, t1, n1⟩).under = uu at *
        cases fb with
        | false =>
          have HE := Lib.hid (HN.out (by simp))
          clear hu
          go_wp2_with fail
          go_ret
          exact ⟨ret_bool HE.out.symm, B2.out⟩
        | true =>
          have hu' := hu rfl
          subst hu'
          clear hu
          by_cases hup : uu ≤ p
          · have hp2 := Lib.hid (HY.out rfl hup)
            go_wp2_with fail
            go_roundw
            case rel => exact ⟨k + 1, p + 1 - uu, by omega, by go_num, by go_num, hp2.out, B2.out⟩
            case measure => simp [intOf]; omega
          · have HE := Lib.hid (HN.out (fun h => hup h.2))
            go_wp2_with fail
            go_ret
            exact ⟨ret_bool HE.out.symm, B2.out⟩
      · obtain rfl : k = ms.length := by omega
        have HE := Lib.hid (termOk_end hp (by omega))
        clear hp
        go_wp2_with fail
        go_ret
        exact ⟨ret_bool HE.out.symm, hbel⟩

set_option maxHeartbeats 1600000 in
theorem specTermOk_any (ms : List Mk) (v : Value) (w : World) (h : IsMarks w v ms) (hl : ms.length ≤ 1048576) :
    Calls Try.prog 35 #[v] w fun e w' => e = .returned (.bool (termOk ms)) ∧ Below w.heap.size w w' := by
  obtain ⟨a, cap, rfl, ha1, ha2, ha⟩ := h
  have HA := Lib.hid ha
  unfold maxLen at ha2
  clear ha
  go_enter Try.func35, Try.ntmps35
  go_wp2_with fail
  go_loopw [3, 4] (fun l i wr => ∃ (k p : Nat), k ≤ ms.length ∧ i = .int .i64 k ∧ l = .int .i64 p ∧ leftOf (ms.take k) 0 = some p ∧ Below w.heap.size w wr) (fun _ i _ => ms.length - (intOf i).toNat)
  case atStart => exact ⟨0, 0, Nat.zero_le _, rfl, rfl, rfl, Below.refl _ _⟩
  case round =>
    obtain ⟨k, p, hk, rfl, rfl, hp, hbel⟩ := hrel
    have hpk := left_le hk hp
    by_cases hlt : k < ms.length
    · obtain ⟨g, off, rfl, hg, hc⟩ := HA.out.resolve_left (fun h => by rw [h] at hlt; exact absurd hlt (Nat.not_lt_zero k))
      obtain ⟨c0, c1, c2, c3, c4⟩ := (hc k hlt).below hbel hg
      have HCK := Lib.hid (fun w' (hb : Below w.heap.size w w') => (hc k hlt).below hb hg)
      have HY := Lib.hid (leftOf_yes hlt hp)
      have HN := Lib.hid (leftOf_no hlt hp)
      have BB := Lib.hid hbel
      clear hc hbel hp
      generalize ms[k] = m at *
      obtain ⟨k1, r1, l1, t1, n1⟩ := m
      have HC2 : Hid (∀ w', Below w.heap.size w w' → w'.cell? ⟨g, off + k * 5, none⟩ = some (.int .i64 k1) ∧ w'.cell? ⟨g, off + k * 5 + 1, none⟩ = some (.int .i64 r1) ∧ w'.cell? ⟨g, off + k * 5 + 2, none⟩ = some (.string l1) ∧ w'.cell? ⟨g, off + k * 5 + 3, none⟩ = some (.string t1) ∧ w'.cell? ⟨g, off + k * 5 + 4, none⟩ = some (.int .i64 n1)) := Lib.hid HCK.out
      clear HCK
      simp only at c0 c1 c2 c3 c4
      by_cases k0 : k1 = 0
      · subst k0
        have HR := Lib.hid (fun W => specRuleOk_any r1 l1 t1 n1 W)
        have hf : (Mk.mk 0 ⟨r1, l1, t1, n1⟩).fine = (Ru.mk r1 l1 t1 n1).ok := by simp [Mk.fine]
        have hu : (Mk.mk 0 ⟨r1, l1, t1, n1⟩).under = 0 := by simp [Mk.under]
        rw [hf, hu] at HY HN
        clear hf hu
        generalize (Ru.mk r1 l1 t1 n1).ok = fb at *
        cases fb with
        | true =>
          have hp2 := Lib.hid (HY.out rfl (Nat.zero_le _))
          go_wp2_with (go_at_call 69; refine (HR.out _).mono ?_; rintro e w2 ⟨rfl, hb2⟩)
          go_roundw
          case rel => exact ⟨k + 1, p + 1 - 0, by omega, by go_num, by go_num, hp2.out, BB.out.trans (hb2.mono BB.out.size)⟩
          case measure => simp [intOf]; omega
        | false =>
          have HE := Lib.hid (HN.out (by simp))
          go_wp2_with (go_at_call 69; refine (HR.out _).mono ?_; rintro e w2 ⟨rfl, hb2⟩; obtain ⟨d0, d1, d2, d3, d4⟩ := HC2.out w2 (BB.out.trans (hb2.mono BB.out.size)))
          go_ret
          exact ⟨ret_bool HE.out.symm, BB.out.trans (hb2.mono BB.out.size)⟩
      · by_cases k123 : k1 = 1 ∨ k1 = 2 ∨ k1 = 3
        · have hf := fine_void (r := ⟨r1, l1, t1, n1⟩) k123
          by_cases hv : (Ru.mk r1 l1 t1 n1).isVoid = true
          · have hve := Ru.isVoid_iff.1 hv
            simp only [Ru.void, Ru.mk.injEq] at hve
            obtain ⟨rfl, rfl, rfl, rfl⟩ := hve
            rw [hf, hv] at HY HN
            clear hf hv k0
            rcases k123 with rfl | rfl | rfl
            · have hu : (Mk.mk 1 ⟨0, ⟨#[]⟩, ⟨#[]⟩, 0⟩).under = 2 := by simp [Mk.under]
              rw [hu] at HY HN
              clear hu
              by_cases h2 : 2 ≤ p
              · have hp2 := Lib.hid (HY.out rfl h2)
                go_wp2_with fail
                go_roundw
                case rel => exact ⟨k + 1, p + 1 - 2, by omega, by go_num, by go_num, hp2.out, BB.out⟩
                case measure => simp [intOf]; omega
              · have HE := Lib.hid (HN.out (fun h => h2 h.2))
                go_wp2_with fail
                go_ret
                exact ⟨ret_bool HE.out.symm, BB.out⟩
            · have hu : (Mk.mk 2 ⟨0, ⟨#[]⟩, ⟨#[]⟩, 0⟩).under = 2 := by simp [Mk.under]
              rw [hu] at HY HN
              clear hu
              by_cases h2 : 2 ≤ p
              · have hp2 := Lib.hid (HY.out rfl h2)
                go_wp2_with fail
                go_roundw
                case rel => exact ⟨k + 1, p + 1 - 2, by omega, by go_num, by go_num, hp2.out, BB.out⟩
                case measure => simp [intOf]; omega
              · have HE := Lib.hid (HN.out (fun h => h2 h.2))
                go_wp2_with fail
                go_ret
                exact ⟨ret_bool HE.out.symm, BB.out⟩
            · have hu : (Mk.mk 3 ⟨0, ⟨#[]⟩, ⟨#[]⟩, 0⟩).under = 1 := by simp [Mk.under]
              rw [hu] at HY HN
              clear hu
              by_cases h2 : 1 ≤ p
              · have hp2 := Lib.hid (HY.out rfl h2)
                go_wp2_with fail
                go_roundw
                case rel => exact ⟨k + 1, p + 1 - 1, by omega, by go_num, by go_num, hp2.out, BB.out⟩
                case measure => simp [intOf]; omega
              · have HE := Lib.hid (HN.out (fun h => h2 h.2))
                go_wp2_with fail
                go_ret
                exact ⟨ret_bool HE.out.symm, BB.out⟩
          · have hv' : (Ru.mk r1 l1 t1 n1).isVoid = false := by simpa using hv
            have HE := Lib.hid (HN.out (by rw [hf, hv']; simp))
            have hvp := isVoid_parts r1 l1 t1 n1
            rw [hv'] at hvp
            have hveq : ∀ W : World, (if r1 = 0 then if l1.toList = [] then if t1.toList = [] then if n1 = 0 then Result.ok (Next.value (Value.bool true)) W else Result.ok (Next.value (Value.bool false)) W else Result.ok (Next.value (Value.bool false)) W else Result.ok (Next.value (Value.bool false)) W else Result.ok (Next.value (Value.bool false)) W) = Result.ok (Next.value (Value.bool false)) W := fun W => by
              by_cases ha : r1 = 0
              · by_cases hb : l1.toList = []
                · by_cases hc : t1.toList = []
                  · by_cases hd : n1 = 0
                    · rw [ha, hb, hc, hd] at hvp; exact absurd hvp (by decide)
                    · simp [ha, hb, hc, hd]
                  · simp [ha, hb, hc]
                · simp [ha, hb]
              · simp [ha]
            clear hf hv hv' hvp k0
            rcases k123 with rfl | rfl | rfl
            · go_wp2_with fail
              go_ret
              exact ⟨ret_bool HE.out.symm, BB.out⟩
            · go_wp2_with fail
              go_ret
              exact ⟨ret_bool HE.out.symm, BB.out⟩
            · go_wp2_with fail
              go_ret
              exact ⟨ret_bool HE.out.symm, BB.out⟩
        · have hf : (Mk.mk k1 ⟨r1, l1, t1, n1⟩).fine = false := by simp only [Mk.fine]; rw [if_neg k0, if_neg k123]
          have HE := Lib.hid (HN.out (by rw [hf]; simp))
          have e1 : (k1 == 0) = false := by simpa using k0
          have e2 : ¬ k1 = 1 := fun h => k123 (.inl h)
          have e3 : ¬ k1 = 2 := fun h => k123 (.inr (.inl h))
          have e4 : ¬ k1 = 3 := fun h => k123 (.inr (.inr h))
          clear hf k123
          go_wp2_with fail
          go_ret
          exact ⟨ret_bool HE.out.symm, BB.out⟩
    · obtain rfl : k = ms.length := by omega
      by_cases h9 : ms.length ≤ 9
      · have HE := Lib.hid (termOk_end hp h9)
        by_cases hp1 : ((p : Int) == 1) = true
        · rw [hp1] at HE
          go_wp2_with fail
          go_ret
          exact ⟨ret_bool (by rw [HE.out]; first | rfl | exact decide_eq_true (by omega) | exact decide_eq_false (by omega)), hbel⟩
        · have hp1' : ((p : Int) == 1) = false := by simpa using hp1
          rw [hp1'] at HE
          clear hp1
          go_wp2_with fail
          go_ret
          exact ⟨ret_bool HE.out.symm, hbel⟩
      · have HE := Lib.hid (termOk_long (by omega : 9 < ms.length))
        by_cases hp1 : ((p : Int) == 1) = true
        · go_wp2_with fail
          go_ret
          exact ⟨ret_bool (by rw [HE.out]; first | rfl | exact decide_eq_true (by omega) | exact decide_eq_false (by omega)), hbel⟩
        · have hp1' : ((p : Int) == 1) = false := by simpa using hp1
          clear hp1
          go_wp2_with fail
          go_ret
          exact ⟨ret_bool HE.out.symm, hbel⟩
end Go.Proofs.Ytlbblfbiiceofaa
