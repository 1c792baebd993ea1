/- The contract of partsUnder. No condition. TermOk of the program and of the model: what each returns, for every row of marks. No condition. spec.MachineOf. No condition. Drawing a machine and a number of letters. No condition. Drawing a machine and a word behind it. No condition. Rolls of a row of letters, the first of them, and how many there are. No program, no condition. Rings of a machine, walks that lead back, and necklaces: plain functions. No program, no condition. StateFrom, RingState and RingOk, the model's and the program's: what each returns, at every machine and text. No condition.  -/
import Derived.Test.YtpcependeealfaaCkA
import Derived.Outline
import Derived.RegionTactic
import Derived.Test.YtpcependeealfaaCkG
import Derived.Deep.CutBlock
import Derived.Test.YtpcependeealfaaCkI
import Derived.Test.YtpcependeealfaaMath
import Derived.Test.YtpcependeealfaaStep
import Derived.Test.YtpcependeealfaaAfter

namespace Go.Proofs.Ytpcependeealfaa
open Go.RowKit

def UnderPost (m : Mk) (w : World) (e : Ending) (w' : World) : Prop := ∃ u : Int, e = .returned (.tuple #[.int .i64 u, .bool m.fine]) ∧ (m.fine = true → u = (m.under : Int)) ∧ Below w.heap.size w w'
theorem fine_void {k : Int} {r : Ru} (h : k = 1 ∨ k = 2 ∨ k = 3) : (Mk.mk k r).fine = r.isVoid := by
  rcases h with rfl | rfl | rfl <;> simp [Mk.fine]
theorem isVoid_parts (a : Int) (b c : ByteArray) (d : Int) : (Ru.mk a b c d).isVoid = ((a == 0) && (b.toList == []) && (c.toList == []) && (d == 0)) := by
  have e : ∀ t : ByteArray, noThen t = (t.toList == []) := fun t => by
    rw [ByteArray.toList_eq]
    cases t with
    | mk l => cases l with
      | mk l => cases l <;> simp [noThen]
  have f : ∀ x : Int, decide (x = 0) = (x == 0) := fun x => by by_cases h : x = 0 <;> simp [h]
  simp only [Ru.isVoid, e, f]

set_option maxHeartbeats 1600000 in
theorem partsUnder_any (m : Mk) (hm : m.wf) (w : World) : Calls Try.prog 72 #[m.val] w (UnderPost m w) := by
  obtain ⟨k, a, b, c, d⟩ := m
  obtain ⟨-, -, h1, h2, -⟩ := hm
  show Calls Try.prog _ #[.agg #[.int .i64 k, .int .i64 a, .string b, .string c, .int .i64 d]] w _
  by_cases k0 : k = 0
  · subst k0
    have HF : Hid ((Mk.mk 0 ⟨a, b, c, d⟩).fine = (Ru.mk a b c d).ok) := Lib.hid (by simp [Mk.fine])
    have HU : Hid ((Mk.mk 0 ⟨a, b, c, d⟩).under = 0) := Lib.hid (by simp [Mk.under])
    go_enter Try.func72, Try.ntmps72
    go_wp2_with (go_at_call 115; refine (implRuleOk_any a b c d _ h1 h2).mono ?_; rintro e w' ⟨rfl, hb⟩)
    go_ret2
    exact ⟨0, by rw [HF.out]; rfl, fun _ => by rw [HU.out]; rfl, (Go.Joins.below_alloc1 _ _).trans (hb.mono (by simp))⟩
  · by_cases k123 : k = 1 ∨ k = 2 ∨ k = 3
    · have HF : Hid ((Mk.mk k ⟨a, b, c, d⟩).fine = ((a == 0) && (b.toList == []) && (c.toList == []) && (d == 0))) := Lib.hid (by rw [fine_void k123, isVoid_parts])
      have HU : Hid (((Mk.mk k ⟨a, b, c, d⟩).under : Int) = if k = 3 then 1 else 2) := Lib.hid (by simp only [Mk.under]; rw [if_neg k0]; split <;> rfl)
      have hveq : ∀ W : World, (if a = 0 then if b.toList = [] then if c.toList = [] then if d = 0 then Result.ok (Next.value (Value.bool true)) W else Result.ok (Next.value (Value.bool false)) W else Result.ok (Next.value (Value.bool false)) W else Result.ok (Next.value (Value.bool false)) W else Result.ok (Next.value (Value.bool false)) W) = Result.ok (Next.value (Value.bool (Mk.mk k ⟨a, b, c, d⟩).fine)) W := fun W => by
        rw [HF.out]
        by_cases ha : a = 0
        · by_cases hb : b.toList = []
          · by_cases hc : c.toList = []
            · by_cases hd : d = 0
              · simp [ha, hb, hc, hd]
              · simp [ha, hb, hc, hd]
            · simp [ha, hb, hc]
          · simp [ha, hb]
        · simp [ha]
      clear k0 HF
      generalize hfb : (Mk.mk k ⟨a, b, c, d⟩).fine = fb at *
      have HFB := Lib.hid hfb
      clear hfb
      rcases k123 with rfl | rfl | rfl
      · go_enter Try.func72, Try.ntmps72
        go_wp2_with fail
        go_region
        go_wp2_with fail
        go_ret2
        exact ⟨2, by rw [HFB.out]; rfl, fun _ => by rw [HU.out]; rfl, (Go.Joins.below_alloc1 _ _).drew⟩
      · go_enter Try.func72, Try.ntmps72
        go_wp2_with fail
        go_region
        go_wp2_with fail
        go_ret2
        exact ⟨2, by rw [HFB.out]; rfl, fun _ => by rw [HU.out]; rfl, (Go.Joins.below_alloc1 _ _).drew⟩
      · go_enter Try.func72, Try.ntmps72
        go_wp2_with fail
        go_region
        go_wp2_with fail
        go_ret2
        exact ⟨1, by rw [HFB.out]; rfl, fun _ => by rw [HU.out]; rfl, (Go.Joins.below_alloc1 _ _).drew⟩
    · have HF : Hid ((Mk.mk k ⟨a, b, c, d⟩).fine = false) := Lib.hid (by simp only [Mk.fine]; rw [if_neg k0, if_neg k123])
      have e1 : (k == 0) = false := by simpa using k0
      have e2 : (k == 1) = false := by simp; omega
      have e3 : (k == 2) = false := by simp; omega
      have e4 : (k == 3) = false := by simp; omega
      clear k0 k123
      go_enter Try.func72, Try.ntmps72
      go_wp2_with fail
      go_ret2
      exact ⟨0, by rw [HF.out]; rfl, (fun h => absurd h (by rw [HF.out]; decide)), Go.Joins.below_alloc1 _ _⟩
end Go.Proofs.Ytpcependeealfaa

namespace Go.Proofs.Ytpcependeealfaa
open Go.RowKit

theorem termOk_long {ts : List Mk} (h : 9 < ts.length) : termOk ts = false := by
  simp only [termOk, Bool.and_eq_false_iff, decide_eq_false_iff_not]
  exact .inl (by omega)
theorem termOk_end {ts : List Mk} {p : Nat} (h : leftOf (ts.take ts.length) 0 = some p) (hl : ts.length ≤ 9) : termOk ts = ((p : Int) == 1) := by
  rw [List.take_length] at h
  have e : decide (ts.length ≤ 9) = true := decide_eq_true hl
  rw [termOk, h, e, Bool.true_and]
  by_cases hp : p = 1
  · subst hp; rfl
  · rw [decide_eq_false (by simpa using hp)]
    have : ((p : Int) == 1) = false := by simp; omega
    rw [this]
theorem leftOf_yes {ts : List Mk} {k p : Nat} (hk : k < ts.length) (h : leftOf (ts.take k) 0 = some p) (hf : ts[k].fine = true) (hu : ts[k].under ≤ p) : leftOf (ts.take (k + 1)) 0 = some (p + 1 - ts[k].under) := by
  rw [leftOf_succ hk h, stepP, if_pos ⟨hf, hu⟩]
theorem leftOf_no {ts : List Mk} {k p : Nat} (hk : k < ts.length) (h : leftOf (ts.take k) 0 = some p) (hf : ¬ (ts[k].fine = true ∧ ts[k].under ≤ p)) : termOk ts = false :=
  termOk_stop (k := k + 1) (by rw [leftOf_succ hk h, stepP, if_neg hf])
theorem left_le {ts : List Mk} {k p : Nat} (hk : k ≤ ts.length) (h : leftOf (ts.take k) 0 = some p) : p ≤ k := by
  have := leftOf_le _ _ _ h
  rw [List.length_take] at this
  omega
theorem Mk.under_le (m : Mk) : m.under ≤ 2 := by
  unfold Mk.under
  by_cases h0 : m.kind = 0
  · rw [if_pos h0]; omega
  · rw [if_neg h0]
    by_cases h3 : m.kind = 3
    · rw [if_pos h3]; omega
    · rw [if_neg h3]; exact Nat.le_refl _

set_option maxHeartbeats 1600000 in
theorem implTermOk_any (ms : List Mk) (hwf : ∀ m ∈ ms, m.wf) (v : Value) (w : World) (h : IsMarks w v ms) :
    Calls Try.prog 29 #[v] w fun e w' => e = .returned (.bool (termOk ms)) ∧ Below w.heap.size w w' := by
  obtain ⟨a, cap, rfl, ha1, ha2, ha⟩ := h
  have HA := Lib.hid ha
  have HWF := Lib.hid hwf
  unfold maxLen at ha2
  clear ha hwf
  by_cases hb : 9 < ms.length
  · have HE := Lib.hid (termOk_long hb)
    go_enter Try.func29, Try.ntmps29
    go_wp2_with fail
    go_ret
    exact ⟨ret_bool HE.out.symm, Below.refl _ _⟩
  · go_enter Try.func29, Try.ntmps29
    go_wp2_with fail
    go_loopw [3, 13] (fun l i wr => ∃ (k p : Nat), k ≤ ms.length ∧ i = .int .i64 k ∧ l = .int .i64 p ∧ leftOf (ms.take k) 0 = some p ∧ Below w.heap.size w wr) (fun _ i _ => ms.length - (intOf i).toNat)
    case atStart => exact ⟨0, 0, Nat.zero_le _, rfl, rfl, rfl, Below.refl _ _⟩
    case round =>
      obtain ⟨k, p, hk, rfl, rfl, hp, hbel⟩ := hrel
      have hpk := left_le hk hp
      by_cases hlt : k < ms.length
      · obtain ⟨g, off, rfl, hg, hc⟩ := HA.out.resolve_left (fun h => by rw [h] at hlt; exact absurd hlt (Nat.not_lt_zero k))
        obtain ⟨c0, c1, c2, c3, c4⟩ := (hc k hlt).below hbel hg
        have HU := Lib.hid (fun W => partsUnder_any ms[k] (HWF.out ms[k] (List.getElem_mem hlt)) W)
        have HY := Lib.hid (leftOf_yes hlt hp)
        have HN := Lib.hid (leftOf_no hlt hp)
        have BB := Lib.hid hbel
        clear hc hbel hp
        generalize ms[k] = m at *
        obtain ⟨k1, r1, l1, t1, n1⟩ := m
        have HU2 : Hid (∀ W, Calls Try.prog 72 #[.agg #[.int .i64 k1, .int .i64 r1, .string l1, .string t1, .int .i64 n1]] W (UnderPost ⟨k1, r1, l1, t1, n1⟩ W)) := Lib.hid HU.out
        clear HU
        simp only at c0 c1 c2 c3 c4
        go_wp2_with fail
        refine (HU2.out _).mono ?_
        rintro e w2 ⟨u, rfl, hu, hb2⟩
        have B2 := Lib.hid (BB.out.trans (((Below.refl wr.heap.size wr).alloc (Nat.le_refl _) _).trans (hb2.mono (by simp)) |>.mono BB.out.size))
        clear hb2
        generalize (Mk.mk k1 ⟨r1, l1, t1, n1⟩).fine = fb at *
        have hu3 := Mk.under_le ⟨k1, r1, l1, t1, n1⟩
        generalize (Mk.mk k1 ⟨r1, l1, t1, n1⟩).under = uu at *
        cases fb with
        | false =>
          have HE := Lib.hid (HN.out (by simp))
          clear hu
          go_wp2_with fail
          go_ret
          exact ⟨ret_bool HE.out.symm, B2.out⟩
        | true =>
          have hu' := hu rfl
          subst hu'
          clear hu
          by_cases hup : uu ≤ p
          · have hp2 := Lib.hid (HY.out rfl hup)
            go_wp2_with fail
            go_roundw
            case rel => exact ⟨k + 1, p + 1 - uu, by omega, by go_num, by go_num, hp2.out, B2.out⟩
            case measure => simp [intOf]; omega
          · have HE := Lib.hid (HN.out (fun h => hup h.2))
            go_wp2_with fail
            go_ret
            exact ⟨ret_bool HE.out.symm, B2.out⟩
      · obtain rfl : k = ms.length := by omega
        have HE := Lib.hid (termOk_end hp (by omega))
        clear hp
        go_wp2_with fail
        go_ret
        exact ⟨ret_bool HE.out.symm, hbel⟩

set_option maxHeartbeats 1600000 in
theorem specTermOk_any (ms : List Mk) (v : Value) (w : World) (h : IsMarks w v ms) (hl : ms.length ≤ 1048576) :
    Calls Try.prog 30 #[v] w fun e w' => e = .returned (.bool (termOk ms)) ∧ Below w.heap.size w w' := by
  obtain ⟨a, cap, rfl, ha1, ha2, ha⟩ := h
  have HA := Lib.hid ha
  unfold maxLen at ha2
  clear ha
  go_enter Try.func30, Try.ntmps30
  go_wp2_with fail
  go_loopw [3, 4] (fun l i wr => ∃ (k p : Nat), k ≤ ms.length ∧ i = .int .i64 k ∧ l = .int .i64 p ∧ leftOf (ms.take k) 0 = some p ∧ Below w.heap.size w wr) (fun _ i _ => ms.length - (intOf i).toNat)
  case atStart => exact ⟨0, 0, Nat.zero_le _, rfl, rfl, rfl, Below.refl _ _⟩
  case round =>
    obtain ⟨k, p, hk, rfl, rfl, hp, hbel⟩ := hrel
    have hpk := left_le hk hp
    by_cases hlt : k < ms.length
    · obtain ⟨g, off, rfl, hg, hc⟩ := HA.out.resolve_left (fun h => by rw [h] at hlt; exact absurd hlt (Nat.not_lt_zero k))
      obtain ⟨c0, c1, c2, c3, c4⟩ := (hc k hlt).below hbel hg
      have HCK := Lib.hid (fun w' (hb : Below w.heap.size w w') => (hc k hlt).below hb hg)
      have HY := Lib.hid (leftOf_yes hlt hp)
      have HN := Lib.hid (leftOf_no hlt hp)
      have BB := Lib.hid hbel
      clear hc hbel hp
      generalize ms[k] = m at *
      obtain ⟨k1, r1, l1, t1, n1⟩ := m
      have HC2 : Hid (∀ w', Below w.heap.size w w' → w'.cell? ⟨g, off + k * 5, none⟩ = some (.int .i64 k1) ∧ w'.cell? ⟨g, off + k * 5 + 1, none⟩ = some (.int .i64 r1) ∧ w'.cell? ⟨g, off + k * 5 + 2, none⟩ = some (.string l1) ∧ w'.cell? ⟨g, off + k * 5 + 3, none⟩ = some (.string t1) ∧ w'.cell? ⟨g, off + k * 5 + 4, none⟩ = some (.int .i64 n1)) := Lib.hid HCK.out
      clear HCK
      simp only at c0 c1 c2 c3 c4
      by_cases k0 : k1 = 0
      · subst k0
        have HR := Lib.hid (fun W => specRuleOk_any r1 l1 t1 n1 W)
        have hf : (Mk.mk 0 ⟨r1, l1, t1, n1⟩).fine = (Ru.mk r1 l1 t1 n1).ok := by simp [Mk.fine]
        have hu : (Mk.mk 0 ⟨r1, l1, t1, n1⟩).under = 0 := by simp [Mk.under]
        rw [hf, hu] at HY HN
        clear hf hu
        generalize (Ru.mk r1 l1 t1 n1).ok = fb at *
        cases fb with
        | true =>
          have hp2 := Lib.hid (HY.out rfl (Nat.zero_le _))
          go_wp2_with (go_at_call 73; refine (HR.out _).mono ?_; rintro e w2 ⟨rfl, hb2⟩)
          go_roundw
          case rel => exact ⟨k + 1, p + 1 - 0, by omega, by go_num, by go_num, hp2.out, BB.out.trans (hb2.mono BB.out.size)⟩
          case measure => simp [intOf]; omega
        | false =>
          have HE := Lib.hid (HN.out (by simp))
          go_wp2_with (go_at_call 73; refine (HR.out _).mono ?_; rintro e w2 ⟨rfl, hb2⟩; obtain ⟨d0, d1, d2, d3, d4⟩ := HC2.out w2 (BB.out.trans (hb2.mono BB.out.size)))
          go_ret
          exact ⟨ret_bool HE.out.symm, BB.out.trans (hb2.mono BB.out.size)⟩
      · by_cases k123 : k1 = 1 ∨ k1 = 2 ∨ k1 = 3
        · have hf := fine_void (r := ⟨r1, l1, t1, n1⟩) k123
          by_cases hv : (Ru.mk r1 l1 t1 n1).isVoid = true
          · have hve := Ru.isVoid_iff.1 hv
            simp only [Ru.void, Ru.mk.injEq] at hve
            obtain ⟨rfl, rfl, rfl, rfl⟩ := hve
            rw [hf, hv] at HY HN
            clear hf hv k0
            rcases k123 with rfl | rfl | rfl
            · have hu : (Mk.mk 1 ⟨0, ⟨#[]⟩, ⟨#[]⟩, 0⟩).under = 2 := by simp [Mk.under]
              rw [hu] at HY HN
              clear hu
              by_cases h2 : 2 ≤ p
              · have hp2 := Lib.hid (HY.out rfl h2)
                go_wp2_with fail
                go_roundw
                case rel => exact ⟨k + 1, p + 1 - 2, by omega, by go_num, by go_num, hp2.out, BB.out⟩
                case measure => simp [intOf]; omega
              · have HE := Lib.hid (HN.out (fun h => h2 h.2))
                go_wp2_with fail
                go_ret
                exact ⟨ret_bool HE.out.symm, BB.out⟩
            · have hu : (Mk.mk 2 ⟨0, ⟨#[]⟩, ⟨#[]⟩, 0⟩).under = 2 := by simp [Mk.under]
              rw [hu] at HY HN
              clear hu
              by_cases h2 : 2 ≤ p
              · have hp2 := Lib.hid (HY.out rfl h2)
                go_wp2_with fail
                go_roundw
                case rel => exact ⟨k + 1, p + 1 - 2, by omega, by go_num, by go_num, hp2.out, BB.out⟩
                case measure => simp [intOf]; omega
              · have HE := Lib.hid (HN.out (fun h => h2 h.2))
                go_wp2_with fail
                go_ret
                exact ⟨ret_bool HE.out.symm, BB.out⟩
            · have hu : (Mk.mk 3 ⟨0, ⟨#[]⟩, ⟨#[]⟩, 0⟩).under = 1 := by simp [Mk.under]
              rw [hu] at HY HN
              clear hu
              by_cases h2 : 1 ≤ p
              · have hp2 := Lib.hid (HY.out rfl h2)
                go_wp2_with fail
                go_roundw
                case rel => exact ⟨k + 1, p + 1 - 1, by omega, by go_num, by go_num, hp2.out, BB.out⟩
                case measure => simp [intOf]; omega
              · have HE := Lib.hid (HN.out (fun h => h2 h.2))
                go_wp2_with fail
                go_ret
                exact ⟨ret_bool HE.out.symm, BB.out⟩
          · have hv' : (Ru.mk r1 l1 t1 n1).isVoid = false := by simpa using hv
            have HE := Lib.hid (HN.out (by rw [hf, hv']; simp))
            have hvp := isVoid_parts r1 l1 t1 n1
            rw [hv'] at hvp
            have hveq : ∀ W : World, (if r1 = 0 then if l1.toList = [] then if t1.toList = [] then if n1 = 0 then Result.ok (Next.value (Value.bool true)) W else Result.ok (Next.value (Value.bool false)) W else Result.ok (Next.value (Value.bool false)) W else Result.ok (Next.value (Value.bool false)) W else Result.ok (Next.value (Value.bool false)) W) = Result.ok (Next.value (Value.bool false)) W := fun W => by
              by_cases ha : r1 = 0
              · by_cases hb : l1.toList = []
                · by_cases hc : t1.toList = []
                  · by_cases hd : n1 = 0
                    · rw [ha, hb, hc, hd] at hvp; exact absurd hvp (by decide)
                    · simp [ha, hb, hc, hd]
                  · simp [ha, hb, hc]
                · simp [ha, hb]
              · simp [ha]
            clear hf hv hv' hvp k0
            rcases k123 with rfl | rfl | rfl
            · go_wp2_with fail
              go_ret
              exact ⟨ret_bool HE.out.symm, BB.out⟩
            · go_wp2_with fail
              go_ret
              exact ⟨ret_bool HE.out.symm, BB.out⟩
            · go_wp2_with fail
              go_ret
              exact ⟨ret_bool HE.out.symm, BB.out⟩
        · have hf : (Mk.mk k1 ⟨r1, l1, t1, n1⟩).fine = false := by simp only [Mk.fine]; rw [if_neg k0, if_neg k123]
          have HE := Lib.hid (HN.out (by rw [hf]; simp))
          have e1 : (k1 == 0) = false := by simpa using k0
          have e2 : ¬ k1 = 1 := fun h => k123 (.inl h)
          have e3 : ¬ k1 = 2 := fun h => k123 (.inr (.inl h))
          have e4 : ¬ k1 = 3 := fun h => k123 (.inr (.inr h))
          clear hf k123
          go_wp2_with fail
          go_ret
          exact ⟨ret_bool HE.out.symm, BB.out⟩
    · obtain rfl : k = ms.length := by omega
      by_cases h9 : ms.length ≤ 9
      · have HE := Lib.hid (termOk_end hp h9)
        by_cases hp1 : ((p : Int) == 1) = true
        · rw [hp1] at HE
          go_wp2_with fail
          go_ret
          exact ⟨ret_bool (by rw [HE.out]; first | rfl | exact decide_eq_true (by omega) | exact decide_eq_false (by omega)), hbel⟩
        · have hp1' : ((p : Int) == 1) = false := by simpa using hp1
          rw [hp1'] at HE
          clear hp1
          go_wp2_with fail
          go_ret
          exact ⟨ret_bool HE.out.symm, hbel⟩
      · have HE := Lib.hid (termOk_long (by omega : 9 < ms.length))
        by_cases hp1 : ((p : Int) == 1) = true
        · go_wp2_with fail
          go_ret
          exact ⟨ret_bool (by rw [HE.out]; first | rfl | exact decide_eq_true (by omega) | exact decide_eq_false (by omega)), hbel⟩
        · have hp1' : ((p : Int) == 1) = false := by simpa using hp1
          clear hp1
          go_wp2_with fail
          go_ret
          exact ⟨ret_bool HE.out.symm, hbel⟩
end Go.Proofs.Ytpcependeealfaa

namespace Go.Proofs.Ytpcependeealfaa
open Go.RowKit

/-- MachineOf's answer -/
def OfNew (ms : List Mk) (w : World) (e : Ending) (w' : World) : Prop :=
  ∃ (m : M) (b : Bool) (a1 a2 : Option Addr) (c1 c2 : Nat), IsOf ms m b ∧ e = .returned (.tuple #[.agg #[.int .i64 m.st, .slice a1 m.next.length c1, .slice a2 m.ends.length c2], .bool b]) ∧
    Apart w.heap.size [rowT 3 1 (.slice a1 m.next.length c1) m.next.length (m.next.map (Value.int .i64)), rowT 4 1 (.slice a2 m.ends.length c2) m.ends.length (m.ends.map Value.bool)] w' ∧ Below w.heap.size w w'
theorem OfNew.reads {ms : List Mk} {w w' : World} {e : Ending} (h : OfNew ms w e w') : ∃ (m : M) (b : Bool) (a1 a2 : Option Addr) (c1 c2 : Nat), IsOf ms m b ∧ e = .returned (.tuple #[.agg #[.int .i64 m.st, .slice a1 m.next.length c1, .slice a2 m.ends.length c2], .bool b]) ∧
    IsInts w' (.slice a1 m.next.length c1) m.next ∧ IsBools w' (.slice a2 m.ends.length c2) m.ends ∧ Below w.heap.size w w' := by
  obtain ⟨m, b, a1, a2, c1, c2, h1, rfl, hA, hb⟩ := h
  exact ⟨m, b, a1, a2, c1, c2, h1, rfl, IsInts.of_owns hA.head, IsBools.of_owns hA.tail.head, hb⟩
theorem IsOf.no {ms : List Mk} (h : termOk ms = false) : IsOf ms ⟨0, [], []⟩ false := ⟨fun h' => (by rw [h] at h'; cases h'), fun _ => ⟨rfl, rfl⟩⟩
theorem IsOf.yes {ms : List Mk} {T : Tm} {m : M} (hg : T.good = true) (hp : T.post = ms) (h : TmM T m) (hok : termOk ms = true) : IsOf ms m m.ok := ⟨fun _ => ⟨T, hg, hp, h, rfl⟩, fun h' => (by rw [hok] at h'; cases h')⟩
theorem IsOf.len {ms : List Mk} {m : M} {b : Bool} (h : IsOf ms m b) : m.next.length ≤ 144 ∧ m.ends.length ≤ 48 ∧ (Lit.int .i64 m.st).wf = true ∧ (b = true → m.ok = true) ∧ (b = false → m = ⟨0, [], []⟩) := by
  cases ht : termOk ms with
  | true =>
    obtain ⟨T, h1, h2, h3, rfl⟩ := h.1 ht
    have := h3.len h1
    exact ⟨this.1, this.2, h3.wf h1, fun h => h, fun h => h3.zero h1 h⟩
  | false =>
    obtain ⟨rfl, rfl⟩ := h.2 ht
    exact ⟨Nat.zero_le _, Nat.zero_le _, rfl, fun h => by (cases h), fun _ => rfl⟩

set_option maxHeartbeats 3200000 in
theorem specMachineOf_any (ms : List Mk) (v : Value) (w : World) (h : IsMarks w v ms) (hl : ms.length ≤ 1048576) :
    Calls Try.prog 124 #[v] w (OfNew ms w) := by
  have O0 := Lib.hid ((Own.nil w).box #[.int .i64 0, .slice none 0 0, .slice none 0 0] 26)
  have H1 := Lib.hid (fun W (hb : Below w.heap.size w W) => specTermOk_any ms v W (h.below hb) hl)
  have HLM := Lib.hid (fun W (hb : Below w.heap.size w W) (T : Tm) (hg : T.good = true) (hp : T.post = ms) (h9 : ms.length ≤ 9) => l5Machine_any T hg v W (by rw [hp]; exact h.below hb) (by rw [hp]; exact h9))
  obtain ⟨a, n, c, rfl⟩ := h.slice
  clear h hl
  go_enter Try.func124, Try.ntmps124
  go_upto_region 1 with fail
  generalize hW0 : (w.alloc (.cells #[.int .i64 0, .slice none 0 0, .slice none 0 0] 26)) = W0 at *
  clear hW0
  have H1W := Lib.hid (H1.out _ O0.out.keep)
  go_wp2_with fail
  refine H1W.out.mono ?_
  rintro e w1 ⟨rfl, hb1⟩
  have O1 := Lib.hid (O0.out.below hb1)
  have HLW := Lib.hid (HLM.out _ O1.out.keep)
  have z0 := cellsT_cell (O1.out.cells 0 (by simp) rfl) 0
  have z1 := cellsT_cell (O1.out.cells 0 (by simp) rfl) 1
  have z2 := cellsT_cell (O1.out.cells 0 (by simp) rfl) 2
  have zf := cellsT_frozen (O1.out.cells 0 (by simp) rfl)
  simp only [List.getElem?_toArray, List.getElem?_cons_succ, List.getElem?_cons_zero] at z0 z1 z2
  clear hb1
  cases hk : termOk ms with
  | false =>
    have HI := Lib.hid (IsOf.no hk)
    obtain ⟨f1, f2, r0, r1, r2⟩ := O1.out.fin (us := []) 0 (by simp) rfl (List.nil_sublist _) (x := .int .i64 0) (y := .slice none 0 0) (z := .slice none 0 0) rfl
    have HF := Lib.hid (And.intro ((f1.idle (rowT 4 1 (.slice none 0 0) 0 []) (World.ownsRow_nil _ _ _ _) rfl).idle (rowT 3 1 (.slice none 0 0) 0 []) (World.ownsRow_nil _ _ _ _) rfl) f2)
    clear f1 f2
    generalize hR : w.heap.size = R at *
    go_wp2_with fail
    generalize (((w1.setCell ⟨R, 0, none⟩ (.int .i64 0)).setCell ⟨R, 1, none⟩ (.slice none 0 0)).setCell ⟨R, 2, none⟩ (.slice none 0 0)) = WE at *
    refine bodyPost_ret (v := .tuple #[.agg #[.int .i64 0, .slice none 0 0, .slice none 0 0], .bool false]) ?_ rfl ⟨⟨0, [], []⟩, false, none, none, 0, 0, HI.out, rfl, by rw [hR]; exact HF.out.1, by rw [hR]; exact HF.out.2⟩
    simp [results, Try.results124, go_sem, r0, r1, r2]
  | true =>
    obtain ⟨T, hg, hp, h9⟩ := tree_of hk
    have HLX := Lib.hid (HLW.out T hg hp h9)
    have HIY : Hid (∀ m, TmM T m → IsOf ms m m.ok ∧ (m.ok = false → m = ⟨0, [], []⟩)) := Lib.hid (fun m h => ⟨IsOf.yes hg hp h hk, fun ho => h.zero hg ho⟩)
    clear hg hp h9
    generalize hR : w.heap.size = R at *
    have HR := Lib.hid hR
    clear hR
    go_wp2_with fail
    refine HLX.out.mono ?_
    rintro e w2 ⟨m, a1, a2, d1, d2, hm, rfl, hA2, hb2⟩
    have HI := Lib.hid (HIY.out m hm).1
    have HIZ := Lib.hid (HIY.out m hm).2
    have O2 := Lib.hid (O1.out.join hA2 hb2)
    have O3 := Lib.hid (O2.out.box #[.int .i64 m.st, .slice a1 m.next.length d1, .slice a2 m.ends.length d2] 26)
    clear hm hA2 hb2 z0 z1 z2 zf
    go_upto_region 4 with fail
    generalize hW3 : (w2.alloc (.cells #[.int .i64 m.st, .slice a1 m.next.length d1, .slice a2 m.ends.length d2] 26)) = W3 at *
    clear hW3
    generalize w2.heap.size = B3 at *
    have b0 := cellsT_cell (O3.out.cells 0 (by simp) rfl) 0
    have b1 := cellsT_cell (O3.out.cells 0 (by simp) rfl) 1
    have b2 := cellsT_cell (O3.out.cells 0 (by simp) rfl) 2
    have z0 := cellsT_cell (O3.out.cells 3 (by simp) rfl) 0
    have z1 := cellsT_cell (O3.out.cells 3 (by simp) rfl) 1
    have z2 := cellsT_cell (O3.out.cells 3 (by simp) rfl) 2
    have zf := cellsT_frozen (O3.out.cells 3 (by simp) rfl)
    simp only [List.getElem?_toArray, List.getElem?_cons_succ, List.getElem?_cons_zero] at b0 b1 b2 z0 z1 z2
    cases hmo : m.ok with
    | false =>
      have hmz := HIZ.out hmo
      have HI2 : Hid (IsOf ms ⟨0, [], []⟩ false) := Lib.hid (by have h := HI.out; rw [hmo, hmz] at h; exact h)
      obtain ⟨f1, f2, r0, r1, r2⟩ := O3.out.fin (us := []) 3 (by simp) rfl (List.nil_sublist _) (x := .int .i64 0) (y := .slice none 0 0) (z := .slice none 0 0) rfl
      have HF := Lib.hid (And.intro ((f1.idle (rowT 4 1 (.slice none 0 0) 0 []) (World.ownsRow_nil _ _ _ _) rfl).idle (rowT 3 1 (.slice none 0 0) 0 []) (World.ownsRow_nil _ _ _ _) rfl) f2)
      clear f1 f2 hmz HIZ HI
      rw [hmo] at *
      go_wp2_with fail
      generalize (((W3.setCell ⟨R, 0, none⟩ (.int .i64 0)).setCell ⟨R, 1, none⟩ (.slice none 0 0)).setCell ⟨R, 2, none⟩ (.slice none 0 0)) = WE at *
      refine bodyPost_ret (v := .tuple #[.agg #[.int .i64 0, .slice none 0 0, .slice none 0 0], .bool false]) ?_ rfl ⟨⟨0, [], []⟩, false, none, none, 0, 0, HI2.out, rfl, HF.out.1, HF.out.2⟩
      simp [results, Try.results124, go_sem, r0, r1, r2]
    | true =>
      have HI2 : Hid (IsOf ms m true) := Lib.hid (by have h := HI.out; rwa [hmo] at h)
      obtain ⟨f1, f2, r0, r1, r2⟩ := O3.out.fin (us := [_, _]) 3 (by simp) rfl (List.Sublist.cons _ (List.Sublist.cons_cons _ (List.Sublist.cons_cons _ (List.nil_sublist _)))) (x := .int .i64 m.st) (y := .slice a1 m.next.length d1) (z := .slice a2 m.ends.length d2) rfl
      have HF := Lib.hid (And.intro f1 f2)
      clear f1 f2
      rw [hmo] at *
      go_wp2_with fail
      generalize (((W3.setCell ⟨R, 0, none⟩ (.int .i64 m.st)).setCell ⟨R, 1, none⟩ (.slice a1 m.next.length d1)).setCell ⟨R, 2, none⟩ (.slice a2 m.ends.length d2)) = WE at *
      refine bodyPost_ret (v := .tuple #[.agg #[.int .i64 m.st, .slice a1 m.next.length d1, .slice a2 m.ends.length d2], .bool true]) ?_ rfl ⟨m, true, a1, a2, d1, d2, HI2.out, rfl, HF.out.1, HF.out.2⟩
      simp [results, Try.results124, go_sem, r0, r1, r2]
end Go.Proofs.Ytpcependeealfaa

namespace Go.Proofs.Ytpcependeealfaa
open Go.RowKit

section
variable {B R : Nat} {a : Option Addr} {len cap : Nat} {w0 : World} {k : Nat} {ts us : List Thing} {w w' : World}
theorem OwR.box (h : OwR B R a len cap w0 k ts w) (cs : Array Value) (t : TypeId) : OwR B R a len cap w0 k (cellsT w.heap.size cs t :: ts) (w.alloc (.cells cs t)) :=
  have h1 := h.alloc (.cells cs t)
  ⟨h1.rd, h1.hR, h1.keep, h.ap.more (World.grownBy_alloc w _ none) _ (heap_alloc_new w _) h.size (fun j e => by cases e; simp)⟩
theorem OwR.put {i b : Nat} {cs : Array Value} {t : TypeId} (h : OwR B R a len cap w0 k ts w) (hi : i < ts.length) (he : ts[i] = cellsT b cs t) (j : Nat) (u : Value) :
    OwR B R a len cap w0 k (ts.set i (cellsT b (cs.setIfInBounds j u) t)) (w.setCell ⟨b, j, none⟩ u) := by
  have hlt := h.ap.ltAt i hi
  rw [he] at hlt
  have hb := (hlt b rfl).1
  have hR := h.hR
  exact ⟨h.rd.grown (grown_setCell w b j u) (fun k e => by cases e; omega), h.hR, h.keep.grown (grown_setCell w b j u) (fun k e => by cases e; exact hb), h.ap.setAt i hi he h.size j u⟩
theorem OwR.put3 {i b : Nat} {x0 y0 z0 : Value} {t : TypeId} (h : OwR B R a len cap w0 k ts w) (hi : i < ts.length) (he : ts[i] = cellsT b #[x0, y0, z0] t) (x y z : Value) :
    OwR B R a len cap w0 k (ts.set i (cellsT b #[x, y, z] t)) (((w.setCell ⟨b, 0, none⟩ x).setCell ⟨b, 1, none⟩ y).setCell ⟨b, 2, none⟩ z) := by
  have h1 := h.put hi he 0 x
  have h2 := h1.put (i := i) (b := b) (cs := #[x, y0, z0]) (t := t) (by simpa using hi) (by rw [List.getElem_set_self]; rfl) 1 y
  have h3 := h2.put (i := i) (b := b) (cs := #[x, y, z0]) (t := t) (by simpa using hi) (by rw [List.getElem_set_self]; rfl) 2 z
  rw [List.set_set, List.set_set] at h3
  exact h3
theorem OwR.tri (h : OwR B R a len cap w0 k ts w) (i : Nat) (hi : i < ts.length) {b : Nat} {x y z : Value} {t : TypeId} (he : ts[i] = cellsT b #[x, y, z] t) :
    w.cell? ⟨b, 0, none⟩ = some x ∧ w.cell? ⟨b, 1, none⟩ = some y ∧ w.cell? ⟨b, 2, none⟩ = some z ∧ w.frozen? ⟨b, 0, none⟩ = false ∧ w.frozen? ⟨b, 1, none⟩ = false ∧ w.frozen? ⟨b, 2, none⟩ = false ∧ w0.heap.size ≤ b ∧ b < w.heap.size := by
  have hs := h.ap.at i hi
  have hl := h.ap.ltAt i hi
  rw [he] at hs hl
  exact ⟨cellsT_cell hs 0, cellsT_cell hs 1, cellsT_cell hs 2, cellsT_frozen hs 0, cellsT_frozen hs 1, cellsT_frozen hs 2, hl b rfl⟩
theorem OwR.join {k' : Nat} (h : OwR B R a len cap w0 k ts w) (hr : RdAt B R a len cap k' w') (hk : KeepsBut R w w') (hA : Apart w.heap.size us w') : OwR B R a len cap w0 k' (us ++ ts) w' := by
  have h' := h.picked hr hk
  refine ⟨h'.rd, h'.hR, h'.keep, ⟨fun t ht => ?_, List.pairwise_append.2 ⟨hA.two, h'.ap.two, fun a ha b hb' k e e' => ?_⟩⟩⟩
  · rcases List.mem_append.1 ht with ht | ht
    · exact ⟨(hA.all t ht).1, fun k e => ⟨Nat.le_trans h.size ((hA.all t ht).2 k e).1, ((hA.all t ht).2 k e).2⟩⟩
    · exact h'.ap.all t ht
  · have := ((hA.all a ha).2 k e).1
    have := ((h.ap.all b hb').2 k e').2
    omega
theorem OwR.joinB (h : OwR B R a len cap w0 k ts w) (hb : Below w.heap.size w w') (hA : Apart w.heap.size us w') : OwR B R a len cap w0 k (us ++ ts) w' :=
  h.join (h.rd.keeps hb) (KeepsBut.of_below hb) hA
end
theorem counted_n {v1 v2 v3 : Int} (a0 : 0 ≤ v1) (a1 : v1 < 7) (b0 : 0 ≤ v2) (b1 : v2 < 40) (c0 : 0 ≤ v3) (c1 : v3 < 40) :
    -7 ≤ IntKind.i64.wrap (IntKind.i64.wrap (v1 + IntKind.i64.wrap (IntKind.i64.wrap (v2.tdiv 39) * 5)) - IntKind.i64.wrap (IntKind.i64.wrap (v3.tdiv 39) * 7)) ∧
    IntKind.i64.wrap (IntKind.i64.wrap (v1 + IntKind.i64.wrap (IntKind.i64.wrap (v2.tdiv 39) * 5)) - IntKind.i64.wrap (IntKind.i64.wrap (v3.tdiv 39) * 7)) ≤ 11 := by
  rw [Int.tdiv_eq_ediv_of_nonneg b0, Int.tdiv_eq_ediv_of_nonneg c0]
  have hb : v2 / 39 = 0 ∨ v2 / 39 = 1 := by omega
  have hc : v3 / 39 = 0 ∨ v3 / 39 = 1 := by omega
  have e0 : IntKind.i64.wrap (IntKind.i64.wrap 0 * 5) = 0 := by decide
  have e1 : IntKind.i64.wrap (IntKind.i64.wrap 1 * 5) = 5 := by decide
  have e2 : IntKind.i64.wrap (IntKind.i64.wrap 0 * 7) = 0 := by decide
  have e3 : IntKind.i64.wrap (IntKind.i64.wrap 1 * 7) = 7 := by decide
  rcases hb with hb | hb <;> rcases hc with hc | hc <;> rw [hb, hc] <;> simp only [e0, e1, e2, e3] <;> (rw [IntWalk.i64_in (v1 + _) (by omega), IntWalk.i64_in _ (by omega)]; omega)

/-- a machine, good or not, as large as one may be -/
def M.small (m : M) : Prop := (Lit.int .i64 m.st).wf = true ∧ -100 ≤ m.st ∧ m.st ≤ 100 ∧ m.next.length ≤ 144 ∧ m.ends.length ≤ 48
theorem IsOf.small {ms : List Mk} {m : M} (h : IsOf ms m true) : m.small := by
  have hl := h.len
  have hs := M.ok_shape (hl.2.2.2.1 rfl)
  exact ⟨hl.2.2.1, by omega, by omega, hl.1, hl.2.1⟩
/-- what drawing a machine and a number leaves -/
def CountDrawn (B R : Nat) (a : Option Addr) (len cap k : Nat) (w : World) (e : Ending) (w' : World) : Prop :=
  ∃ (m : M) (a1 a2 : Option Addr) (c1 c2 : Nat) (n : Int), e = .returned (.tuple #[.agg #[.int .i64 m.st, .slice a1 m.next.length c1, .slice a2 m.ends.length c2], .int .i64 n]) ∧ m.small ∧ (-7 ≤ n ∧ n ≤ 11) ∧
    ∃ k', k ≤ k' ∧ k' ≤ k + 200 ∧ OwR B R a len cap w k' [rowT 3 1 (.slice a1 m.next.length c1) m.next.length (m.next.map (Value.int .i64)), rowT 4 1 (.slice a2 m.ends.length c2) m.ends.length (m.ends.map Value.bool)] w'

set_option maxHeartbeats 3200000 in
theorem l20Counted_any (B R : Nat) (a : Option Addr) (len cap k : Nat) (w : World) (H : RdAt B R a len cap k w) (hk : k ≤ 700000) :
    Calls Try.prog 117 #[.pointer (some ⟨R, 0, none⟩)] w (CountDrawn B R a len cap k w) := by
  have O0 := Lib.hid ((OwR.start H).box #[.int .i64 0, .slice none 0 0, .slice none 0 0] 26)
  have HC := Lib.hid (l20Machine_any B R a len cap k 14 _ O0.out.rd (by omega) (by omega) (by omega))
  have hRw := H.hR
  clear H
  go_enter Try.func117, Try.ntmps117
  go_wp2_with fail
  refine HC.out.mono ?_
  clear HC
  rintro e w2 ⟨st, xs, bs, nv, ev, rfl, h0, h1, h2, h3, ⟨k1, hk1, hk2, hR1⟩, hK1, hA⟩
  obtain ⟨a1, c1, rfl⟩ := ownsRow_sliceD hA.head
  obtain ⟨a2, c2, rfl⟩ := ownsRow_sliceD hA.tail.head
  have HM : Hid (M.small ⟨st, xs, bs⟩) := Lib.hid ⟨(WalkArith.wf_i64 (by omega) : (Lit.int .i64 st).wf = true), by show -100 ≤ st; omega, by show st ≤ 100; omega, by show xs.length ≤ 144; omega, by show bs.length ≤ 48; omega⟩
  have O1 : Hid (OwR B R a len cap w k1 [rowT 3 1 (.slice a1 xs.length c1) xs.length (xs.map (Value.int .i64)), rowT 4 1 (.slice a2 bs.length c2) bs.length (bs.map Value.bool), cellsT w.heap.size #[.int .i64 0, .slice none 0 0, .slice none 0 0] 26] w2) := Lib.hid (O0.out.join hR1 hK1 hA)
  have O2 : Hid (OwR B R a len cap w k1 [rowT 3 1 (.slice a1 xs.length c1) xs.length (xs.map (Value.int .i64)), rowT 4 1 (.slice a2 bs.length c2) bs.length (bs.map Value.bool), cellsT w2.heap.size #[.int .i64 st, .slice a1 xs.length c1, .slice a2 bs.length c2] 26, cellsT w.heap.size #[.int .i64 0, .slice none 0 0, .slice none 0 0] 26] (w2.alloc (.cells #[.int .i64 st, .slice a1 xs.length c1, .slice a2 bs.length c2] 26))) :=
    Lib.hid ((O1.out.box #[.int .i64 st, .slice a1 xs.length c1, .slice a2 bs.length c2] 26).perm ((List.perm_append_comm (l₁ := [_]) (l₂ := [_, _])).append_right [_]))
  have HKB := Lib.hid (show k ≤ k1 ∧ k1 ≤ k + 30 ∧ k ≤ 700000 by omega)
  have hlt := (O1.out.tri 2 (by simp) rfl).2.2.2.2.2.2.2
  clear O0 O1 hR1 hK1 hA h0 h1 h2 h3 hk1 hk2 hk
  go_wp2_with fail
  generalize (w2.alloc (.cells #[.int .i64 st, .slice a1 xs.length c1, .slice a2 bs.length c2] 26)) = W2 at *
  generalize w2.heap.size = B4 at *
  refine (pick_any B R a len cap k1 3 _ O2.out.rd (by have := HKB.out; omega) (by omega) (by omega)).mono ?_
  rintro e w3 ⟨v, rfl, hv0, -, hR3, hK3⟩
  have O3 := Lib.hid (O2.out.picked hR3 hK3)
  clear O2 hR3 hK3
  generalize hR0 : w.heap.size = R0 at *
  have hne1 : B4 ≠ R0 := by omega
  have hne2 : R0 ≠ B4 := by omega
  clear hlt
  by_cases hv : v = 0
  · subst hv
    go_wp2_with fail
    refine (l20Term_any B R a len cap (k1 + 1) 0 _ O3.out.rd (by have := HKB.out; omega) (by omega) (by omega)).mono ?_
    rintro e w4 ⟨ms, mv, k4, rfl, hms, hwf, hk3, hk4, hT⟩
    have O4 : Hid (OwR B R a len cap w k4 [rowT 42 5 mv ms.length (cellsM ms), rowT 3 1 (.slice a1 xs.length c1) xs.length (xs.map (Value.int .i64)), rowT 4 1 (.slice a2 bs.length c2) bs.length (bs.map Value.bool), cellsT B4 #[.int .i64 st, .slice a1 xs.length c1, .slice a2 bs.length c2] 26, cellsT R0 #[.int .i64 0, .slice none 0 0, .slice none 0 0] 26] w4) := Lib.hid (O3.out.join hT.rd hT.keep hT.ap)
    have HO := Lib.hid (specMachineOf_any ms mv w4 (IsMarks.of_owns (O4.out.row 0 (by simp) rfl)) (by omega))
    replace HKB := Lib.hid (show k ≤ k4 ∧ k4 ≤ k + 131 ∧ k ≤ 700000 by have := HKB.out; omega)
    clear hT O3 hms hwf hk3 hk4
    go_wp2_with fail
    refine HO.out.mono ?_
    clear HO
    rintro e w5 ⟨m, b, a3, a4, c3, c4, hof, rfl, hA5, hb5⟩
    have O5 : Hid (OwR B R a len cap w k4 [rowT 3 1 (.slice a3 m.next.length c3) m.next.length (m.next.map (Value.int .i64)), rowT 4 1 (.slice a4 m.ends.length c4) m.ends.length (m.ends.map Value.bool), rowT 42 5 mv ms.length (cellsM ms), rowT 3 1 (.slice a1 xs.length c1) xs.length (xs.map (Value.int .i64)), rowT 4 1 (.slice a2 bs.length c2) bs.length (bs.map Value.bool), cellsT B4 #[.int .i64 st, .slice a1 xs.length c1, .slice a2 bs.length c2] 26, cellsT R0 #[.int .i64 0, .slice none 0 0, .slice none 0 0] 26] w5) := Lib.hid (O4.out.joinB hb5 hA5)
    clear O4 hA5 hb5
    cases b with
    | false =>
      have O6 := Lib.hid ((O5.out.sub (us := [_, _, _, _]) (List.Sublist.cons _ (List.Sublist.cons _ (List.Sublist.cons _ (List.Sublist.refl _))))).alloc (.cells #[.int .i64 m.st, .slice a3 m.next.length c3, .slice a4 m.ends.length c4] 26))
      clear O5 hof
      go_upto_region 6 with fail
      generalize (w5.alloc (.cells #[.int .i64 m.st, .slice a3 m.next.length c3, .slice a4 m.ends.length c4] 26)) = W6 at *
      obtain ⟨y00, y01, y02, -⟩ := O6.out.tri 2 (by simp) rfl
      skip
      have OD := Lib.hid O6.out.drew
      go_region_held3 (fun w' => w'.cell? ⟨B4, 0, none⟩ = some (.int .i64 st) ∧ w'.cell? ⟨B4, 1, none⟩ = some (.slice a1 xs.length c1) ∧ w'.cell? ⟨B4, 2, none⟩ = some (.slice a2 bs.length c2))
        (refine ⟨?_, ?_, ?_⟩ <;> go_simp)
        (first | (go_at_call 77; (first | (refine (pick_any B R a len cap (k4 + 2) 40 _ P2.out.rd (by have := HKB.out; omega) (by omega) (by omega)).mono ?_; rintro e p3 ⟨v3, rfl, q30, q31, hR3, hK3⟩; have P3 := Lib.hid (P2.out.picked hR3 hK3); have q32 := q31 (by omega); obtain ⟨y30, y31, y32, -⟩ := P3.out.tri 2 (by simp) rfl; obtain ⟨m30, m31, m32, x30, x31, x32, -, -⟩ := P3.out.tri 3 (by simp) rfl; clear q31 hR3 hK3) | (refine (pick_any B R a len cap (k4 + 1) 40 _ P1.out.rd (by have := HKB.out; omega) (by omega) (by omega)).mono ?_; rintro e p2 ⟨v2, rfl, q20, q21, hR2, hK2⟩; have P2 := Lib.hid (P1.out.picked hR2 hK2); have q22 := q21 (by omega); obtain ⟨y20, y21, y22, -⟩ := P2.out.tri 2 (by simp) rfl; obtain ⟨m20, m21, m22, x20, x21, x22, -, -⟩ := P2.out.tri 3 (by simp) rfl; clear q21 hR2 hK2) | (refine (pick_any B R a len cap (k4 + 0) 7 _ OD.out.rd (by have := HKB.out; omega) (by omega) (by omega)).mono ?_; rintro e p1 ⟨v1, rfl, q10, q11, hR1, hK1⟩; have P1 := Lib.hid (OD.out.picked hR1 hK1); have q12 := q11 (by omega); obtain ⟨y10, y11, y12, -⟩ := P1.out.tri 2 (by simp) rfl; obtain ⟨m10, m11, m12, x10, x11, x12, -, -⟩ := P1.out.tri 3 (by simp) rfl; clear q11 hR1 hK1))))
      all_goals
        have PF := Lib.hid (P3.out.put3 (i := 3) (by simp) rfl (.int .i64 st) (.slice a1 xs.length c1) (.slice a2 bs.length c2))
        go_wp2
        obtain ⟨r0, r1, r2, -⟩ := PF.out.tri 3 (by simp) rfl
        refine bodyPost_ret (v := .tuple #[.agg #[.int .i64 st, .slice a1 xs.length c1, .slice a2 bs.length c2], .int .i64 (IntKind.i64.wrap (IntKind.i64.wrap (v1 + IntKind.i64.wrap (IntKind.i64.wrap (v2.tdiv 39) * 5)) - IntKind.i64.wrap (IntKind.i64.wrap (v3.tdiv 39) * 7)))]) ?_ rfl ⟨⟨st, xs, bs⟩, _, _, _, _, _, rfl, HM.out, counted_n q10 q12 q20 q22 q30 q32, k4 + 3, by have := HKB.out; omega, by have := HKB.out; omega, PF.out.sub (List.Sublist.cons_cons _ (List.Sublist.cons_cons _ (List.nil_sublist _)))⟩
        simp [results, Try.results117, go_sem, r0, r1, r2]
    | true =>
      have O6 := Lib.hid ((O5.out.sub (us := [rowT 3 1 (.slice a3 m.next.length c3) m.next.length (m.next.map (Value.int .i64)), rowT 4 1 (.slice a4 m.ends.length c4) m.ends.length (m.ends.map Value.bool), cellsT B4 #[.int .i64 st, .slice a1 xs.length c1, .slice a2 bs.length c2] 26, cellsT R0 #[.int .i64 0, .slice none 0 0, .slice none 0 0] 26]) (List.Sublist.cons_cons _ (List.Sublist.cons_cons _ (List.Sublist.cons _ (List.Sublist.cons _ (List.Sublist.cons _ (List.Sublist.refl _))))))).box #[.int .i64 m.st, .slice a3 m.next.length c3, .slice a4 m.ends.length c4] 26)
      replace HM := Lib.hid hof.small
      clear O5 hof
      obtain ⟨u0, u1, u2, u3, u4, u5, -, u6⟩ := O6.out.tri 3 (by simp) rfl
      have O7 := Lib.hid ((O6.out.put3 (i := 3) (by simp) rfl (.int .i64 m.st) (.slice a3 m.next.length c3) (.slice a4 m.ends.length c4)).sub (us := [rowT 3 1 (.slice a3 m.next.length c3) m.next.length (m.next.map (Value.int .i64)), rowT 4 1 (.slice a4 m.ends.length c4) m.ends.length (m.ends.map Value.bool), cellsT B4 #[.int .i64 m.st, .slice a3 m.next.length c3, .slice a4 m.ends.length c4] 26, cellsT R0 #[.int .i64 0, .slice none 0 0, .slice none 0 0] 26]) (List.Sublist.cons _ (List.Sublist.refl _)))
      have t6 := (O6.out.tri 0 (by simp) rfl).2.2.2.2.2.2
      go_upto_region 6 with fail
      clear u0 u1 u2 u3 u4 u5 u6 t6 O6
      generalize ((((w5.alloc (.cells #[.int .i64 m.st, .slice a3 m.next.length c3, .slice a4 m.ends.length c4] 26)).setCell ⟨B4, 0, none⟩ (.int .i64 m.st)).setCell ⟨B4, 1, none⟩ (.slice a3 m.next.length c3)).setCell ⟨B4, 2, none⟩ (.slice a4 m.ends.length c4)) = W7 at *
      obtain ⟨y00, y01, y02, -⟩ := O7.out.tri 2 (by simp) rfl
      skip
      have OD := Lib.hid O7.out.drew
      go_region_held3 (fun w' => w'.cell? ⟨B4, 0, none⟩ = some (.int .i64 m.st) ∧ w'.cell? ⟨B4, 1, none⟩ = some (.slice a3 m.next.length c3) ∧ w'.cell? ⟨B4, 2, none⟩ = some (.slice a4 m.ends.length c4))
        (refine ⟨?_, ?_, ?_⟩ <;> go_simp)
        (first | (go_at_call 77; (first | (refine (pick_any B R a len cap (k4 + 2) 40 _ P2.out.rd (by have := HKB.out; omega) (by omega) (by omega)).mono ?_; rintro e p3 ⟨v3, rfl, q30, q31, hR3, hK3⟩; have P3 := Lib.hid (P2.out.picked hR3 hK3); have q32 := q31 (by omega); obtain ⟨y30, y31, y32, -⟩ := P3.out.tri 2 (by simp) rfl; obtain ⟨m30, m31, m32, x30, x31, x32, -, -⟩ := P3.out.tri 3 (by simp) rfl; clear q31 hR3 hK3) | (refine (pick_any B R a len cap (k4 + 1) 40 _ P1.out.rd (by have := HKB.out; omega) (by omega) (by omega)).mono ?_; rintro e p2 ⟨v2, rfl, q20, q21, hR2, hK2⟩; have P2 := Lib.hid (P1.out.picked hR2 hK2); have q22 := q21 (by omega); obtain ⟨y20, y21, y22, -⟩ := P2.out.tri 2 (by simp) rfl; obtain ⟨m20, m21, m22, x20, x21, x22, -, -⟩ := P2.out.tri 3 (by simp) rfl; clear q21 hR2 hK2) | (refine (pick_any B R a len cap (k4 + 0) 7 _ OD.out.rd (by have := HKB.out; omega) (by omega) (by omega)).mono ?_; rintro e p1 ⟨v1, rfl, q10, q11, hR1, hK1⟩; have P1 := Lib.hid (OD.out.picked hR1 hK1); have q12 := q11 (by omega); obtain ⟨y10, y11, y12, -⟩ := P1.out.tri 2 (by simp) rfl; obtain ⟨m10, m11, m12, x10, x11, x12, -, -⟩ := P1.out.tri 3 (by simp) rfl; clear q11 hR1 hK1))))
      all_goals
        have PF := Lib.hid (P3.out.put3 (i := 3) (by simp) rfl (.int .i64 m.st) (.slice a3 m.next.length c3) (.slice a4 m.ends.length c4))
        go_wp2
        obtain ⟨r0, r1, r2, -⟩ := PF.out.tri 3 (by simp) rfl
        refine bodyPost_ret (v := .tuple #[.agg #[.int .i64 m.st, .slice a3 m.next.length c3, .slice a4 m.ends.length c4], .int .i64 (IntKind.i64.wrap (IntKind.i64.wrap (v1 + IntKind.i64.wrap (IntKind.i64.wrap (v2.tdiv 39) * 5)) - IntKind.i64.wrap (IntKind.i64.wrap (v3.tdiv 39) * 7)))]) ?_ rfl ⟨m, _, _, _, _, _, rfl, HM.out, counted_n q10 q12 q20 q22 q30 q32, k4 + 3, by have := HKB.out; omega, by have := HKB.out; omega, PF.out.sub (List.Sublist.cons_cons _ (List.Sublist.cons_cons _ (List.nil_sublist _)))⟩
        simp [results, Try.results117, go_sem, r0, r1, r2]
  · go_upto_region 6 with fail
    obtain ⟨y00, y01, y02, -⟩ := O3.out.tri 2 (by simp) rfl
    skip
    have OD := Lib.hid O3.out.drew
    go_region_held3 (fun w' => w'.cell? ⟨B4, 0, none⟩ = some (.int .i64 st) ∧ w'.cell? ⟨B4, 1, none⟩ = some (.slice a1 xs.length c1) ∧ w'.cell? ⟨B4, 2, none⟩ = some (.slice a2 bs.length c2))
      (refine ⟨?_, ?_, ?_⟩ <;> go_simp)
      (first | (go_at_call 77; (first | (refine (pick_any B R a len cap ((k1 + 1) + 2) 40 _ P2.out.rd (by have := HKB.out; omega) (by omega) (by omega)).mono ?_; rintro e p3 ⟨v3, rfl, q30, q31, hR3, hK3⟩; have P3 := Lib.hid (P2.out.picked hR3 hK3); have q32 := q31 (by omega); obtain ⟨y30, y31, y32, -⟩ := P3.out.tri 2 (by simp) rfl; obtain ⟨m30, m31, m32, x30, x31, x32, -, -⟩ := P3.out.tri 3 (by simp) rfl; clear q31 hR3 hK3) | (refine (pick_any B R a len cap ((k1 + 1) + 1) 40 _ P1.out.rd (by have := HKB.out; omega) (by omega) (by omega)).mono ?_; rintro e p2 ⟨v2, rfl, q20, q21, hR2, hK2⟩; have P2 := Lib.hid (P1.out.picked hR2 hK2); have q22 := q21 (by omega); obtain ⟨y20, y21, y22, -⟩ := P2.out.tri 2 (by simp) rfl; obtain ⟨m20, m21, m22, x20, x21, x22, -, -⟩ := P2.out.tri 3 (by simp) rfl; clear q21 hR2 hK2) | (refine (pick_any B R a len cap ((k1 + 1) + 0) 7 _ OD.out.rd (by have := HKB.out; omega) (by omega) (by omega)).mono ?_; rintro e p1 ⟨v1, rfl, q10, q11, hR1, hK1⟩; have P1 := Lib.hid (OD.out.picked hR1 hK1); have q12 := q11 (by omega); obtain ⟨y10, y11, y12, -⟩ := P1.out.tri 2 (by simp) rfl; obtain ⟨m10, m11, m12, x10, x11, x12, -, -⟩ := P1.out.tri 3 (by simp) rfl; clear q11 hR1 hK1))))
    all_goals
      have PF := Lib.hid (P3.out.put3 (i := 3) (by simp) rfl (.int .i64 st) (.slice a1 xs.length c1) (.slice a2 bs.length c2))
      go_wp2
      obtain ⟨r0, r1, r2, -⟩ := PF.out.tri 3 (by simp) rfl
      refine bodyPost_ret (v := .tuple #[.agg #[.int .i64 st, .slice a1 xs.length c1, .slice a2 bs.length c2], .int .i64 (IntKind.i64.wrap (IntKind.i64.wrap (v1 + IntKind.i64.wrap (IntKind.i64.wrap (v2.tdiv 39) * 5)) - IntKind.i64.wrap (IntKind.i64.wrap (v3.tdiv 39) * 7)))]) ?_ rfl ⟨⟨st, xs, bs⟩, _, _, _, _, _, rfl, HM.out, counted_n q10 q12 q20 q22 q30 q32, (k1 + 1) + 3, by have := HKB.out; omega, by have := HKB.out; omega, PF.out.sub (List.Sublist.cons_cons _ (List.Sublist.cons_cons _ (List.nil_sublist _)))⟩
      simp [results, Try.results117, go_sem, r0, r1, r2]
end Go.Proofs.Ytpcependeealfaa

namespace Go.Proofs.Ytpcependeealfaa
open Go.RowKit

/-- what drawing a machine and a word leaves -/
def RoundDrawn (B R : Nat) (a : Option Addr) (len cap k : Nat) (w : World) (e : Ending) (w' : World) : Prop :=
  ∃ (m : M) (a1 a2 : Option Addr) (c1 c2 : Nat) (s : ByteArray), e = .returned (.tuple #[.agg #[.int .i64 m.st, .slice a1 m.next.length c1, .slice a2 m.ends.length c2], .string s]) ∧ m.small ∧ s.size ≤ 23 ∧
    ∃ k', k ≤ k' ∧ k' ≤ k + 300 ∧ OwR B R a len cap w k' [rowT 3 1 (.slice a1 m.next.length c1) m.next.length (m.next.map (Value.int .i64)), rowT 4 1 (.slice a2 m.ends.length c2) m.ends.length (m.ends.map Value.bool)] w'

set_option maxHeartbeats 1600000 in
theorem l20Rounded_any (B R : Nat) (a : Option Addr) (len cap k : Nat) (w : World) (H : RdAt B R a len cap k w) (hk : k ≤ 600000) :
    Calls Try.prog 76 #[.pointer (some ⟨R, 0, none⟩)] w (RoundDrawn B R a len cap k w) := by
  have O0 := Lib.hid ((OwR.start H).box #[.int .i64 0, .slice none 0 0, .slice none 0 0] 26)
  have HC := Lib.hid (l20Counted_any B R a len cap k _ O0.out.rd (by omega))
  have hRw := H.hR
  clear H
  go_enter Try.func76, Try.ntmps76
  go_wp2_with fail
  refine HC.out.mono ?_
  clear HC
  rintro e w2 ⟨m, a1, a2, c1, c2, n, rfl, hm, hn, k1, hk1, hk2, hO⟩
  have HM := Lib.hid hm
  have O1 : Hid (OwR B R a len cap w k1 [rowT 3 1 (.slice a1 m.next.length c1) m.next.length (m.next.map (Value.int .i64)), rowT 4 1 (.slice a2 m.ends.length c2) m.ends.length (m.ends.map Value.bool), cellsT w.heap.size #[.int .i64 0, .slice none 0 0, .slice none 0 0] 26] w2) := Lib.hid (O0.out.join hO.rd hO.keep hO.ap)
  have O2 : Hid (OwR B R a len cap w k1 [rowT 3 1 (.slice a1 m.next.length c1) m.next.length (m.next.map (Value.int .i64)), rowT 4 1 (.slice a2 m.ends.length c2) m.ends.length (m.ends.map Value.bool), cellsT w2.heap.size #[.int .i64 m.st, .slice a1 m.next.length c1, .slice a2 m.ends.length c2] 26, cellsT w.heap.size #[.int .i64 0, .slice none 0 0, .slice none 0 0] 26] (w2.alloc (.cells #[.int .i64 m.st, .slice a1 m.next.length c1, .slice a2 m.ends.length c2] 26))) :=
    Lib.hid ((O1.out.box #[.int .i64 m.st, .slice a1 m.next.length c1, .slice a2 m.ends.length c2] 26).perm ((List.perm_append_comm (l₁ := [_]) (l₂ := [_, _])).append_right [_]))
  have HKB := Lib.hid (show k ≤ k1 ∧ k1 ≤ k + 200 ∧ k ≤ 600000 by omega)
  have hlt := (O1.out.tri 2 (by simp) rfl).2.2.2.2.2.2.2
  clear O0 O1 hO hm hk1 hk2 hk
  go_upto_region 2 with fail
  generalize (w2.alloc (.cells #[.int .i64 m.st, .slice a1 m.next.length c1, .slice a2 m.ends.length c2] 26)) = W2 at *
  generalize w2.heap.size = B4 at *
  generalize hR0 : w.heap.size = R0 at *
  have hne1 : B4 ≠ R0 := by omega
  have hne2 : R0 ≠ B4 := by omega
  clear hlt
  obtain ⟨y00, y01, y02, -⟩ := O2.out.tri 2 (by simp) rfl
  have OD := Lib.hid O2.out.drew
  go_region_held3 (fun w' => w'.cell? ⟨B4, 0, none⟩ = some (.int .i64 m.st) ∧ w'.cell? ⟨B4, 1, none⟩ = some (.slice a1 m.next.length c1) ∧ w'.cell? ⟨B4, 2, none⟩ = some (.slice a2 m.ends.length c2))
    (refine ⟨?_, ?_, ?_⟩ <;> go_simp)
    (first | (go_at_call 83; refine (l20Word_any B R a len cap k1 12 _ OD.out.rd (by have := HKB.out; omega) (by omega) (by omega)).mono ?_; rintro e p1 ⟨s, rfl, hs, k2, hk1, hk2, hR1, hK1⟩; have P1 := Lib.hid (OD.out.picked hR1 hK1); obtain ⟨y10, y11, y12, -⟩ := P1.out.tri 2 (by simp) rfl; obtain ⟨m10, m11, m12, x10, x11, x12, -, -⟩ := P1.out.tri 3 (by simp) rfl; clear hR1 hK1))
  all_goals
    have PF := Lib.hid (P1.out.put3 (i := 3) (by simp) rfl (.int .i64 m.st) (.slice a1 m.next.length c1) (.slice a2 m.ends.length c2))
    go_wp2
    obtain ⟨r0, r1, r2, -⟩ := PF.out.tri 3 (by simp) rfl
    refine bodyPost_ret (v := .tuple #[.agg #[.int .i64 m.st, .slice a1 m.next.length c1, .slice a2 m.ends.length c2], .string s]) ?_ rfl ⟨m, _, _, _, _, _, rfl, HM.out, hs, k2, by have := HKB.out; omega, by have := HKB.out; omega, PF.out.sub (List.Sublist.cons_cons _ (List.Sublist.cons_cons _ (List.nil_sublist _)))⟩
    simp [results, Try.results76, go_sem, r0, r1, r2]

theorem IsRow.belowC {k : IntKind} {w w' : World} {a : Option Addr} {len cap : Nat} {zs : List Int} (h : IsRow k w a len cap zs) (hb : Below w.heap.size w w') : IsRow k w' a len cap zs := by
  rcases h with h | ⟨x, h1, h2, h3, h4, h5, h6⟩
  · exact .inl h
  · exact .inr ⟨x, h1, h2, h3, h4, fun i hi => (hb.cell (World.block_lt_of_cell? w _ (h5 i hi))).trans (h5 i hi), h6⟩
/-- what drawing a machine and a word returns -/
def RoundRes (w : World) (e : Ending) (w' : World) : Prop :=
  ∃ (m : M) (a1 a2 : Option Addr) (c1 c2 : Nat) (s : ByteArray), e = .returned (.tuple #[.agg #[.int .i64 m.st, .slice a1 m.next.length c1, .slice a2 m.ends.length c2], .string s]) ∧ m.small ∧ s.size ≤ 23 ∧
    IsInts w' (.slice a1 m.next.length c1) m.next ∧ IsBools w' (.slice a2 m.ends.length c2) m.ends ∧ Below w.heap.size w w'

set_option maxHeartbeats 800000 in
theorem drawRingState_any (a : Option Addr) (len cap : Nat) (zs : List Int) (w : World) (h : IsRow .u8 w a len cap zs) :
    Calls Try.prog 38 #[.slice a len cap] w (RoundRes w) := by
  have H0 := h.belowC ((Below.refl w.heap.size w).alloc (Nat.le_refl _) (.cells #[.int .i64 0, .slice none 0 0, .slice none 0 0] 26))
  have HO := Lib.hid (l20Open_any a len cap zs _ H0)
  clear H0 h
  go_enter Try.func38, Try.ntmps38
  go_wp2_with fail
  refine HO.out.mono ?_
  clear HO
  rintro e w1 ⟨a1, len1, cap1, rfl, hR, hb1⟩
  simp only [World.size_alloc] at hR hb1
  have hRR := hR.hR
  have c0 : w1.cell? ⟨w.heap.size, 0, none⟩ = some (.int .i64 0) := (hb1.cell (p := ⟨w.heap.size, 0, none⟩) (Nat.lt_succ_self _)).trans (World.cell?_alloc_new w _ _ 0)
  have c1 : w1.cell? ⟨w.heap.size, 1, none⟩ = some (.slice none 0 0) := (hb1.cell (p := ⟨w.heap.size, 1, none⟩) (Nat.lt_succ_self _)).trans (World.cell?_alloc_new w _ _ 1)
  have c2 : w1.cell? ⟨w.heap.size, 2, none⟩ = some (.slice none 0 0) := (hb1.cell (p := ⟨w.heap.size, 2, none⟩) (Nat.lt_succ_self _)).trans (World.cell?_alloc_new w _ _ 2)
  have f0 : ∀ i, w1.frozen? ⟨w.heap.size, i, none⟩ = false := fun i => (hb1.frozen (p := ⟨w.heap.size, i, none⟩) (Nat.lt_succ_self _)).trans (World.frozen?_alloc_new w _ _ i)
  have hbw : Below w.heap.size w w1 := ((Below.refl w.heap.size w).alloc (Nat.le_refl _) _).trans (hb1.mono (Nat.le_succ _))
  clear hb1
  go_wp2_with fail
  refine (l20Rounded_any _ _ a1 len1 cap1 0 w1 hR (by omega)).mono ?_
  rintro e w2 ⟨m, a3, a4, c3, c4, s, rfl, hm, hs, k', -, -, hO⟩
  have hK := hO.keep
  have hA := hO.ap
  have d0 := (hK.cell (p := ⟨w.heap.size, 0, none⟩) (by show w.heap.size < _; omega) (by show w.heap.size ≠ _; omega)).trans c0
  have d1 := (hK.cell (p := ⟨w.heap.size, 1, none⟩) (by show w.heap.size < _; omega) (by show w.heap.size ≠ _; omega)).trans c1
  have d2 := (hK.cell (p := ⟨w.heap.size, 2, none⟩) (by show w.heap.size < _; omega) (by show w.heap.size ≠ _; omega)).trans c2
  have g0 := (hK.frozen (p := ⟨w.heap.size, 0, none⟩) (by show w.heap.size < _; omega) (by show w.heap.size ≠ _; omega)).trans (f0 0)
  have g1 := (hK.frozen (p := ⟨w.heap.size, 1, none⟩) (by show w.heap.size < _; omega) (by show w.heap.size ≠ _; omega)).trans (f0 1)
  have g2 := (hK.frozen (p := ⟨w.heap.size, 2, none⟩) (by show w.heap.size < _; omega) (by show w.heap.size ≠ _; omega)).trans (f0 2)
  have hbw2 : Below w.heap.size w w2 := hbw.trans (hK.below (by omega) (by omega))
  clear c0 c1 c2 f0 hbw hK hR hO
  have FIN : ∀ W, W = ((w2.setCell ⟨w.heap.size, 0, none⟩ (.int .i64 m.st)).setCell ⟨w.heap.size, 1, none⟩ (.slice a3 m.next.length c3)).setCell ⟨w.heap.size, 2, none⟩ (.slice a4 m.ends.length c4) →
      IsInts W (.slice a3 m.next.length c3) m.next ∧ IsBools W (.slice a4 m.ends.length c4) m.ends ∧ Below w.heap.size w W ∧ W.cell? ⟨w.heap.size, 0, none⟩ = some (.int .i64 m.st) ∧ W.cell? ⟨w.heap.size, 1, none⟩ = some (.slice a3 m.next.length c3) ∧ W.cell? ⟨w.heap.size, 2, none⟩ = some (.slice a4 m.ends.length c4) := by
    rintro W rfl
    have hr : ∀ k, some w.heap.size = some k → k < w1.heap.size := fun k e => by cases e; omega
    have hA2 := ((hA.other (grown_setCell w2 w.heap.size 0 (.int .i64 m.st)) hr).other (grown_setCell _ w.heap.size 1 (.slice a3 m.next.length c3)) hr).other (grown_setCell _ w.heap.size 2 (.slice a4 m.ends.length c4)) hr
    refine ⟨IsInts.of_owns hA2.head, IsBools.of_owns hA2.tail.head, ((hbw2.setCell (p := ⟨w.heap.size, 0, none⟩) (Nat.le_refl _) _).setCell (p := ⟨w.heap.size, 1, none⟩) (Nat.le_refl _) _).setCell (p := ⟨w.heap.size, 2, none⟩) (Nat.le_refl _) _, by go_simp, by go_simp, by go_simp⟩
  have FI := Lib.hid FIN
  have HM := Lib.hid hm
  clear FIN hA hbw2 hm
  go_wp2
  obtain ⟨r1, r6, r2, r3, r4, r5⟩ := FI.out _ rfl
  refine bodyPost_ret (v := .tuple #[.agg #[.int .i64 m.st, .slice a3 m.next.length c3, .slice a4 m.ends.length c4], .string s]) ?_ rfl ⟨m, _, _, _, _, s, rfl, HM.out, hs, r1, r6, r2⟩
  simp [results, Try.results38, go_sem, r3, r4, r5]

set_option maxHeartbeats 800000 in
theorem drawRingOk_any (a : Option Addr) (len cap : Nat) (zs : List Int) (w : World) (h : IsRow .u8 w a len cap zs) :
    Calls Try.prog 41 #[.slice a len cap] w (RoundRes w) := by
  have H0 := h.belowC ((Below.refl w.heap.size w).alloc (Nat.le_refl _) (.cells #[.int .i64 0, .slice none 0 0, .slice none 0 0] 26))
  have HO := Lib.hid (l20Open_any a len cap zs _ H0)
  clear H0 h
  go_enter Try.func41, Try.ntmps41
  go_wp2_with fail
  refine HO.out.mono ?_
  clear HO
  rintro e w1 ⟨a1, len1, cap1, rfl, hR, hb1⟩
  simp only [World.size_alloc] at hR hb1
  have hRR := hR.hR
  have c0 : w1.cell? ⟨w.heap.size, 0, none⟩ = some (.int .i64 0) := (hb1.cell (p := ⟨w.heap.size, 0, none⟩) (Nat.lt_succ_self _)).trans (World.cell?_alloc_new w _ _ 0)
  have c1 : w1.cell? ⟨w.heap.size, 1, none⟩ = some (.slice none 0 0) := (hb1.cell (p := ⟨w.heap.size, 1, none⟩) (Nat.lt_succ_self _)).trans (World.cell?_alloc_new w _ _ 1)
  have c2 : w1.cell? ⟨w.heap.size, 2, none⟩ = some (.slice none 0 0) := (hb1.cell (p := ⟨w.heap.size, 2, none⟩) (Nat.lt_succ_self _)).trans (World.cell?_alloc_new w _ _ 2)
  have f0 : ∀ i, w1.frozen? ⟨w.heap.size, i, none⟩ = false := fun i => (hb1.frozen (p := ⟨w.heap.size, i, none⟩) (Nat.lt_succ_self _)).trans (World.frozen?_alloc_new w _ _ i)
  have hbw : Below w.heap.size w w1 := ((Below.refl w.heap.size w).alloc (Nat.le_refl _) _).trans (hb1.mono (Nat.le_succ _))
  clear hb1
  go_wp2_with fail
  refine (l20Rounded_any _ _ a1 len1 cap1 0 w1 hR (by omega)).mono ?_
  rintro e w2 ⟨m, a3, a4, c3, c4, s, rfl, hm, hs, k', -, -, hO⟩
  have hK := hO.keep
  have hA := hO.ap
  have d0 := (hK.cell (p := ⟨w.heap.size, 0, none⟩) (by show w.heap.size < _; omega) (by show w.heap.size ≠ _; omega)).trans c0
  have d1 := (hK.cell (p := ⟨w.heap.size, 1, none⟩) (by show w.heap.size < _; omega) (by show w.heap.size ≠ _; omega)).trans c1
  have d2 := (hK.cell (p := ⟨w.heap.size, 2, none⟩) (by show w.heap.size < _; omega) (by show w.heap.size ≠ _; omega)).trans c2
  have g0 := (hK.frozen (p := ⟨w.heap.size, 0, none⟩) (by show w.heap.size < _; omega) (by show w.heap.size ≠ _; omega)).trans (f0 0)
  have g1 := (hK.frozen (p := ⟨w.heap.size, 1, none⟩) (by show w.heap.size < _; omega) (by show w.heap.size ≠ _; omega)).trans (f0 1)
  have g2 := (hK.frozen (p := ⟨w.heap.size, 2, none⟩) (by show w.heap.size < _; omega) (by show w.heap.size ≠ _; omega)).trans (f0 2)
  have hbw2 : Below w.heap.size w w2 := hbw.trans (hK.below (by omega) (by omega))
  clear c0 c1 c2 f0 hbw hK hR hO
  have FIN : ∀ W, W = ((w2.setCell ⟨w.heap.size, 0, none⟩ (.int .i64 m.st)).setCell ⟨w.heap.size, 1, none⟩ (.slice a3 m.next.length c3)).setCell ⟨w.heap.size, 2, none⟩ (.slice a4 m.ends.length c4) →
      IsInts W (.slice a3 m.next.length c3) m.next ∧ IsBools W (.slice a4 m.ends.length c4) m.ends ∧ Below w.heap.size w W ∧ W.cell? ⟨w.heap.size, 0, none⟩ = some (.int .i64 m.st) ∧ W.cell? ⟨w.heap.size, 1, none⟩ = some (.slice a3 m.next.length c3) ∧ W.cell? ⟨w.heap.size, 2, none⟩ = some (.slice a4 m.ends.length c4) := by
    rintro W rfl
    have hr : ∀ k, some w.heap.size = some k → k < w1.heap.size := fun k e => by cases e; omega
    have hA2 := ((hA.other (grown_setCell w2 w.heap.size 0 (.int .i64 m.st)) hr).other (grown_setCell _ w.heap.size 1 (.slice a3 m.next.length c3)) hr).other (grown_setCell _ w.heap.size 2 (.slice a4 m.ends.length c4)) hr
    refine ⟨IsInts.of_owns hA2.head, IsBools.of_owns hA2.tail.head, ((hbw2.setCell (p := ⟨w.heap.size, 0, none⟩) (Nat.le_refl _) _).setCell (p := ⟨w.heap.size, 1, none⟩) (Nat.le_refl _) _).setCell (p := ⟨w.heap.size, 2, none⟩) (Nat.le_refl _) _, by go_simp, by go_simp, by go_simp⟩
  have FI := Lib.hid FIN
  have HM := Lib.hid hm
  clear FIN hA hbw2 hm
  go_wp2
  obtain ⟨r1, r6, r2, r3, r4, r5⟩ := FI.out _ rfl
  refine bodyPost_ret (v := .tuple #[.agg #[.int .i64 m.st, .slice a3 m.next.length c3, .slice a4 m.ends.length c4], .string s]) ?_ rfl ⟨m, _, _, _, _, s, rfl, HM.out, hs, r1, r6, r2⟩
  simp [results, Try.results41, go_sem, r3, r4, r5]
end Go.Proofs.Ytpcependeealfaa

namespace Go.Proofs.Ytpcependeealfaa

/-- the first letter is put behind the others -/
def rt1 : List UInt8 → List UInt8
  | [] => []
  | c :: cs => cs ++ [c]
/-- so many letters are put behind the others -/
def rt : Nat → List UInt8 → List UInt8
  | 0, l => l
  | k + 1, l => rt1 (rt k l)
theorem rt1_length (l : List UInt8) : (rt1 l).length = l.length := by cases l <;> simp [rt1]
theorem rt_length (k : Nat) (l : List UInt8) : (rt k l).length = l.length := by
  induction k with
  | zero => rfl
  | succ k ih => rw [rt, rt1_length, ih]
theorem rt_add (a b : Nat) (l : List UInt8) : rt (a + b) l = rt a (rt b l) := by
  induction a with
  | zero => rw [Nat.zero_add]; rfl
  | succ a ih => rw [Nat.succ_add, rt, rt, ih]
theorem rt_drop (l : List UInt8) (k : Nat) (h : k ≤ l.length) : rt k l = l.drop k ++ l.take k := by
  induction k with
  | zero => simp [rt]
  | succ k ih =>
    have hk : k < l.length := by omega
    rw [rt, ih (by omega), List.drop_eq_getElem_cons hk, List.cons_append, rt1, List.append_assoc, ← List.take_succ_eq_append_getElem hk]
theorem rt_full (l : List UInt8) : rt l.length l = l := by
  rw [rt_drop l _ (Nat.le_refl _), List.drop_length, List.take_length, List.nil_append]
theorem rt1_all (l : List UInt8) : allL (rt1 l) = allL l := by
  cases l with
  | nil => rfl
  | cons c cs => simp [rt1, allL, Bool.and_comm]
theorem rt_all (k : Nat) (l : List UInt8) : allL (rt k l) = allL l := by
  induction k with
  | zero => rfl
  | succ k ih => rw [rt, rt1_all, ih]
theorem rt1_inj {a b : List UInt8} (h : rt1 a = rt1 b) : a = b := by
  have hl := congrArg List.length h
  rw [rt1_length, rt1_length] at hl
  cases a with
  | nil => cases b with
    | nil => rfl
    | cons d ds => simp at hl
  | cons c cs => cases b with
    | nil => simp at hl
    | cons d ds =>
      have := List.append_inj h (by simpa using hl)
      rw [this.1, List.singleton_inj.1 this.2]
theorem rt_inj {a b : List UInt8} (k : Nat) (h : rt k a = rt k b) : a = b := by
  induction k with
  | zero => exact h
  | succ k ih => exact ih (rt1_inj h)
theorem rt_times (l : List UInt8) (p q : Nat) (h : rt p l = l) : rt (p * q) l = l := by
  induction q with
  | zero => rfl
  | succ q ih => rw [Nat.mul_succ, rt_add, h, ih]
theorem rt_mod (l : List UInt8) (j : Nat) : rt j l = rt (j % l.length) l := by
  have e := rt_times (rt (j % l.length) l) l.length (j / l.length) (by have := rt_full (rt (j % l.length) l); rwa [rt_length] at this)
  rw [← rt_add, Nat.div_add_mod] at e
  exact e
theorem rt_nil (j : Nat) : rt j [] = [] := by
  induction j with
  | zero => rfl
  | succ j ih => rw [rt, ih]; rfl
/-- rolled on it comes back -/
theorem rt_back (l : List UInt8) (j : Nat) : ∃ i, rt i (rt j l) = l := by
  cases hl : l.length with
  | zero => exact ⟨0, by rw [List.eq_nil_of_length_eq_zero hl, rt_nil]; rfl⟩
  | succ n =>
    refine ⟨n * j, ?_⟩
    rw [← rt_add, show n * j + j = (n + 1) * j from (Nat.succ_mul n j).symm, ← hl]
    exact rt_times l _ _ (rt_full l)

/-- whether a word comes befR another one, in the order r, d, n -/
def befR : List UInt8 → List UInt8 → Bool
  | a :: xs, b :: ys => if a = b then befR xs ys else decide (letterOf (a.toNat : Int) < letterOf (b.toNat : Int))
  | _, _ => false
theorem befR_irrefl (l : List UInt8) : befR l l = false := by
  induction l with
  | nil => rfl
  | cons c cs ih => rw [befR, if_pos rfl, ih]
theorem befR_trans (a b c : List UInt8) (h : befR a b = true) (g : befR b c = true) : befR a c = true := by
  induction a generalizing b c with
  | nil => simp [befR] at h
  | cons x xs ih =>
    cases b with
    | nil => simp [befR] at h
    | cons y ys =>
      cases c with
      | nil => simp [befR] at g
      | cons z zs =>
        rw [befR] at h g ⊢
        by_cases hxy : x = y
        · subst hxy
          rw [if_pos rfl] at h
          by_cases hyz : x = z
          · subst hyz
            rw [if_pos rfl] at g ⊢
            exact ih _ _ h g
          · rw [if_neg hyz] at g ⊢; exact g
        · rw [if_neg hxy, decide_eq_true_eq] at h
          by_cases hyz : y = z
          · subst hyz
            rw [if_neg hxy, decide_eq_true_eq]; exact h
          · rw [if_neg hyz, decide_eq_true_eq] at g
            rw [if_neg (fun e => by subst e; omega), decide_eq_true_eq]; omega
theorem letter_inj {a b : UInt8} (ha : isL a = true) (hb : isL b = true) (h : letterOf (a.toNat : Int) = letterOf (b.toNat : Int)) : a = b := by
  simp only [isL, Bool.or_eq_true, beq_iff_eq] at ha hb
  rcases ha with (rfl | rfl) | rfl <;> rcases hb with (rfl | rfl) | rfl <;> first | rfl | (exact absurd h (by decide))
theorem befR_conn (a b : List UInt8) (ha : allL a = true) (hb : allL b = true) (hl : a.length = b.length) (h : befR a b = false) (g : befR b a = false) : a = b := by
  induction a generalizing b with
  | nil => exact (List.eq_nil_of_length_eq_zero hl.symm).symm
  | cons x xs ih =>
    cases b with
    | nil => simp at hl
    | cons y ys =>
      simp only [allL, List.all_cons, Bool.and_eq_true] at ha hb
      rw [befR] at h g
      by_cases hxy : x = y
      · subst hxy
        rw [if_pos rfl] at h g
        rw [ih ys ha.2 hb.2 (by simpa using hl) h g]
      · rw [if_neg hxy, decide_eq_false_iff_not] at h
        rw [if_neg (fun e => hxy e.symm), decide_eq_false_iff_not] at g
        exact absurd (letter_inj ha.1 hb.1 (by omega)) hxy

/-- the first one of the first rolls -/
def leastTo (l : List UInt8) : Nat → List UInt8
  | 0 => l
  | k + 1 => if befR (rt (k + 1) l) (leastTo l k) = true then rt (k + 1) l else leastTo l k
/-- the first one of all rolls -/
def leastR (l : List UInt8) : List UInt8 := leastTo l (l.length - 1)
theorem leastTo_is (l : List UInt8) (k : Nat) : ∃ j, j ≤ k ∧ leastTo l k = rt j l := by
  induction k with
  | zero => exact ⟨0, Nat.le_refl _, rfl⟩
  | succ k ih =>
    rw [leastTo]
    split
    · exact ⟨k + 1, Nat.le_refl _, rfl⟩
    · obtain ⟨j, hj, e⟩ := ih
      exact ⟨j, by omega, e⟩
theorem leastTo_length (l : List UInt8) (k : Nat) : (leastTo l k).length = l.length := by
  obtain ⟨j, _, e⟩ := leastTo_is l k
  rw [e, rt_length]
theorem leastTo_min (l : List UInt8) (k j : Nat) (h : j ≤ k) : befR (rt j l) (leastTo l k) = false := by
  induction k with
  | zero =>
    obtain rfl : j = 0 := by omega
    exact befR_irrefl l
  | succ k ih =>
    rw [leastTo]
    by_cases hb : befR (rt (k + 1) l) (leastTo l k) = true
    · rw [if_pos hb]
      by_cases hj : j = k + 1
      · subst hj; exact befR_irrefl _
      · cases hc : befR (rt j l) (rt (k + 1) l) with
        | false => rfl
        | true =>
          have h1 := befR_trans _ _ _ hc hb
          rw [ih (by omega)] at h1; cases h1
    · rw [if_neg hb]
      by_cases hj : j = k + 1
      · subst hj; simpa using hb
      · exact ih (by omega)
theorem leastR_is (l : List UInt8) : ∃ j, (j < l.length ∨ j = 0) ∧ leastR l = rt j l := by
  obtain ⟨j, hj, e⟩ := leastTo_is l (l.length - 1)
  exact ⟨j, by omega, e⟩
theorem leastR_min (l : List UInt8) (j : Nat) : befR (rt j l) (leastR l) = false := by
  by_cases h : l.length = 0
  · obtain rfl := List.eq_nil_of_length_eq_zero h
    rw [rt_nil]; rfl
  · rw [rt_mod]
    exact leastTo_min l _ _ (by have := Nat.mod_lt j (show 0 < l.length by omega); omega)
theorem leastR_roll (l : List UInt8) (ha : allL l = true) (j : Nat) : leastR (rt j l) = leastR l := by
  obtain ⟨a, _, h1⟩ := leastR_is (rt j l)
  obtain ⟨b, _, h2⟩ := leastR_is l
  obtain ⟨i, h3⟩ := rt_back l j
  refine befR_conn _ _ (by rw [h1, rt_all, rt_all, ha]) (by rw [h2, rt_all, ha]) (by rw [h1, h2, rt_length, rt_length, rt_length]) ?_ ?_
  · rw [h1, ← rt_add]; exact leastR_min l _
  · have e : leastR l = rt (b + i) (rt j l) := by rw [h2, rt_add, h3]
    rw [e]; exact leastR_min _ _
theorem leastR_twice (l : List UInt8) (ha : allL l = true) : leastR (leastR l) = leastR l := by
  obtain ⟨a, _, h1⟩ := leastR_is l
  conv => lhs; arg 1; rw [h1]
  exact leastR_roll l ha a

/-- how many rolls there are, sought from a number on -/
def perFrom (l : List UInt8) : Nat → Nat → Nat
  | 0, k => k
  | f + 1, k => if rt k l = l then k else perFrom l f (k + 1)
/-- how many different words a word is by rolling -/
def per (l : List UInt8) : Nat := perFrom l (l.length - 1) 1
theorem perFrom_spec (l : List UInt8) (f k : Nat) : k ≤ perFrom l f k ∧ perFrom l f k ≤ k + f ∧ (∀ i, k ≤ i → i < perFrom l f k → rt i l ≠ l) ∧ (perFrom l f k < k + f → rt (perFrom l f k) l = l) := by
  induction f generalizing k with
  | zero => exact ⟨Nat.le_refl _, Nat.le_refl _, fun i h g => by rw [perFrom] at g; omega, fun h => by rw [perFrom] at h; omega⟩
  | succ f ih =>
    rw [perFrom]
    by_cases h : rt k l = l
    · rw [if_pos h]; exact ⟨Nat.le_refl _, by omega, fun i h g => by omega, fun _ => h⟩
    · rw [if_neg h]
      obtain ⟨h1, h2, h3, h4⟩ := ih (k + 1)
      refine ⟨by omega, by omega, fun i hi hp => ?_, fun hp => h4 (by omega)⟩
      by_cases e : i = k
      · subst e; exact h
      · exact h3 i (by omega) hp
theorem per_pos (l : List UInt8) : 1 ≤ per l := (perFrom_spec l _ 1).1
theorem per_le (l : List UInt8) : per l ≤ max l.length 1 := by have := (perFrom_spec l (l.length - 1) 1).2.1; unfold per; omega
theorem per_least (l : List UInt8) (i : Nat) (h : 1 ≤ i) (g : i < per l) : rt i l ≠ l := (perFrom_spec l _ 1).2.2.1 i h g
theorem per_is (l : List UInt8) : rt (per l) l = l := by
  by_cases h : l.length = 0
  · obtain rfl := List.eq_nil_of_length_eq_zero h
    exact rt_nil _
  · by_cases g : per l < 1 + (l.length - 1)
    · exact (perFrom_spec l _ 1).2.2.2 g
    · have h1 := per_le l
      have : per l = l.length := by omega
      rw [this]; exact rt_full l
theorem per_dvd (l : List UInt8) : l.length % per l = 0 := by
  have hp := per_pos l
  have h := rt_full l
  rw [← Nat.div_add_mod l.length (per l), Nat.add_comm, rt_add, rt_times l _ _ (per_is l)] at h
  have hm := Nat.mod_lt l.length hp
  by_cases e : l.length % per l = 0
  · exact e
  · exact absurd h (per_least l _ (by omega) hm)
theorem per_unique (l : List UInt8) (p : Nat) (h1 : 1 ≤ p) (h2 : rt p l = l) (h3 : ∀ i, 1 ≤ i → i < p → rt i l ≠ l) : per l = p := by
  have a := per_pos l
  by_cases h : per l < p
  · exact absurd (per_is l) (h3 _ a h)
  · by_cases g : p < per l
    · exact absurd h2 (per_least l _ h1 g)
    · omega
theorem rt_two (l : List UInt8) (k : Nat) (h : k ≤ l.length) : rt k (l ++ l) = rt k l ++ rt k l := by
  rw [rt_drop _ _ (by rw [List.length_append]; omega), rt_drop l k h, List.drop_append_of_le_length h, List.take_append_of_le_length h]
  rw [List.append_assoc, List.append_assoc, ← List.append_assoc (List.take k l), List.take_append_drop]
theorem per_two (l : List UInt8) (h : 0 < l.length) : per (l ++ l) = per l := by
  have hl := per_le l
  refine per_unique _ _ (per_pos l) (by rw [rt_two _ _ (by omega), per_is]) (fun i h1 h2 e => ?_)
  rw [rt_two _ _ (by omega)] at e
  exact per_least l i h1 h2 (List.append_inj e (rt_length _ _)).1
/-- a roll is new just among the first ones -/
theorem per_new (l : List UInt8) (k : Nat) (h : k < per l) (i : Nat) (hi : i < k) : rt i l ≠ rt k l := by
  intro e
  have h1 : rt i (rt (k - i) l) = rt i l := by rw [← rt_add, e]; congr 1; omega
  exact per_least l (k - i) (by omega) (by omega) (rt_inj i h1)
theorem per_old (l : List UInt8) (k : Nat) (h : ¬ k < per l) : k - per l < k ∧ rt (k - per l) l = rt k l := by
  have := per_pos l
  refine ⟨by omega, ?_⟩
  conv => rhs; rw [show k = (k - per l) + per l by omega, rt_add, per_is]
theorem cntTo_lt (p k : Nat) : cntTo (fun i => decide (i < p)) k = ((min k p : Nat) : Int) := by
  induction k with
  | zero => simp [cntTo]
  | succ k ih =>
    rw [cntTo, ih]
    by_cases h : k < p
    · simp [h]; omega
    · simp [h]; omega
theorem per_count (l : List UInt8) : cntTo (fun i => decide (i < per l)) (max l.length 1) = (per l : Int) := by
  rw [cntTo_lt]; have := per_le l; congr 1; omega

/-- a word's roll -/
theorem rollListR (s : ByteArray) (k : Nat) (h : k ≤ s.size) : (s.extract k s.size ++ s.extract 0 k).data.toList = rt k s.data.toList := by
  rw [rt_drop _ _ (by rw [len_data]; exact h), ByteArray.data_append, Array.toList_append, ByteArray.data_extract, ByteArray.data_extract, Array.toList_extract, Array.toList_extract, List.extract_eq_take_drop, List.extract_eq_take_drop, List.drop_zero, Nat.sub_zero]
  congr 1
  rw [List.take_of_length_le]
  rw [List.length_drop, len_data]; exact Nat.le_refl _
/-- a text of a row of bytes -/
def txtOf (l : List UInt8) : ByteArray := ⟨l.toArray⟩
theorem txtOf_list (l : List UInt8) : (txtOf l).data.toList = l := by simp [txtOf]
theorem txtOf_data (s : ByteArray) : txtOf s.data.toList = s := bytes_ext (txtOf_list _)
theorem txtOf_size (l : List UInt8) : (txtOf l).size = l.length := by rw [← len_data, txtOf_list]
theorem rolled_str (s : ByteArray) (k : Nat) (h : k ≤ s.size) : s.extract k s.size ++ s.extract 0 k = txtOf (rt k s.data.toList) := bytes_ext (by rw [rollListR s k h, txtOf_list])
theorem wordOk_roll {s : ByteArray} (h : wordOk s = true) (k : Nat) : wordOk (txtOf (rt k s.data.toList)) = true := by
  simp only [wordOk, Bool.and_eq_true, decide_eq_true_eq] at h ⊢
  rw [txtOf_list, rt_all, txtOf_size, rt_length, len_data]
  exact h
theorem rolledStr_word {s : ByteArray} (hw : wordOk s = true) (k : Nat) (h : k ≤ s.size) : rolledOk s k = true ∧ rolledStr s k = txtOf (rt k s.data.toList) := by
  have e : rolledOk s k = true := by simp [rolledOk, hw]; omega
  exact ⟨e, by rw [rolledStr_yes s k e, rolled_str s k h]⟩
/-- LeastRoll -/
def leastRoll (s : ByteArray) : ByteArray := if wordOk s = true then txtOf (leastR s.data.toList) else ⟨#[]⟩
/-- RollsOf -/
def rollsOf (s : ByteArray) : Int := if wordOk s = true then (per s.data.toList : Int) else -1
end Go.Proofs.Ytpcependeealfaa

namespace Go.Proofs.Ytpcependeealfaa
open Go.RowKit

/-- StateFrom -/
def M.from (m : M) (s : Int) (word : ByteArray) : Int := if (m.ok && wordOk word && (decide (0 ≤ s) && decide (s ≤ m.st - 1))) = true then m.goes s word.data.toList else -2
theorem M.from_yes {m : M} {s : Int} {word : ByteArray} (h : m.ok = true) (g : wordOk word = true) (s0 : 0 ≤ s) (s1 : s < m.st) : m.from s word = m.goes s word.data.toList := by
  rw [M.from, if_pos]
  rw [h, g, Bool.true_and, Bool.true_and, Bool.and_eq_true, decide_eq_true_eq, decide_eq_true_eq]; omega
theorem M.from_no {m : M} {s : Int} {word : ByteArray} (h : (m.ok && wordOk word && (decide (0 ≤ s) && decide (s ≤ m.st - 1))) = false) : m.from s word = -2 := by rw [M.from, h]; rfl
/-- the least state from which a row of letters leads back, sought from a state on -/
def ringTo (m : M) (l : List UInt8) : Nat → Int → Int
  | 0, _ => -1
  | f + 1, s => if m.goes s l = s then s else ringTo m l f (s + 1)
/-- RingState of letters -/
def ringL (m : M) (l : List UInt8) : Int := ringTo m l m.st.toNat 0
/-- RingState -/
def ringState (m : M) (word : ByteArray) : Int := if (m.ok && wordOk word && decide (0 < word.size)) = true then ringL m word.data.toList else -1
theorem ringTo_spec (m : M) (l : List UInt8) (f : Nat) (s : Int) : (ringTo m l f s = -1 ∧ ∀ i, s ≤ i → i < s + f → m.goes i l ≠ i) ∨ (s ≤ ringTo m l f s ∧ ringTo m l f s < s + f ∧ m.goes (ringTo m l f s) l = ringTo m l f s ∧ ∀ i, s ≤ i → i < ringTo m l f s → m.goes i l ≠ i) := by
  induction f generalizing s with
  | zero => exact .inl ⟨rfl, fun i h g => by omega⟩
  | succ f ih =>
    rw [ringTo]
    by_cases h : m.goes s l = s
    · rw [if_pos h]; exact .inr ⟨Int.le_refl _, by omega, h, fun i h g => by omega⟩
    · rw [if_neg h]
      rcases ih (s + 1) with ⟨h1, h2⟩ | ⟨h1, h2, h3, h4⟩
      · refine .inl ⟨h1, fun i hi hp => ?_⟩
        by_cases e : i = s
        · subst e; exact h
        · exact h2 i (by omega) (by omega)
      · refine .inr ⟨by omega, by omega, h3, fun i hi hp => ?_⟩
        by_cases e : i = s
        · subst e; exact h
        · exact h4 i (by omega) hp
theorem ringTo_yes {m : M} {l : List UInt8} {f : Nat} {s : Int} (h : m.goes s l = s) : ringTo m l (f + 1) s = s := by rw [ringTo, if_pos h]
theorem ringTo_no {m : M} {l : List UInt8} {f : Nat} {s : Int} (h : m.goes s l ≠ s) : ringTo m l (f + 1) s = ringTo m l f (s + 1) := by rw [ringTo, if_neg h]
theorem ringState_yes {m : M} {word : ByteArray} (h : m.ok = true) (g : wordOk word = true) (k : 0 < word.size) : ringState m word = ringL m word.data.toList := by
  rw [ringState, h, g, decide_eq_true k]; rfl
theorem ringState_no {m : M} {word : ByteArray} (h : (m.ok && wordOk word && decide (0 < word.size)) = false) : ringState m word = -1 := by rw [ringState, h]; rfl
/-- RingOk -/
def ringOk (m : M) (word : ByteArray) : Bool := decide (0 ≤ ringState m word)
/-- whether a row of letters leads from some state back to it -/
theorem ringL_iff (m : M) (l : List UInt8) (h : 1 ≤ m.st) : 0 ≤ ringL m l ↔ ∃ s, 0 ≤ s ∧ s < m.st ∧ m.goes s l = s := by
  rcases ringTo_spec m l m.st.toNat 0 with ⟨h1, h2⟩ | ⟨h1, h2, h3, _⟩
  · constructor
    · intro h0; rw [ringL] at h0; omega
    · rintro ⟨s, a, b, c⟩; exact absurd c (h2 s a (by omega))
  · exact ⟨fun _ => ⟨_, h1, by omega, h3⟩, fun _ => h1⟩
theorem ringL_least (m : M) (l : List UInt8) (h : 0 ≤ ringL m l) : ringL m l < m.st.toNat ∧ m.goes (ringL m l) l = ringL m l ∧ ∀ i, 0 ≤ i → i < ringL m l → m.goes i l ≠ i := by
  rcases ringTo_spec m l m.st.toNat 0 with ⟨h1, h2⟩ | ⟨h1, h2, h3, h4⟩
  · rw [ringL] at h; omega
  · exact ⟨by rw [ringL]; omega, h3, h4⟩
theorem ringState_neg (m : M) (word : ByteArray) (h : ¬ 0 ≤ ringState m word) : ringState m word = -1 := by
  rw [ringState] at h ⊢
  split at h
  · rename_i g
    rw [if_pos g]
    rcases ringTo_spec m word.data.toList m.st.toNat 0 with ⟨h1, _⟩ | ⟨h1, _⟩
    · exact h1
    · exact absurd h1 h
  · rename_i g
    rw [if_neg g]
theorem ringL_roll1 {m : M} (hm : m.ok = true) (l : List UInt8) (hl : allL l = true) (h : 0 ≤ ringL m l) : 0 ≤ ringL m (rt1 l) := by
  have hs := M.ok_shape hm
  rw [ringL_iff m _ hs.1] at h ⊢
  obtain ⟨s, h0, h1, h2⟩ := h
  cases l with
  | nil => exact ⟨s, h0, h1, rfl⟩
  | cons c cs =>
    simp only [allL, List.all_cons, Bool.and_eq_true] at hl
    have hc := letter_bd hl.1
    have hb := M.nx_bd hm s _ h1 hc.1 hc.2
    rw [M.goes] at h2
    refine ⟨m.nx s (letterOf (c.toNat : Int)), ?_, hb.2, ?_⟩
    · by_cases g : m.nx s (letterOf (c.toNat : Int)) = -1
      · rw [g, M.goes_neg] at h2; omega
      · omega
    · rw [rt1, M.goes_append, h2]; rfl
theorem ringL_roll {m : M} (hm : m.ok = true) (l : List UInt8) (hl : allL l = true) (k : Nat) (h : 0 ≤ ringL m l) : 0 ≤ ringL m (rt k l) := by
  induction k with
  | zero => exact h
  | succ k ih => exact ringL_roll1 hm _ (by rw [rt_all, hl]) ih
theorem ringL_roll_iff {m : M} (hm : m.ok = true) (l : List UInt8) (hl : allL l = true) (k : Nat) : 0 ≤ ringL m (rt k l) ↔ 0 ≤ ringL m l := by
  refine ⟨fun h => ?_, ringL_roll hm l hl k⟩
  obtain ⟨i, e⟩ := rt_back l k
  have := ringL_roll hm (rt k l) (by rw [rt_all, hl]) i h
  rwa [e] at this
/-- rolled a ring is a ring -/
theorem ringOk_roll {m : M} {s : ByteArray} (hw : wordOk s = true) (k : Nat) : ringOk m (txtOf (rt k s.data.toList)) = ringOk m s := by
  have hw2 := wordOk_roll hw k
  have hsz : (txtOf (rt k s.data.toList)).size = s.size := by rw [txtOf_size, rt_length, len_data]
  rw [Bool.eq_iff_iff, ringOk, ringOk, decide_eq_true_eq, decide_eq_true_eq]
  by_cases hm : m.ok = true
  · by_cases hp : 0 < s.size
    · rw [ringState_yes hm hw hp, ringState_yes hm hw2 (by omega), txtOf_list]
      exact ringL_roll_iff hm _ (wordOk_all hw) k
    · rw [ringState_no (word := s) (by simp [hp]), ringState_no (by simp [hsz, hp])]
  · rw [ringState_no (word := s) (by simp [hm]), ringState_no (by simp [hm])]
/-- done twice a ring is a ring -/
theorem ringOk_two {m : M} {s : ByteArray} (h : ringOk m s = true) (h2 : wordOk (s ++ s) = true) : ringOk m (s ++ s) = true := by
  rw [ringOk, decide_eq_true_eq] at h ⊢
  by_cases hg : (m.ok && wordOk s && decide (0 < s.size)) = true
  · rw [ringState, if_pos hg] at h
    simp only [Bool.and_eq_true, decide_eq_true_eq] at hg
    have hs := M.ok_shape hg.1.1
    rw [ringState_yes hg.1.1 h2 (by rw [ByteArray.size_append]; omega), ringL_iff m _ hs.1]
    obtain ⟨s', a, b, c⟩ := (ringL_iff m _ hs.1).1 h
    refine ⟨s', a, b, ?_⟩
    rw [ByteArray.data_append, Array.toList_append, M.goes_append, c, c]
  · rw [ringState, if_neg hg] at h; omega

/-- the sum of the first values of a function -/
def sumN (f : Nat → Int) : Nat → Int
  | 0 => 0
  | k + 1 => sumN f k + f k
theorem sumN_bd (f : Nat → Int) (B : Int) (k : Nat) (h : ∀ i, i < k → 0 ≤ f i ∧ f i ≤ B) : 0 ≤ sumN f k ∧ sumN f k ≤ k * B := by
  induction k with
  | zero => simp [sumN]
  | succ k ih =>
    have h1 := ih (fun i hi => h i (by omega))
    have h2 := h k (by omega)
    have e : ((k + 1 : Nat) : Int) * B = k * B + B := by rw [Int.natCast_add, Int.add_mul]; simp
    rw [sumN, e]; omega
/-- by how many letters a machine goes on from a state to another one -/
def M.steps (m : M) (i j : Nat) : Int := (if m.nx i 0 = (j : Int) then 1 else 0) + (if m.nx i 1 = (j : Int) then 1 else 0) + (if m.nx i 2 = (j : Int) then 1 else 0)
/-- of the first letters -/
def M.stepsTo (m : M) (l : Nat) (i j : Nat) : Int := sumN (fun c => if m.nx i (c : Int) = (j : Int) then 1 else 0) l
theorem M.stepsTo_three (m : M) (i j : Nat) : m.stepsTo 3 i j = m.steps i j := by
  simp only [M.stepsTo, sumN, M.steps, Int.zero_add]; rfl
theorem M.steps_bd (m : M) (i j : Nat) : 0 ≤ m.steps i j ∧ m.steps i j ≤ 3 := by
  rw [M.steps]; split <;> split <;> split <;> omega
/-- the walks from state to state with one letter more than so many -/
def M.walks (m : M) : Nat → Nat → Nat → Int
  | 0, i, j => m.steps i j
  | k + 1, i, j => sumN (fun b => m.walks k i b * m.steps b j) m.ends.length
/-- the diagonal's sum -/
def M.backs (m : M) (k : Nat) : Int := sumN (fun i => m.walks k i i) m.ends.length
/-- bounds: 3, 432, .. -/
def wbd : Nat → Int
  | 0 => 3
  | k + 1 => 48 * (wbd k * 3)
theorem M.walks_bd (m : M) (h : m.ends.length ≤ 48) (k i j : Nat) : 0 ≤ m.walks k i j ∧ m.walks k i j ≤ wbd k := by
  induction k generalizing i j with
  | zero => exact m.steps_bd i j
  | succ k ih =>
    have hb := sumN_bd (fun b => m.walks k i b * m.steps b j) (wbd k * 3) m.ends.length (fun b _ => by
      have h1 := ih i b
      have h2 := m.steps_bd b j
      exact ⟨Int.mul_nonneg h1.1 h2.1, Int.mul_le_mul h1.2 h2.2 h2.1 (by omega)⟩)
    refine ⟨hb.1, Int.le_trans hb.2 ?_⟩
    have h1 := ih i i
    rw [wbd]
    exact Int.mul_le_mul_of_nonneg_right (by omega) (by omega)
theorem wbd_le (k : Nat) (h : k ≤ 5) : wbd k ≤ 185752092672 := by
  have : k = 0 ∨ k = 1 ∨ k = 2 ∨ k = 3 ∨ k = 4 ∨ k = 5 := by omega
  rcases this with rfl | rfl | rfl | rfl | rfl | rfl <;> decide
theorem wbd_pos (k : Nat) : 3 ≤ wbd k := by
  induction k with
  | zero => decide
  | succ k ih => rw [wbd]; omega
/-- CountWalks -/
def ringNum (n : Int) : Bool := decide (1 ≤ n) && decide (n ≤ 6)
def countWalks (m : M) (n : Int) : Int := if (m.ok && ringNum n) = true then m.backs (n.toNat - 1) else -1

/-- a word of so many letters, told by a number: its letters are the digits in base 3, the least one first -/
def digits : Nat → Nat → List UInt8
  | 0, _ => []
  | k + 1, way => digits k way ++ [if way / 3 ^ k % 3 = 0 then 114 else if way / 3 ^ k % 3 = 1 then 100 else 110]
/-- all words of so many letters, each with each letter behind -/
def wordsL : Nat → List (List UInt8)
  | 0 => [[]]
  | k + 1 => (wordsL k).flatMap fun w => [w ++ [114], w ++ [100], w ++ [110]]
/-- how often a test holds in a row -/
def cntOf (p : List UInt8 → Bool) : List (List UInt8) → Int
  | [] => 0
  | w :: ws => (if p w = true then 1 else 0) + cntOf p ws
theorem cntOf_append (p : List UInt8 → Bool) (a b : List (List UInt8)) : cntOf p (a ++ b) = cntOf p a + cntOf p b := by
  induction a with
  | nil => simp [cntOf]
  | cons x xs ih => rw [List.cons_append, cntOf, cntOf, ih, Int.add_assoc]
theorem cntOf_bd (p : List UInt8 → Bool) (a : List (List UInt8)) : 0 ≤ cntOf p a ∧ cntOf p a ≤ a.length := by
  induction a with
  | nil => simp [cntOf]
  | cons x xs ih => rw [cntOf, List.length_cons]; split <;> omega
theorem cntOf_flat (p : List UInt8 → Bool) (a : List (List UInt8)) : cntOf p (a.flatMap fun w => [w ++ [114], w ++ [100], w ++ [110]]) = cntOf (fun w => p (w ++ [114])) a + cntOf (fun w => p (w ++ [100])) a + cntOf (fun w => p (w ++ [110])) a := by
  induction a with
  | nil => simp [cntOf]
  | cons x xs ih =>
    rw [List.flatMap_cons, cntOf_append, ih]
    simp only [cntOf]; omega
theorem cntTo_add (p : Nat → Bool) (a b : Nat) : cntTo p (a + b) = cntTo p a + cntTo (fun i => p (a + i)) b := by
  induction b with
  | zero => simp [cntTo]
  | succ b ih => rw [← Nat.add_assoc, cntTo, cntTo, ih, Int.add_assoc]
theorem cntTo_cgr (p q : Nat → Bool) (k : Nat) (h : ∀ i, i < k → p i = q i) : cntTo p k = cntTo q k := by
  induction k with
  | zero => rfl
  | succ k ih => rw [cntTo, cntTo, ih (fun i hi => h i (by omega)), h k (by omega)]
theorem digits_mod (k j way : Nat) (h : k ≤ j) (t : Nat) : digits k (t * 3 ^ j + way) = digits k way := by
  induction k with
  | zero => rfl
  | succ k ih =>
    have e : (t * 3 ^ j + way) / 3 ^ k % 3 = way / 3 ^ k % 3 := by
      obtain ⟨d, rfl⟩ : ∃ d, j = k + 1 + d := ⟨j - (k + 1), by omega⟩
      have e1 : t * 3 ^ (k + 1 + d) + way = 3 ^ k * (3 * (t * 3 ^ d)) + way := by
        rw [Nat.pow_add, Nat.pow_succ]; simp [Nat.mul_comm, Nat.mul_assoc, Nat.mul_left_comm]
      rw [e1, Nat.mul_add_div (Nat.pow_pos (by omega)), Nat.mul_add_mod]
    rw [digits, digits, ih (by omega), e]
theorem digits_split (k way t : Nat) (h : way < 3 ^ k) (ht : t < 3) : digits (k + 1) (3 ^ k * t + way) = digits k way ++ [if t = 0 then 114 else if t = 1 then 100 else 110] := by
  have hp : 0 < 3 ^ k := Nat.pow_pos (by omega)
  have e : (3 ^ k * t + way) / 3 ^ k % 3 = t := by
    rw [Nat.mul_add_div hp, Nat.div_eq_of_lt h, Nat.add_zero, Nat.mod_eq_of_lt ht]
  rw [digits, e, Nat.mul_comm, digits_mod k k way (Nat.le_refl _) t]
/-- both ways to tell all words count the same -/
theorem words_count (k : Nat) (p : List UInt8 → Bool) : cntTo (fun way => p (digits k way)) (3 ^ k) = cntOf p (wordsL k) := by
  induction k generalizing p with
  | zero => simp [cntTo, cntOf, wordsL, digits]
  | succ k ih =>
    have part : ∀ (t : Nat) (c : UInt8), t < 3 → (if t = 0 then (114 : UInt8) else if t = 1 then 100 else 110) = c → cntTo (fun way => p (digits (k + 1) (3 ^ k * t + way))) (3 ^ k) = cntOf (fun w => p (w ++ [c])) (wordsL k) := by
      intro t c ht hc
      rw [← ih (fun w => p (w ++ [c]))]
      exact cntTo_cgr _ _ _ (fun i hi => by simp only [digits_split k i t hi ht, hc])
    have h0 := part 0 114 (by omega) rfl
    have h1 := part 1 100 (by omega) rfl
    have h2 := part 2 110 (by omega) rfl
    rw [show 3 ^ (k + 1) = 3 ^ k + 3 ^ k + 3 ^ k by rw [Nat.pow_succ]; omega, cntTo_add, cntTo_add, wordsL, cntOf_flat, ← h0, ← h1, ← h2]
    simp only [Nat.mul_zero, Nat.zero_add, Nat.mul_one]
    congr 1
    exact cntTo_cgr _ _ _ (fun i _ => by rw [show 3 ^ k * 2 = 3 ^ k + 3 ^ k by omega])
theorem digits_length (k way : Nat) : (digits k way).length = k := by
  induction k with
  | zero => rfl
  | succ k ih => rw [digits, List.length_append, ih]; rfl
theorem digits_all (k way : Nat) : allL (digits k way) = true := by
  induction k with
  | zero => rfl
  | succ k ih =>
    rw [digits, allL, List.all_append]
    rw [allL] at ih
    rw [ih]; split
    · rfl
    · split <;> rfl
theorem wordsL_mem (k : Nat) (w : List UInt8) (h : w ∈ wordsL k) : w.length = k ∧ allL w = true := by
  induction k generalizing w with
  | zero => simp [wordsL] at h; subst h; exact ⟨rfl, rfl⟩
  | succ k ih =>
    rw [wordsL, List.mem_flatMap] at h
    obtain ⟨v, hv, hw⟩ := h
    obtain ⟨h1, h2⟩ := ih v hv
    rw [allL] at h2
    simp only [List.mem_cons, List.not_mem_nil, or_false] at hw
    rcases hw with rfl | rfl | rfl <;> (refine ⟨by simp [h1], ?_⟩; rw [allL, List.all_append, h2]; rfl)
theorem wordsL_length (k : Nat) : (wordsL k).length = 3 ^ k := by
  induction k with
  | zero => rfl
  | succ k ih =>
    have : ∀ a : List (List UInt8), (a.flatMap fun w => [w ++ [114], w ++ [100], w ++ [110]]).length = a.length * 3 := by
      intro a
      induction a with
      | nil => rfl
      | cons x xs ihx => rw [List.flatMap_cons, List.length_append, ihx]; simp; omega
    rw [wordsL, this, ih, Nat.pow_succ]
/-- whether a word is a necklace of a machine -/
def neckB (m : M) (l : List UInt8) : Bool := decide (leastR l = l) && decide (0 ≤ ringL m l)
/-- CountNecklaces -/
def countNecks (m : M) (n : Int) : Int := if (m.ok && ringNum n) = true then cntOf (neckB m) (wordsL n.toNat) else -1
end Go.Proofs.Ytpcependeealfaa

namespace Go.Proofs.Ytpcependeealfaa
open Go.RowKit

theorem fromClosure_any (m : M) (B : Nat) (s l : Int) (nv ev : Value) (w : World) (hM : MachBox B m.st nv m.next ev m.ends w) (hk : m.ok = true) (s0 : -1 ≤ s) (s1 : s < m.st) (l0 : 0 ≤ l) (l1 : l ≤ 2) :
    Calls Try.prog 79 #[.int .i64 s, .int .i64 l, .pointer (some ⟨B, 0, none⟩)] w fun e w' => e = .returned (.int .i64 (m.nx s l)) ∧ Below w.heap.size w w' := by
  have HC := Lib.hid (fun W a => implNextOf_any m s l nv ev W a hk s0 s1 l0 l1)
  have c0 := hM.c0
  have c1 := hM.c1
  have c2 := hM.c2
  have HI := Lib.hid hM.ints
  clear hM hk
  go_enter Try.func79, Try.ntmps79
  go_wp2_with fail
  refine (HC.out _ HI.out).mono ?_
  rintro e w1 ⟨rfl, hb1⟩
  go_wp2_with fail
  go_ret
  exact ⟨rfl, hb1⟩

set_option maxHeartbeats 1600000 in
theorem foldFrom_any (m : M) (B : Nat) (s : Int) (word : ByteArray) (nv ev : Value) (w : World) (hM : MachBox B m.st nv m.next ev m.ends w) (hk : m.ok = true) (hw : wordOk word = true) (s0 : 0 ≤ s) (s1 : s < m.st) :
    Calls Try.prog 78 #[.string word, .int .i64 s, .func (.func 79) #[] #[.pointer (some ⟨B, 0, none⟩)]] w
      fun e w' => e = .returned (.int .i64 (m.goes s word.data.toList)) ∧ Below w.heap.size w w' := by
  have h14 := wordOk_size hw
  have HK := Lib.hid hk
  have HW := Lib.hid hw
  have MM := Lib.hid hM
  have HS1 := Lib.hid s1
  clear hM hk hw
  go_enter Try.func78, Try.ntmps78
  go_wp2_with fail
  go_loopw [1, 7, 10] (fun v _ i wr => ∃ k : Nat, k ≤ word.size ∧ i = .int .i64 k ∧ v = .int .i64 (m.goes s (word.data.toList.take k)) ∧ Below w.heap.size w wr) (fun _ _ i _ => word.size - (intOf i).toNat)
  case atStart => exact ⟨0, Nat.zero_le _, rfl, rfl, Below.refl _ _⟩
  case round =>
    obtain ⟨k, hkk, rfl, rfl, hb⟩ := hrel
    have HB := Lib.hid hb
    clear hb
    by_cases hlt : k < word.size
    · have HSTEP := Lib.hid (M.goes_snoc m s word k hlt)
      have hbd := Lib.hid (goes_step_le (s := s) HK.out HW.out (by omega) HS1.out k)
      have hL := wordOk_at HW.out k hlt
      have hlb := Lib.hid (letter_bd hL)
      have HC := Lib.hid (idxLetter_any word[k] hL)
      clear hL
      generalize letterOf (word[k].toNat : Int) = l at *
      generalize m.goes s (word.data.toList.take k) = p at *
      have MD := Lib.hid (MM.out.below HB.out)
      go_wp2_with (first | (go_at_call 82; refine (HC.out _).mono ?_; rintro e w7 ⟨rfl, rfl⟩) | (go_at_call 79; refine (fromClosure_any m B p l nv ev _ MD.out HK.out hbd.out.1 hbd.out.2 hlb.out.1 hlb.out.2).mono ?_; rintro e w8 ⟨rfl, hb8⟩))
      go_roundw
      case rel => exact ⟨k + 1, by omega, by go_num, by rw [HSTEP.out], HB.out.trans (hb8.mono HB.out.size)⟩
      case measure => simp [intOf]; omega
    · obtain rfl : k = word.size := by omega
      have HG := Lib.hid (M.goes_all m s word)
      generalize m.goes s (word.data.toList.take word.size) = p at *
      go_wp2
      go_ret
      exact ⟨ret_int HG.out, HB.out⟩

theorem M.from_no1 {m : M} (s : Int) (word : ByteArray) (h : m.ok = false) : m.from s word = -2 := M.from_no (by rw [h]; rfl)
theorem M.from_no2 {m : M} (s : Int) {word : ByteArray} (h : wordOk word = false) : m.from s word = -2 := M.from_no (by rw [h, Bool.and_false]; rfl)
theorem M.from_no3 {m : M} {s : Int} (word : ByteArray) (h : ¬ (0 ≤ s ∧ s < m.st)) : m.from s word = -2 := M.from_no (by
  have : (decide (0 ≤ s) && decide (s ≤ m.st - 1)) = false := by
    rw [Bool.and_eq_false_iff, decide_eq_false_iff_not, decide_eq_false_iff_not]; omega
  rw [this, Bool.and_false])

set_option maxHeartbeats 1600000 in
theorem implStateFrom_any (m : M) (s : Int) (word : ByteArray) (nv ev : Value) (w : World) (h1 : IsInts w nv m.next) (h2 : IsBools w ev m.ends) (hst : (Lit.int .i64 m.st).wf = true) (hs : word.size ≤ maxLen) :
    Calls Try.prog 35 #[.agg #[.int .i64 m.st, nv, ev], .int .i64 s, .string word] w fun e w' => e = .returned (.int .i64 (m.from s word)) ∧ Below w.heap.size w w' := by
  have hM : MachBox w.heap.size m.st nv m.next ev m.ends (w.alloc (.cells #[.int .i64 m.st, nv, ev] 26)) := MachBox.new _ h1 h2
  have M0 := Lib.hid hM
  have q0 : Hid (Below w.heap.size w (w.alloc (.cells #[.int .i64 m.st, nv, ev] 26))) := Lib.hid ((Below.refl _ _).alloc (Nat.le_refl _) _)
  have HWD := Lib.hid (fun W => implWordOk_any word W hs)
  clear hM h1 h2
  go_enter Try.func35, Try.ntmps35
  go_wp2_with fail
  refine (implMachineOk_any m nv ev _ M0.out.ints M0.out.bools hst).mono ?_
  rintro e w1 ⟨rfl, hb1⟩
  have M1 := Lib.hid (M0.out.below hb1)
  have q1 := Lib.hid (q0.out.trans (hb1.mono q0.out.size))
  clear hb1 M0
  have y10 := M1.out.c0
  have y11 := M1.out.c1
  have y12 := M1.out.c2
  by_cases hk : m.ok = true
  · have HK := Lib.hid hk
    rw [hk]
    clear hk
    by_cases hw : wordOk word = true
    · have HW := Lib.hid hw
      rw [hw] at HWD
      clear hw
      by_cases hr : 0 ≤ s ∧ s < m.st
      · obtain ⟨r0, r1⟩ := hr
        have HR := Lib.hid (M.from_yes HK.out HW.out r0 r1)
        have HF := Lib.hid (fun W a => foldFrom_any m w.heap.size s word nv ev W a HK.out HW.out r0 r1)
        have n1 : ¬ s < 0 := by omega
        have n2 : ¬ m.st ≤ s := by omega
        go_wp2_with (first | (go_at_call 45; refine (HWD.out _).mono ?_; rintro e w2 ⟨rfl, rfl⟩) | (go_at_call 78; refine (HF.out _ M1.out).mono ?_; rintro e w3 ⟨rfl, hb3⟩; have q3 := Lib.hid (q1.out.trans (hb3.mono q1.out.size)); clear hb3))
        go_ret
        exact ⟨ret_int HR.out.symm, q3.out⟩
      · have HR := Lib.hid (M.from_no3 (m := m) word hr)
        by_cases n1 : s < 0
        · clear hr
          go_wp2_with (go_at_call 45; refine (HWD.out _).mono ?_; rintro e w2 ⟨rfl, rfl⟩)
          go_ret
          exact ⟨ret_int HR.out.symm, q1.out⟩
        · have n2 : m.st ≤ s := by omega
          clear hr
          go_wp2_with (go_at_call 45; refine (HWD.out _).mono ?_; rintro e w2 ⟨rfl, rfl⟩)
          go_ret
          exact ⟨ret_int HR.out.symm, q1.out⟩
    · have hwf : wordOk word = false := by simpa using hw
      have HR := Lib.hid (M.from_no2 (m := m) s hwf)
      rw [hwf] at HWD
      clear hw hwf
      go_wp2_with (go_at_call 45; refine (HWD.out _).mono ?_; rintro e w2 ⟨rfl, rfl⟩)
      go_ret
      exact ⟨ret_int HR.out.symm, q1.out⟩
  · have hkf : m.ok = false := by simpa using hk
    have HR := Lib.hid (M.from_no1 s word hkf)
    rw [hkf]
    clear hk hkf
    go_wp2_with fail
    go_ret
    exact ⟨ret_int HR.out.symm, q1.out⟩

set_option maxHeartbeats 1600000 in
theorem specStateFrom_any (m : M) (s : Int) (word : ByteArray) (nv ev : Value) (w : World) (h1 : IsInts w nv m.next) (h2 : IsBools w ev m.ends) (hst : (Lit.int .i64 m.st).wf = true) (hs : word.size ≤ maxLen) :
    Calls Try.prog 36 #[.agg #[.int .i64 m.st, nv, ev], .int .i64 s, .string word] w fun e w' => e = .returned (.int .i64 (m.from s word)) ∧ Below w.heap.size w w' := by
  have hM : MachBox w.heap.size m.st nv m.next ev m.ends (w.alloc (.cells #[.int .i64 m.st, nv, ev] 26)) := MachBox.new _ h1 h2
  have M0 := Lib.hid hM
  have q0 : Hid (Below w.heap.size w (w.alloc (.cells #[.int .i64 m.st, nv, ev] 26))) := Lib.hid ((Below.refl _ _).alloc (Nat.le_refl _) _)
  have HWD := Lib.hid (fun W => specWordOk_any word W hs)
  clear hM h1 h2
  go_enter Try.func36, Try.ntmps36
  go_wp2_with fail
  refine (specMachineOk_any m nv ev _ M0.out.ints M0.out.bools hst).mono ?_
  rintro e w1 ⟨rfl, hb1⟩
  have M1 := Lib.hid (M0.out.below hb1)
  have q1 := Lib.hid (q0.out.trans (hb1.mono q0.out.size))
  clear hb1 M0
  have y10 := M1.out.c0
  have y11 := M1.out.c1
  have y12 := M1.out.c2
  by_cases hk : m.ok = true
  · have HK := Lib.hid hk
    have hsh := M.ok_shape hk
    have hst48 : m.st ≤ 48 := hsh.2.1
    have hst1 : 1 ≤ m.st := hsh.1
    rw [hk]
    clear hk hsh
    by_cases hw : wordOk word = true
    · have HW := Lib.hid hw
      rw [hw] at HWD
      clear hw
      by_cases hr : 0 ≤ s ∧ s < m.st
      · obtain ⟨r0, r1⟩ := hr
        have HR := Lib.hid (M.from_yes HK.out HW.out r0 r1)
        have HF := Lib.hid (fun W a => specL2From_any m s word nv ev W a HK.out HW.out (by omega) r1)
        have HIN := Lib.hid (fun W => l1In_any s 0 (m.st - 1) W)
        rw [show (decide ((0 : Int) ≤ s) && decide (s ≤ m.st - 1)) = true by simp; omega] at HIN
        go_wp2_with (first | (go_at_call 49; refine (HWD.out _).mono ?_; rintro e w2 ⟨rfl, rfl⟩) | (go_at_call 68; refine (HIN.out _).mono ?_; rintro e w2 ⟨rfl, rfl⟩) | (go_at_call 81; refine (HF.out _ M1.out.ints).mono ?_; rintro e w3 ⟨rfl, hb3⟩; have q3 := Lib.hid (q1.out.trans (hb3.mono q1.out.size)); clear hb3))
        go_ret
        exact ⟨ret_int HR.out.symm, q3.out⟩
      · have HR := Lib.hid (M.from_no3 (m := m) word hr)
        have HIN := Lib.hid (fun W => l1In_any s 0 (m.st - 1) W)
        rw [show (decide ((0 : Int) ≤ s) && decide (s ≤ m.st - 1)) = false by rw [Bool.and_eq_false_iff, decide_eq_false_iff_not, decide_eq_false_iff_not]; omega] at HIN
        clear hr
        go_wp2_with (first | (go_at_call 49; refine (HWD.out _).mono ?_; rintro e w2 ⟨rfl, rfl⟩) | (go_at_call 68; refine (HIN.out _).mono ?_; rintro e w2 ⟨rfl, rfl⟩))
        go_ret
        exact ⟨ret_int HR.out.symm, q1.out⟩
    · have hwf : wordOk word = false := by simpa using hw
      have HR := Lib.hid (M.from_no2 (m := m) s hwf)
      rw [hwf] at HWD
      clear hw hwf
      go_wp2_with (go_at_call 49; refine (HWD.out _).mono ?_; rintro e w2 ⟨rfl, rfl⟩)
      go_ret
      exact ⟨ret_int HR.out.symm, q1.out⟩
  · have hkf : m.ok = false := by simpa using hk
    have HR := Lib.hid (M.from_no1 s word hkf)
    rw [hkf]
    clear hk hkf
    go_wp2_with fail
    go_ret
    exact ⟨ret_int HR.out.symm, q1.out⟩
end Go.Proofs.Ytpcependeealfaa

namespace Go.Proofs.Ytpcependeealfaa
open Go.RowKit

theorem ring_no1 {m : M} (word : ByteArray) (h : m.ok = false) : ringState m word = -1 := ringState_no (by rw [h]; rfl)
theorem ring_no2 (m : M) {word : ByteArray} (h : wordOk word = false) : ringState m word = -1 := ringState_no (by rw [h, Bool.and_false]; rfl)
theorem ring_no3 (m : M) {word : ByteArray} (h : ¬ 0 < word.size) : ringState m word = -1 := ringState_no (by rw [decide_eq_false h, Bool.and_false])
theorem empty_of_size {word : ByteArray} (h : ¬ 0 < word.size) : word = ⟨#[]⟩ := by
  apply bytes_ext
  rw [List.eq_nil_of_length_eq_zero (l := word.data.toList) (by rw [len_data]; omega)]
theorem full_of_size {word : ByteArray} (h : 0 < word.size) : ¬ word.toList = [] := by
  rw [ByteArray.toList_eq]
  intro e
  have := congrArg List.length e
  rw [len_data, List.length_nil] at this; omega

set_option maxHeartbeats 1600000 in
theorem implRingState_any (m : M) (word : ByteArray) (nv ev : Value) (w : World) (h1 : IsInts w nv m.next) (h2 : IsBools w ev m.ends) (hst : (Lit.int .i64 m.st).wf = true) (hs : word.size ≤ maxLen) :
    Calls Try.prog 39 #[.agg #[.int .i64 m.st, nv, ev], .string word] w fun e w' => e = .returned (.int .i64 (ringState m word)) ∧ Below w.heap.size w w' := by
  have hM : MachBox w.heap.size m.st nv m.next ev m.ends (w.alloc (.cells #[.int .i64 m.st, nv, ev] 26)) := MachBox.new _ h1 h2
  have M0 := Lib.hid hM
  have q0 : Hid (Below w.heap.size w (w.alloc (.cells #[.int .i64 m.st, nv, ev] 26))) := Lib.hid ((Below.refl _ _).alloc (Nat.le_refl _) _)
  have HWD := Lib.hid (fun W => implWordOk_any word W hs)
  clear hM h1 h2
  go_enter Try.func39, Try.ntmps39
  go_wp2_with fail
  refine (implMachineOk_any m nv ev _ M0.out.ints M0.out.bools hst).mono ?_
  rintro e w1 ⟨rfl, hb1⟩
  have M1 := Lib.hid (M0.out.below hb1)
  have q1 := Lib.hid (q0.out.trans (hb1.mono q0.out.size))
  clear hb1 M0
  have y10 := M1.out.c0
  have y11 := M1.out.c1
  have y12 := M1.out.c2
  by_cases hk : m.ok = true
  · have HK := Lib.hid hk
    have hsh := M.ok_shape hk
    have hst48 : m.st ≤ 48 := hsh.2.1
    have hst1 : 1 ≤ m.st := hsh.1
    rw [hk]
    clear hk hsh
    by_cases hw : wordOk word = true
    · have HW := Lib.hid hw
      rw [hw] at HWD
      clear hw
      by_cases hz : 0 < word.size
      · have HR := Lib.hid (ringState_yes HK.out HW.out hz)
        have hne := full_of_size hz
        have hneb : (word.toList == []) = false := by simpa using hne
        have HF := Lib.hid (fun (k : Int) (h0 : 0 ≤ k) (h1 : k < m.st) W a b => by
          have := implStateFrom_any m k word nv ev W a b hst hs
          rwa [M.from_yes HK.out HW.out h0 h1] at this)
        clear hz
        go_wp2_with (go_at_call 45; refine (HWD.out _).mono ?_; rintro e w2 ⟨rfl, rfl⟩)
        clear y10 y11 y12
        go_loopw [5, 20] (fun _ i wr => ∃ (k : Nat) (ki : Int), ki = (k : Int) ∧ ki ≤ m.st ∧ i = .int .i64 ki ∧ ringTo m word.data.toList (m.st.toNat - k) ki = ringL m word.data.toList ∧ MachBox w.heap.size m.st nv m.next ev m.ends wr ∧ Below w.heap.size w wr) (fun _ i _ => m.st.toNat - (intOf i).toNat)
        case atStart => exact ⟨0, 0, rfl, by omega, rfl, rfl, M1.out, q1.out⟩
        case round =>
          obtain ⟨k, ki, hki, hk, rfl, hr, hX, hQ⟩ := hrel
          have MK := Lib.hid hX
          have QK := Lib.hid hQ
          have HKI := Lib.hid hki
          have HRT := Lib.hid hr
          have y10 := hX.c0
          have y11 := hX.c1
          have y12 := hX.c2
          have hq : IntKind.i64.wrap (ki + 1) = ki + 1 := IntWalk.i64_in _ (by omega)
          clear hX hQ hr
          by_cases hlt : ki < m.st
          · have HC := Lib.hid (HF.out ki (by omega) hlt)
            obtain ⟨f, hf⟩ : ∃ f, m.st.toNat - k = f + 1 := ⟨m.st.toNat - k - 1, by omega⟩
            by_cases he : m.goes ki word.data.toList = ki
            · have HV : Hid (ringL m word.data.toList = ki) := Lib.hid (by rw [← HRT.out, hf, ringTo_yes he])
              rw [he] at HC
              clear hki hf he
              go_wp2_with (go_at_call 35; refine (HC.out _ MK.out.ints MK.out.bools).mono ?_; rintro e w3 ⟨rfl, hb3⟩; have q3 := Lib.hid (QK.out.trans (hb3.mono QK.out.size)); clear hb3)
              go_ret
              exact ⟨ret_int (by rw [HR.out, HV.out]), q3.out⟩
            · have HV : Hid (ringTo m word.data.toList (m.st.toNat - (k + 1)) (ki + 1) = ringL m word.data.toList) := Lib.hid (by rw [← HRT.out, hf, ringTo_no he]; congr 1; omega)
              have heb : (m.goes ki word.data.toList == ki) = false := by simpa using he
              generalize m.goes ki word.data.toList = g at *
              clear hki hf he
              go_wp2_with (go_at_call 35; refine (HC.out _ MK.out.ints MK.out.bools).mono ?_; rintro e w3 ⟨rfl, hb3⟩; have q3 := Lib.hid (QK.out.trans (hb3.mono QK.out.size)); have M3 := Lib.hid (MK.out.below hb3); clear hb3)
              go_roundw
              case rel => exact ⟨k + 1, ki + 1, by have := HKI.out; omega, by omega, by first | rfl | rw [hq], HV.out, M3.out, q3.out⟩
              case measure => simp [intOf]; have := HKI.out; omega
          · have HV : Hid (ringL m word.data.toList = -1) := Lib.hid (by rw [← HRT.out, show m.st.toNat - k = 0 by omega]; rfl)
            clear hki
            go_wp2_with fail
            go_ret
            exact ⟨ret_int (by rw [HR.out, HV.out]), QK.out⟩
      · have HR := Lib.hid (ring_no3 m hz)
        obtain rfl := empty_of_size hz
        clear hz
        go_wp2_with (go_at_call 45; refine (HWD.out _).mono ?_; rintro e w2 ⟨rfl, rfl⟩)
        go_ret
        exact ⟨ret_int HR.out.symm, q1.out⟩
    · have hwf : wordOk word = false := by simpa using hw
      have HR := Lib.hid (ring_no2 m hwf)
      rw [hwf] at HWD
      clear hw hwf
      go_wp2_with (go_at_call 45; refine (HWD.out _).mono ?_; rintro e w2 ⟨rfl, rfl⟩)
      go_ret
      exact ⟨ret_int HR.out.symm, q1.out⟩
  · have hkf : m.ok = false := by simpa using hk
    have HR := Lib.hid (ring_no1 word hkf)
    rw [hkf]
    clear hk hkf
    go_wp2_with fail
    go_ret
    exact ⟨ret_int HR.out.symm, q1.out⟩

set_option maxHeartbeats 1600000 in
theorem specRingState_any (m : M) (word : ByteArray) (nv ev : Value) (w : World) (h1 : IsInts w nv m.next) (h2 : IsBools w ev m.ends) (hst : (Lit.int .i64 m.st).wf = true) (hs : word.size ≤ maxLen) :
    Calls Try.prog 40 #[.agg #[.int .i64 m.st, nv, ev], .string word] w fun e w' => e = .returned (.int .i64 (ringState m word)) ∧ Below w.heap.size w w' := by
  have hM : MachBox w.heap.size m.st nv m.next ev m.ends (w.alloc (.cells #[.int .i64 m.st, nv, ev] 26)) := MachBox.new _ h1 h2
  have M0 := Lib.hid hM
  have q0 : Hid (Below w.heap.size w (w.alloc (.cells #[.int .i64 m.st, nv, ev] 26))) := Lib.hid ((Below.refl _ _).alloc (Nat.le_refl _) _)
  have HWD := Lib.hid (fun W => specWordOk_any word W hs)
  have HMO := Lib.hid (fun W a b => specMachineOk_any m nv ev W a b hst)
  clear hM h1 h2
  by_cases hk : m.ok = true
  · have HK := Lib.hid hk
    have hsh := M.ok_shape hk
    have hst48 : m.st ≤ 48 := hsh.2.1
    have hst1 : 1 ≤ m.st := hsh.1
    rw [hk] at HMO
    clear hk hsh
    by_cases hw : wordOk word = true
    · have HW := Lib.hid hw
      rw [hw] at HWD
      clear hw
      by_cases hz : 0 < word.size
      · have HR := Lib.hid (ringState_yes HK.out HW.out hz)
        have hzI : (0 : Int) < (word.size : Int) := by omega
        have HF := Lib.hid (fun (k : Int) (h0 : -1 ≤ k) (h1 : k < m.st) W a => specL2From_any m k word nv ev W a HK.out HW.out h0 h1)
        clear hz
        go_enter Try.func40, Try.ntmps40
        go_wp2_with fail
        go_loopw [5] (fun i wr => ∃ (k : Nat) (ki : Int), ki = (k : Int) ∧ ki ≤ m.st ∧ i = .int .i64 ki ∧ ringTo m word.data.toList (m.st.toNat - k) ki = ringL m word.data.toList ∧ MachBox w.heap.size m.st nv m.next ev m.ends wr ∧ Below w.heap.size w wr) (fun i _ => m.st.toNat - (intOf i).toNat)
        case atStart => exact ⟨0, 0, rfl, by omega, rfl, rfl, M0.out, q0.out⟩
        case round =>
          obtain ⟨k, ki, hki, hk, rfl, hr, hX, hQ⟩ := hrel
          have MK := Lib.hid hX
          have QK := Lib.hid hQ
          have HKI := Lib.hid hki
          have HRT := Lib.hid hr
          have y10 := hX.c0
          have y11 := hX.c1
          have y12 := hX.c2
          have hq : IntKind.i64.wrap (ki + 1) = ki + 1 := IntWalk.i64_in _ (by omega)
          clear hX hQ hr
          by_cases hlt : ki < m.st
          · have HC := Lib.hid (HF.out ki (by omega) hlt)
            obtain ⟨f, hf⟩ : ∃ f, m.st.toNat - k = f + 1 := ⟨m.st.toNat - k - 1, by omega⟩
            clear hki
            go_wp2_with fail
            refine (HMO.out _ MK.out.ints MK.out.bools).mono ?_
            rintro e w2 ⟨rfl, hb2⟩
            have q2 := Lib.hid (QK.out.trans (hb2.mono QK.out.size))
            have M2 := Lib.hid (MK.out.below hb2)
            have z10 := M2.out.c0
            have z11 := M2.out.c1
            have z12 := M2.out.c2
            clear hb2 y10 y11 y12
            by_cases he : m.goes ki word.data.toList = ki
            · have HV : Hid (ringL m word.data.toList = ki) := Lib.hid (by rw [← HRT.out, hf, ringTo_yes he])
              rw [he] at HC
              clear hf he
              go_wp2_with (first | (go_at_call 49; refine (HWD.out _).mono ?_; rintro e w4 ⟨rfl, rfl⟩) | (go_at_call 81; refine (HC.out _ M2.out.ints).mono ?_; rintro e w3 ⟨rfl, hb3⟩; have q3 := Lib.hid (q2.out.trans (hb3.mono q2.out.size)); clear hb3))
              go_ret
              exact ⟨ret_int (by rw [HR.out, HV.out]), q3.out⟩
            · have HV : Hid (ringTo m word.data.toList (m.st.toNat - (k + 1)) (ki + 1) = ringL m word.data.toList) := Lib.hid (by rw [← HRT.out, hf, ringTo_no he]; congr 1; omega)
              have heb : (m.goes ki word.data.toList == ki) = false := by simpa using he
              generalize m.goes ki word.data.toList = g at *
              clear hf he
              go_wp2_with (first | (go_at_call 49; refine (HWD.out _).mono ?_; rintro e w4 ⟨rfl, rfl⟩) | (go_at_call 81; refine (HC.out _ M2.out.ints).mono ?_; rintro e w3 ⟨rfl, hb3⟩; have q3 := Lib.hid (q2.out.trans (hb3.mono q2.out.size)); have M3 := Lib.hid (M2.out.below hb3); clear hb3))
              go_roundw
              case rel => exact ⟨k + 1, ki + 1, by have := HKI.out; omega, by omega, by first | rfl | rw [hq], HV.out, M3.out, q3.out⟩
              case measure => simp [intOf]; have := HKI.out; omega
          · have HV : Hid (ringL m word.data.toList = -1) := Lib.hid (by rw [← HRT.out, show m.st.toNat - k = 0 by omega]; rfl)
            clear hki
            go_wp2_with fail
            go_ret
            exact ⟨ret_int (by rw [HR.out, HV.out]), QK.out⟩
      · have HR := Lib.hid (ring_no3 m hz)
        obtain rfl := empty_of_size hz
        have hst0 : (0 : Int) < m.st := by omega
        have y10 := M0.out.c0
        have y11 := M0.out.c1
        have y12 := M0.out.c2
        clear hz
        go_enter Try.func40, Try.ntmps40
        go_wp2_with fail
        go_loopw [5] (fun i wr => i = .int .i64 0 ∧ MachBox w.heap.size m.st nv m.next ev m.ends wr ∧ Below w.heap.size w wr) (fun _ _ => 0)
        case atStart => exact ⟨rfl, M0.out, q0.out⟩
        case round =>
          obtain ⟨rfl, hX, hQ⟩ := hrel
          have MK := Lib.hid hX
          have QK := Lib.hid hQ
          have y20 := hX.c0
          have y21 := hX.c1
          have y22 := hX.c2
          clear hX hQ
          go_wp2_with (first | (go_at_call 49; refine (HWD.out _).mono ?_; rintro e w4 ⟨rfl, rfl⟩) | (go_at_call 22; refine (HMO.out _ MK.out.ints MK.out.bools).mono ?_; rintro e w3 ⟨rfl, hb3⟩; have q3 := Lib.hid (QK.out.trans (hb3.mono QK.out.size)); clear hb3))
          go_ret
          exact ⟨ret_int HR.out.symm, q3.out⟩
    · have hwf : wordOk word = false := by simpa using hw
      have HR := Lib.hid (ring_no2 m hwf)
      rw [hwf] at HWD
      have hst0 : (0 : Int) < m.st := by omega
      clear hw hwf
      go_enter Try.func40, Try.ntmps40
      go_wp2_with fail
      go_loopw [5] (fun i wr => i = .int .i64 0 ∧ MachBox w.heap.size m.st nv m.next ev m.ends wr ∧ Below w.heap.size w wr) (fun _ _ => 0)
      case atStart => exact ⟨rfl, M0.out, q0.out⟩
      case round =>
        obtain ⟨rfl, hX, hQ⟩ := hrel
        have MK := Lib.hid hX
        have QK := Lib.hid hQ
        have y20 := hX.c0
        have y21 := hX.c1
        have y22 := hX.c2
        clear hX hQ
        go_wp2_with (first | (go_at_call 49; refine (HWD.out _).mono ?_; rintro e w4 ⟨rfl, rfl⟩) | (go_at_call 22; refine (HMO.out _ MK.out.ints MK.out.bools).mono ?_; rintro e w3 ⟨rfl, hb3⟩; have q3 := Lib.hid (QK.out.trans (hb3.mono QK.out.size)); clear hb3))
        go_ret
        exact ⟨ret_int HR.out.symm, q3.out⟩
  · have hkf : m.ok = false := by simpa using hk
    have HR := Lib.hid (ring_no1 word hkf)
    rw [hkf] at HMO
    clear hk hkf
    go_enter Try.func40, Try.ntmps40
    go_wp2_with fail
    go_loopw [5] (fun i wr => i = .int .i64 0 ∧ MachBox w.heap.size m.st nv m.next ev m.ends wr ∧ Below w.heap.size w wr) (fun _ _ => 0)
    case atStart => exact ⟨rfl, M0.out, q0.out⟩
    case round =>
      obtain ⟨rfl, hX, hQ⟩ := hrel
      have MK := Lib.hid hX
      have QK := Lib.hid hQ
      have y20 := hX.c0
      have y21 := hX.c1
      have y22 := hX.c2
      clear hX hQ
      by_cases hp : (0 : Int) < m.st
      · go_wp2_with (go_at_call 22; refine (HMO.out _ MK.out.ints MK.out.bools).mono ?_; rintro e w3 ⟨rfl, hb3⟩; have q3 := Lib.hid (QK.out.trans (hb3.mono QK.out.size)); clear hb3)
        go_ret
        exact ⟨ret_int HR.out.symm, q3.out⟩
      · go_wp2_with fail
        go_ret
        exact ⟨ret_int HR.out.symm, QK.out⟩

theorem implRingOk_any (m : M) (word : ByteArray) (nv ev : Value) (w : World) (h1 : IsInts w nv m.next) (h2 : IsBools w ev m.ends) (hst : (Lit.int .i64 m.st).wf = true) (hs : word.size ≤ maxLen) :
    Calls Try.prog 42 #[.agg #[.int .i64 m.st, nv, ev], .string word] w fun e w' => e = .returned (.bool (ringOk m word)) ∧ Below w.heap.size w w' := by
  have M0 := Lib.hid (MachBox.new (st := m.st) 26 h1 h2)
  have q0 : Hid (Below w.heap.size w (w.alloc (.cells #[.int .i64 m.st, nv, ev] 26))) := Lib.hid ((Below.refl _ _).alloc (Nat.le_refl _) _)
  clear h1 h2
  go_enter Try.func42, Try.ntmps42
  go_wp2_with fail
  refine (implRingState_any m word nv ev _ M0.out.ints M0.out.bools hst hs).mono ?_
  rintro e w1 ⟨rfl, hb1⟩
  have q1 := Lib.hid (q0.out.trans (hb1.mono q0.out.size))
  clear hb1
  have HE : Hid (ringOk m word = decide (0 ≤ ringState m word)) := Lib.hid rfl
  generalize ringState m word = r at *
  go_wp2_with fail
  go_ret
  exact ⟨ret_bool HE.out.symm, q1.out⟩
theorem specRingOk_any (m : M) (word : ByteArray) (nv ev : Value) (w : World) (h1 : IsInts w nv m.next) (h2 : IsBools w ev m.ends) (hst : (Lit.int .i64 m.st).wf = true) (hs : word.size ≤ maxLen) :
    Calls Try.prog 43 #[.agg #[.int .i64 m.st, nv, ev], .string word] w fun e w' => e = .returned (.bool (ringOk m word)) ∧ Below w.heap.size w w' := by
  have M0 := Lib.hid (MachBox.new (st := m.st) 26 h1 h2)
  have q0 : Hid (Below w.heap.size w (w.alloc (.cells #[.int .i64 m.st, nv, ev] 26))) := Lib.hid ((Below.refl _ _).alloc (Nat.le_refl _) _)
  clear h1 h2
  go_enter Try.func43, Try.ntmps43
  go_wp2_with fail
  refine (specRingState_any m word nv ev _ M0.out.ints M0.out.bools hst hs).mono ?_
  rintro e w1 ⟨rfl, hb1⟩
  have q1 := Lib.hid (q0.out.trans (hb1.mono q0.out.size))
  clear hb1
  have HE : Hid (ringOk m word = decide (0 ≤ ringState m word)) := Lib.hid rfl
  generalize ringState m word = r at *
  go_wp2_with fail
  go_ret
  exact ⟨ret_bool HE.out.symm, q1.out⟩
end Go.Proofs.Ytpcependeealfaa

namespace Go.Proofs.Ytpcependeealfaa
open Go.RowKit

theorem aliveG_any (w : World) : Calls Try.prog 23 #[] w fun e w' => e = .returned (.bool true) ∧ w = w' := by
  have h1 : wordOk ⟨#[114, 100, 110]⟩ = true := by decide +kernel
  have h2 : wordOk ⟨#[120]⟩ = false := by decide +kernel
  go_enter Try.func23, Try.ntmps23
  go_wp2_with (go_at_call 45; refine (implWordOk_any _ _ (by decide)).mono ?_; rintro e w' ⟨rfl, rfl⟩)
  go_ret
  exact ⟨rfl, rfl⟩
theorem rowG_len {w : World} {a : Option Addr} {len cap : Nat} {zs : List Int} (h : IsRow .u8 w a len cap zs) : len ≤ 9223372036854775807 := by
  rcases h with ⟨_, rfl, _⟩ | ⟨x, _, h1, h2, _⟩
  · exact Nat.zero_le _
  · exact Nat.le_trans h1 h2
theorem ring_rolled {m : M} {s : ByteArray} {q : Bool} (hq : ringOk m s = q) (k : Nat) (h : rolledOk s k = true) : ringOk m (rolledStr s k) = q ∧ (rolledStr s k).size ≤ maxLen := by
  have h' := h
  simp only [rolledOk, Bool.and_eq_true, decide_eq_true_eq] at h'
  have h14 := wordOk_size h'.1
  rw [(rolledStr_word h'.1 k (by omega)).2]
  exact ⟨by rw [ringOk_roll h'.1 k, hq], by rw [txtOf_size, rt_length, len_data]; unfold maxLen; omega⟩

set_option maxHeartbeats 3200000 in
theorem lawRingOk_walk {w : World} (a : Option Addr) (len cap : Nat) (zs : List Int) (h : IsRow .u8 w a len cap zs) :
    Calls Try.prog 8 #[.slice a len cap] w fun e w' => e = .returned (.bool true) ∧ Below w.heap.size w w' := by
  have HD := Lib.hid (drawRingOk_any a len cap zs w h)
  have hl := rowG_len h
  clear h
  by_cases hbig : 1048576 < len
  · go_enter Try.func8, Try.ntmps8
    go_wp2_with fail
    go_ret
    exact ⟨rfl, Below.refl _ _⟩
  · go_enter Try.func8, Try.ntmps8
    go_wp2_with fail
    refine HD.out.mono ?_
    clear HD
    rintro e w1 ⟨m, a1, a2, c1, c2, s, rfl, hm, hs, hi, hb, hB⟩
    have HSM := Lib.hid (show s.size ≤ maxLen by unfold maxLen; omega)
    have HS2 := Lib.hid (show (s ++ s).size ≤ maxLen by rw [ByteArray.size_append]; unfold maxLen; omega)
    have HST := Lib.hid hm.1
    have M0 := Lib.hid (MachBox.new (st := m.st) 26 hi hb)
    have B0 := Lib.hid (hB.alloc hB.size (.cells #[.int .i64 m.st, .slice a1 m.next.length c1, .slice a2 m.ends.length c2] 26))
    clear hi hb hB hm
    go_wp2_with fail
    generalize (w1.alloc (.cells #[.int .i64 m.st, .slice a1 m.next.length c1, .slice a2 m.ends.length c2] 26)) = W1 at *
    generalize w1.heap.size = b at *
    refine (implRingOk_any m s _ _ _ M0.out.ints M0.out.bools HST.out HSM.out).mono ?_
    rintro e w2 ⟨rfl, hb2⟩
    have M2 := Lib.hid (M0.out.below hb2)
    have B2 := Lib.hid (B0.out.trans (hb2.mono B0.out.size))
    have z0 := M2.out.c0
    have z1 := M2.out.c1
    have z2 := M2.out.c2
    clear hb2 M0 B0
    go_wp2_with fail
    refine (specRingOk_any m s _ _ _ M2.out.ints M2.out.bools HST.out HSM.out).mono ?_
    rintro e w3 ⟨rfl, hb3⟩
    have M3 := Lib.hid (M2.out.below hb3)
    have B3 := Lib.hid (B2.out.trans (hb3.mono B2.out.size))
    clear hb3 M2 B2 z0 z1 z2
    generalize hq : ringOk m s = q at *
    have HRL := Lib.hid (fun k => ring_rolled hq k)
    have HTW : Hid (q = true → wordOk (s ++ s) = true → ringOk m (s ++ s) = true) := Lib.hid (fun h h2 => ringOk_two (hq.trans h) h2)
    clear hq
    have hqq : (q != q) = false := by simp
    have hbe : (q == q) = true := by simp
    go_upto_block 9 with fail
    go_loopw [6, 7, 8] (fun kv _ _ wr => ∃ k : Nat, kv = .int .i64 (k : Int) ∧ k ≤ s.size + 1 ∧ MachBox b m.st (.slice a1 m.next.length c1) m.next (.slice a2 m.ends.length c2) m.ends wr ∧ Below w.heap.size w wr) (fun kv _ _ _ => (s.size + 1 - intOf kv).toNat)
    case atStart => exact ⟨0, rfl, Nat.zero_le _, M3.out, B3.out⟩
    case round =>
      clear M3 B3
      obtain ⟨k, rfl, hk, hM, hB⟩ := hrel
      have hqk : IntKind.i64.wrap ((k : Int) + 1) = (k : Int) + 1 := IntWalk.i64_in _ (by omega)
      have M4 := Lib.hid hM
      have B4 := Lib.hid hB
      clear hM hB
      by_cases hle : k ≤ s.size
      · have hle' : (k : Int) ≤ (s.size : Int) := by omega
        go_wp2_with fail
        refine (implRolledBy_any s (k : Int) _ HSM.out).mono ?_
        rintro e w5 ⟨rfl, n5, rfl⟩
        have hb5 : Below wr.heap.size wr (wr.drewN n5) := below_drewN (Below.refl _ _) n5
        have M5 := Lib.hid (M4.out.below hb5)
        have B5 := Lib.hid (B4.out.trans (hb5.mono B4.out.size))
        have z0 := M5.out.c0
        have z1 := M5.out.c1
        have z2 := M5.out.c2
        clear hb5 M4 B4
        generalize wr.drewN n5 = W5 at *
        by_cases hro : rolledOk s k = true
        · obtain ⟨hr1, hr2⟩ := HRL.out k hro
          rw [hro]
          clear hro
          generalize rolledStr s k = t at *
          go_wp2_with fail
          refine (implRingOk_any m t _ _ _ M5.out.ints M5.out.bools HST.out hr2).mono ?_
          rintro e w6 ⟨rfl, hb6⟩
          have M6 := Lib.hid (M5.out.below hb6)
          have B6 := Lib.hid (B5.out.trans (hb6.mono B5.out.size))
          clear hb6 z0 z1 z2 M5 B5
          rw [hr1]
          clear hr1
          go_wp2
          go_roundw
          case rel => exact ⟨k + 1, by first | rfl | (rw [hqk]; rfl) | (rw [hqk]; simp), by omega, M6.out, B6.out⟩
          case measure => simp [intOf]; omega
        · have hro' : rolledOk s k = false := by simpa using hro
          rw [hro']
          clear hro hro' z0 z1 z2
          go_wp2
          go_roundw
          case rel => exact ⟨k + 1, by first | rfl | (rw [hqk]; rfl) | (rw [hqk]; simp), by omega, M5.out, B5.out⟩
          case measure => simp [intOf]; omega
      · have hle' : ¬ (k : Int) ≤ (s.size : Int) := by omega
        have z0 := M4.out.c0
        have z1 := M4.out.c1
        have z2 := M4.out.c2
        cases q with
        | false =>
          go_wp2_with (go_at_call 23; refine (aliveG_any _).mono ?_; rintro e w' ⟨rfl, rfl⟩)
          go_ret
          exact ⟨rfl, B4.out⟩
        | true =>
          go_wp2_with fail
          refine (implWordOk_any (s ++ s) _ HS2.out).mono ?_
          rintro e w5 ⟨rfl, rfl⟩
          cases hw2 : wordOk (s ++ s) with
          | false =>
            go_wp2_with (go_at_call 23; refine (aliveG_any _).mono ?_; rintro e w' ⟨rfl, rfl⟩)
            go_ret
            exact ⟨rfl, B4.out⟩
          | true =>
            have h2 := HTW.out (by first | trivial | rfl) hw2
            go_wp2_with fail
            refine (implRingOk_any m (s ++ s) _ _ _ M4.out.ints M4.out.bools HST.out HS2.out).mono ?_
            rintro e w6 ⟨rfl, hb6⟩
            have B6 := Lib.hid (B4.out.trans (hb6.mono B4.out.size))
            rw [h2]
            clear hb6 z0 z1 z2
            go_wp2_with (go_at_call 23; refine (aliveG_any _).mono ?_; rintro e w' ⟨rfl, rfl⟩)
            go_ret
            exact ⟨rfl, B6.out⟩
end Go.Proofs.Ytpcependeealfaa

namespace Go.Proofs.Ytpcependeealfaa
open Go.RowKit

/-- what drawing a machine, a state and a word returns -/
def FromRes (w : World) (e : Ending) (w' : World) : Prop :=
  ∃ (m : M) (a3 a4 : Option Addr) (c3 c4 : Nat) (t : Int) (s : ByteArray), e = .returned (.tuple #[.agg #[.int .i64 m.st, .slice a3 m.next.length c3, .slice a4 m.ends.length c4], .int .i64 t, .string s]) ∧ m.small ∧ s.size ≤ 23 ∧
    IsInts w' (.slice a3 m.next.length c3) m.next ∧ IsBools w' (.slice a4 m.ends.length c4) m.ends ∧ Below w.heap.size w w'

set_option maxHeartbeats 1600000 in
theorem drawStateFrom_any (a : Option Addr) (len cap : Nat) (zs : List Int) (w : World) (h : IsRow .u8 w a len cap zs) :
    Calls Try.prog 34 #[.slice a len cap] w (FromRes w) := by
  have H0 := h.belowC ((Below.refl w.heap.size w).alloc (Nat.le_refl _) (.cells #[.int .i64 0, .slice none 0 0, .slice none 0 0] 26))
  have HO := Lib.hid (l20Open_any a len cap zs _ H0)
  clear H0 h
  go_enter Try.func34, Try.ntmps34
  go_wp2_with fail
  refine HO.out.mono ?_
  clear HO
  rintro e w1 ⟨a1, len1, cap1, rfl, hR, hb1⟩
  simp only [World.size_alloc] at hR hb1
  have hRR := hR.hR
  have c0 : w1.cell? ⟨w.heap.size, 0, none⟩ = some (.int .i64 0) := (hb1.cell (p := ⟨w.heap.size, 0, none⟩) (Nat.lt_succ_self _)).trans (World.cell?_alloc_new w _ _ 0)
  have c1 : w1.cell? ⟨w.heap.size, 1, none⟩ = some (.slice none 0 0) := (hb1.cell (p := ⟨w.heap.size, 1, none⟩) (Nat.lt_succ_self _)).trans (World.cell?_alloc_new w _ _ 1)
  have c2 : w1.cell? ⟨w.heap.size, 2, none⟩ = some (.slice none 0 0) := (hb1.cell (p := ⟨w.heap.size, 2, none⟩) (Nat.lt_succ_self _)).trans (World.cell?_alloc_new w _ _ 2)
  have f0 : ∀ i, w1.frozen? ⟨w.heap.size, i, none⟩ = false := fun i => (hb1.frozen (p := ⟨w.heap.size, i, none⟩) (Nat.lt_succ_self _)).trans (World.frozen?_alloc_new w _ _ i)
  have hbw : Below w.heap.size w w1 := ((Below.refl w.heap.size w).alloc (Nat.le_refl _) _).trans (hb1.mono (Nat.le_succ _))
  clear hb1
  have HR0 : Hid (∀ W, KeepsBut (w.heap.size + 1) w1 W → W.cell? ⟨w.heap.size, 0, none⟩ = some (.int .i64 0) ∧ W.cell? ⟨w.heap.size, 1, none⟩ = some (.slice none 0 0) ∧ W.cell? ⟨w.heap.size, 2, none⟩ = some (.slice none 0 0) ∧ W.frozen? ⟨w.heap.size, 0, none⟩ = false ∧ W.frozen? ⟨w.heap.size, 1, none⟩ = false ∧ W.frozen? ⟨w.heap.size, 2, none⟩ = false) := Lib.hid (fun W hK =>
    ⟨(hK.cell (p := ⟨w.heap.size, 0, none⟩) (by show w.heap.size < _; omega) (by show w.heap.size ≠ _; omega)).trans c0,
     (hK.cell (p := ⟨w.heap.size, 1, none⟩) (by show w.heap.size < _; omega) (by show w.heap.size ≠ _; omega)).trans c1,
     (hK.cell (p := ⟨w.heap.size, 2, none⟩) (by show w.heap.size < _; omega) (by show w.heap.size ≠ _; omega)).trans c2,
     (hK.frozen (p := ⟨w.heap.size, 0, none⟩) (by show w.heap.size < _; omega) (by show w.heap.size ≠ _; omega)).trans (f0 0),
     (hK.frozen (p := ⟨w.heap.size, 1, none⟩) (by show w.heap.size < _; omega) (by show w.heap.size ≠ _; omega)).trans (f0 1),
     (hK.frozen (p := ⟨w.heap.size, 2, none⟩) (by show w.heap.size < _; omega) (by show w.heap.size ≠ _; omega)).trans (f0 2)⟩)
  clear c0 c1 c2 f0
  go_wp2_with fail
  refine (l20Rounded_any _ _ a1 len1 cap1 0 w1 hR (by omega)).mono ?_
  rintro e w2 ⟨m, a3, a4, c3, c4, s, rfl, hm, hs, k', -, hk2, hO⟩
  have HM := Lib.hid hm
  obtain ⟨N, hN, hN0, hN1⟩ : ∃ N, IntKind.i64.wrap (max m.st 1 + 1) = N ∧ 0 ≤ N ∧ N ≤ 1000 := by
    have h1 := hm.2.1
    have h2 := hm.2.2.1
    exact ⟨_, rfl, by rw [IntWalk.i64_in _ (by omega)]; omega, by rw [IntWalk.i64_in _ (by omega)]; omega⟩
  have O2 : Hid (OwR (w.heap.size + 1) (w.heap.size + 1) a1 len1 cap1 w1 k' [rowT 3 1 (.slice a3 m.next.length c3) m.next.length (m.next.map (Value.int .i64)), rowT 4 1 (.slice a4 m.ends.length c4) m.ends.length (m.ends.map Value.bool), cellsT w2.heap.size #[.int .i64 m.st, .slice a3 m.next.length c3, .slice a4 m.ends.length c4] 26] (w2.alloc (.cells #[.int .i64 m.st, .slice a3 m.next.length c3, .slice a4 m.ends.length c4] 26))) :=
    Lib.hid ((hO.box #[.int .i64 m.st, .slice a3 m.next.length c3, .slice a4 m.ends.length c4] 26).perm (List.perm_append_comm (l₁ := [_]) (l₂ := [_, _])))
  have HKB := Lib.hid (show k' ≤ 300 by omega)
  have hs2 := hO.size
  have FIN : ∀ P, OwR (w.heap.size + 1) (w.heap.size + 1) a1 len1 cap1 w1 (k' + 2) [rowT 3 1 (.slice a3 m.next.length c3) m.next.length (m.next.map (Value.int .i64)), rowT 4 1 (.slice a4 m.ends.length c4) m.ends.length (m.ends.map Value.bool), cellsT w2.heap.size #[.int .i64 m.st, .slice a3 m.next.length c3, .slice a4 m.ends.length c4] 26] P → ∀ W, W = ((P.setCell ⟨w.heap.size, 0, none⟩ (.int .i64 m.st)).setCell ⟨w.heap.size, 1, none⟩ (.slice a3 m.next.length c3)).setCell ⟨w.heap.size, 2, none⟩ (.slice a4 m.ends.length c4) →
      IsInts W (.slice a3 m.next.length c3) m.next ∧ IsBools W (.slice a4 m.ends.length c4) m.ends ∧ Below w.heap.size w W := by
    rintro P hP W rfl
    have hA := hP.ap
    have hbw2 : Below w.heap.size w P := hbw.trans (hP.keep.below (by omega) (by omega))
    have hr : ∀ k, some w.heap.size = some k → k < w1.heap.size := fun k e => by cases e; omega
    have hA2 := ((hA.other (grown_setCell P w.heap.size 0 (.int .i64 m.st)) hr).other (grown_setCell _ w.heap.size 1 (.slice a3 m.next.length c3)) hr).other (grown_setCell _ w.heap.size 2 (.slice a4 m.ends.length c4)) hr
    exact ⟨IsInts.of_owns hA2.head, IsBools.of_owns hA2.tail.head, ((hbw2.setCell (p := ⟨w.heap.size, 0, none⟩) (Nat.le_refl _) _).setCell (p := ⟨w.heap.size, 1, none⟩) (Nat.le_refl _) _).setCell (p := ⟨w.heap.size, 2, none⟩) (Nat.le_refl _) _⟩
  have FI := Lib.hid FIN
  clear FIN hO hm hk2 hR hbw
  go_upto_region 3 with fail
  generalize (w2.alloc (.cells #[.int .i64 m.st, .slice a3 m.next.length c3, .slice a4 m.ends.length c4] 26)) = W2 at *
  generalize hB4 : w2.heap.size = B4 at *
  generalize hR0 : w.heap.size = R0 at *
  generalize hB : R0 + 1 = B at *
  have hne1 : B4 ≠ R0 := by omega
  have hne2 : R0 ≠ B4 := by omega
  obtain ⟨y00, y01, y02, -⟩ := O2.out.tri 2 (by simp) rfl
  obtain ⟨m00, m01, m02, x00, x01, x02⟩ := HR0.out _ O2.out.keep
  have OD := Lib.hid O2.out.drew
  have HRE := Lib.hid hR0
  clear hB4 hR0 hs2 hRR hB
  go_region_held3 (fun w' => w'.cell? ⟨B4, 0, none⟩ = some (.int .i64 m.st) ∧ w'.cell? ⟨B4, 1, none⟩ = some (.slice a3 m.next.length c3) ∧ w'.cell? ⟨B4, 2, none⟩ = some (.slice a4 m.ends.length c4))
    (refine ⟨?_, ?_, ?_⟩ <;> go_simp)
    (first | (go_at_call 77; (first | ((try rw [hN]); refine (pick_any B B a1 len1 cap1 (k' + 1) 30 _ P1.out.rd (by have := HKB.out; omega) (by omega) (by omega)).mono ?_; rintro e p2 ⟨v2, rfl, q20, q21, hR2, hK2⟩; have P2 := Lib.hid (P1.out.picked hR2 hK2); obtain ⟨y20, y21, y22, -⟩ := P2.out.tri 2 (by simp) rfl; obtain ⟨m20, m21, m22, x20, x21, x22⟩ := HR0.out _ P2.out.keep; clear q20 q21 hR2 hK2) | ((try rw [hN]); refine (pick_any B B a1 len1 cap1 k' N _ OD.out.rd (by have := HKB.out; omega) (by omega) (by omega)).mono ?_; rintro e p1 ⟨v1, rfl, q10, q11, hR1, hK1⟩; have P1 := Lib.hid (OD.out.picked hR1 hK1); obtain ⟨y10, y11, y12, -⟩ := P1.out.tri 2 (by simp) rfl; obtain ⟨m10, m11, m12, x10, x11, x12⟩ := HR0.out _ P1.out.keep; clear q10 q11 hR1 hK1))))
  all_goals
    go_wp2
    obtain ⟨r1, r6, r2⟩ := FI.out _ P2.out _ rfl
    have r3 : (((p2.setCell ⟨R0, 0, none⟩ (.int .i64 m.st)).setCell ⟨R0, 1, none⟩ (.slice a3 m.next.length c3)).setCell ⟨R0, 2, none⟩ (.slice a4 m.ends.length c4)).cell? ⟨R0, 0, none⟩ = some (.int .i64 m.st) := by go_simp
    have r4 : (((p2.setCell ⟨R0, 0, none⟩ (.int .i64 m.st)).setCell ⟨R0, 1, none⟩ (.slice a3 m.next.length c3)).setCell ⟨R0, 2, none⟩ (.slice a4 m.ends.length c4)).cell? ⟨R0, 1, none⟩ = some (.slice a3 m.next.length c3) := by go_simp
    have r5 : (((p2.setCell ⟨R0, 0, none⟩ (.int .i64 m.st)).setCell ⟨R0, 1, none⟩ (.slice a3 m.next.length c3)).setCell ⟨R0, 2, none⟩ (.slice a4 m.ends.length c4)).cell? ⟨R0, 2, none⟩ = some (.slice a4 m.ends.length c4) := by go_simp
    refine bodyPost_ret (v := .tuple #[.agg #[.int .i64 m.st, .slice a3 m.next.length c3, .slice a4 m.ends.length c4], .int .i64 (IntKind.i64.wrap (v1 - IntKind.i64.wrap (v2.tdiv 29))), .string s]) ?_ rfl ⟨m, _, _, _, _, _, s, rfl, HM.out, hs, r1, r6, (by rw [HRE.out]; exact r2)⟩
    simp [results, Try.results34, go_sem, r3, r4, r5]
end Go.Proofs.Ytpcependeealfaa

namespace Go.Proofs.Ytpcependeealfaa
open Go.RowKit

theorem wordOk_right {s o : ByteArray} (h : wordOk (s ++ o) = true) : wordOk o = true := by
  have ha := wordOk_all h
  have h14 := wordOk_size h
  rw [ByteArray.data_append, Array.toList_append] at ha
  simp only [allL, List.all_append, Bool.and_eq_true] at ha
  rw [ByteArray.size_append] at h14
  simp only [wordOk, Bool.and_eq_true, decide_eq_true_eq]
  exact ⟨ha.2, by omega⟩
/-- on from a state, and on from there -/
structure FromFacts (m : M) (t : Int) (s o : ByteArray) (n : Int) : Prop where
  lo : -1 ≤ n
  hi : n ≤ 48
  up : 0 ≤ n → m.from t (s ++ o) = -2 ∨ m.from t (s ++ o) = m.from n o
  dn : ¬ 0 ≤ n → m.from t (s ++ o) = -2 ∨ m.from t (s ++ o) = -1
  aft : m.from 0 s = m.after s
theorem from_facts {m : M} {t : Int} {s : ByteArray} (h : m.from t s ≠ -2) (o : ByteArray) : FromFacts m t s o (m.from t s) := by
  by_cases hg : (m.ok && wordOk s && (decide (0 ≤ t) && decide (t ≤ m.st - 1))) = true
  · simp only [Bool.and_eq_true, decide_eq_true_eq] at hg
    obtain ⟨⟨g1, g2⟩, g3, g4⟩ := hg
    have hs := M.ok_shape g1
    have bd := M.goes_bd g1 t _ (by omega) (by omega) (wordOk_all g2)
    have key : wordOk (s ++ o) = true → m.from t (s ++ o) = m.goes (m.goes t s.data.toList) o.data.toList := fun h2 => by
      rw [M.from_yes g1 h2 g3 (by omega), ByteArray.data_append, Array.toList_append, M.goes_append]
    have e1 := M.from_yes g1 g2 g3 (s := t) (by omega)
    rw [e1]
    generalize m.goes t s.data.toList = n at *
    refine ⟨bd.1, by omega, fun h0 => ?_, fun h0 => ?_, ?_⟩
    · by_cases h2 : wordOk (s ++ o) = true
      · right
        rw [key h2, M.from_yes g1 (wordOk_right h2) h0 bd.2]
      · left
        exact M.from_no2 t (by simpa using h2)
    · by_cases h2 : wordOk (s ++ o) = true
      · right
        rw [key h2, show n = -1 by omega, M.goes_neg]
      · left
        exact M.from_no2 t (by simpa using h2)
    · rw [M.from_yes g1 g2 (by omega) (by omega), M.after_yes g1 g2]
  · rw [M.from, if_neg hg] at h
    exact absurd rfl h

set_option maxHeartbeats 3200000 in
theorem lawStateFrom_walk {w : World} (a : Option Addr) (len cap : Nat) (zs : List Int) (h : IsRow .u8 w a len cap zs) (b : Option Addr) (lenb capb : Nat) (ys : List Int) (h2 : IsRow .u8 w b lenb capb ys) :
    Calls Try.prog 6 #[.slice a len cap, .slice b lenb capb] w fun e w' => e = .returned (.bool true) ∧ Below w.heap.size w w' := by
  have HD := Lib.hid (drawStateFrom_any a len cap zs w h)
  have HD2 := Lib.hid (fun W (hb : Below w.heap.size w W) => drawStateFrom_any b lenb capb ys W (h2.belowC hb))
  have hl := rowG_len h
  have hl2 := rowG_len h2
  clear h h2
  by_cases hbig : 1048576 < len
  · go_enter Try.func6, Try.ntmps6
    go_wp2_with fail
    go_ret
    exact ⟨rfl, Below.refl _ _⟩
  by_cases hbig2 : 1048576 < lenb
  · go_enter Try.func6, Try.ntmps6
    go_wp2_with fail
    go_ret
    exact ⟨rfl, Below.refl _ _⟩
  · go_enter Try.func6, Try.ntmps6
    go_wp2_with fail
    refine HD.out.mono ?_
    clear HD
    rintro e w1 ⟨m, a1, a2, c1, c2, t, s, rfl, hm, hs, hi, hb, hB⟩
    have HSM := Lib.hid (show s.size ≤ maxLen by unfold maxLen; omega)
    have HS2 := Lib.hid (fun (o : ByteArray) (h : o.size ≤ 23) => (show (s ++ o).size ≤ maxLen by rw [ByteArray.size_append]; unfold maxLen; omega))
    have HST := Lib.hid hm.1
    have M0 := Lib.hid (MachBox.new (st := m.st) 26 hi hb)
    have B0 := Lib.hid (hB.alloc hB.size (.cells #[.int .i64 m.st, .slice a1 m.next.length c1, .slice a2 m.ends.length c2] 26))
    clear hi hb hB hm
    go_wp2_with fail
    generalize (w1.alloc (.cells #[.int .i64 m.st, .slice a1 m.next.length c1, .slice a2 m.ends.length c2] 26)) = W1 at *
    generalize w1.heap.size = q at *
    refine (implStateFrom_any m t s _ _ _ M0.out.ints M0.out.bools HST.out HSM.out).mono ?_
    rintro e w2 ⟨rfl, hb2⟩
    have M2 := Lib.hid (M0.out.below hb2)
    have B2 := Lib.hid (B0.out.trans (hb2.mono B0.out.size))
    have z0 := M2.out.c0
    have z1 := M2.out.c1
    have z2 := M2.out.c2
    clear hb2 M0 B0
    go_wp2_with fail
    refine (specStateFrom_any m t s _ _ _ M2.out.ints M2.out.bools HST.out HSM.out).mono ?_
    rintro e w3 ⟨rfl, hb3⟩
    have M3 := Lib.hid (M2.out.below hb3)
    have B3 := Lib.hid (B2.out.trans (hb3.mono B2.out.size))
    clear hb3 M2 B2 z0 z1 z2
    by_cases hn : m.from t s = -2
    · rw [hn]
      clear hn
      go_wp2_with (go_at_call 23; refine (aliveG_any _).mono ?_; rintro e w' ⟨rfl, rfl⟩)
      go_ret
      exact ⟨rfl, B3.out⟩
    · have HF := Lib.hid (fun o => from_facts hn o)
      generalize m.from t s = n at *
      have hnb : (n == (-2 : Int)) = false := by rw [beq_eq_false_iff_ne]; exact hn
      go_wp2_with fail
      refine (HD2.out _ B3.out).mono ?_
      clear HD2
      rintro e w4 ⟨m', a3, a4, c3, c4, t', o, rfl, -, ho, -, -, hb4⟩
      have M4 := Lib.hid ((M3.out.below hb4).below ((Below.refl _ _).alloc (Nat.le_refl _) (.cells #[.int .i64 m'.st, .slice a3 m'.next.length c3, .slice a4 m'.ends.length c4] 26)))
      have B4 := Lib.hid ((B3.out.trans (hb4.mono B3.out.size)).alloc (Nat.le_trans B3.out.size hb4.size) (.cells #[.int .i64 m'.st, .slice a3 m'.next.length c3, .slice a4 m'.ends.length c4] 26))
      have hs4 := Lib.hid (show q < w4.heap.size from Nat.lt_of_lt_of_le M3.out.hB hb4.size)
      have HO := Lib.hid (show o.size ≤ maxLen by unfold maxLen; omega)
      have HSO := Lib.hid (HS2.out o ho)
      have F := Lib.hid (HF.out o)
      clear hb4 M3 B3 HF HS2
      go_upto_region 10 with fail
      generalize (w4.alloc (.cells #[.int .i64 m'.st, .slice a3 m'.next.length c3, .slice a4 m'.ends.length c4] 26)) = W4 at *
      have z0 := M4.out.c0
      have z1 := M4.out.c1
      have z2 := M4.out.c2
      go_wp2_with fail
      refine (implStateFrom_any m t (s ++ o) _ _ _ M4.out.ints M4.out.bools HST.out HSO.out).mono ?_
      rintro e w5 ⟨rfl, hb5⟩
      have M5 := Lib.hid (M4.out.below hb5)
      have B5 := Lib.hid (B4.out.trans (hb5.mono B4.out.size))
      clear hb5 M4 B4 z0 z1 z2
      have z0 := M5.out.c0
      have z1 := M5.out.c1
      have z2 := M5.out.c2
      have FA := Lib.hid F.out.aft
      have HUP := Lib.hid F.out.up
      have HDN := Lib.hid F.out.dn
      clear F
      generalize m.from t (s ++ o) = v at *
      have h22 : ((-2 : Int) == (-2 : Int)) = true := rfl
      by_cases h0 : 0 ≤ n
      · have hv := HUP.out h0
        go_wp2_with fail
        refine (implStateFrom_any m n o _ _ _ M5.out.ints M5.out.bools HST.out HO.out).mono ?_
        rintro e w6 ⟨rfl, hb6⟩
        have M6 := Lib.hid (M5.out.below hb6)
        have B6 := Lib.hid (B5.out.trans (hb6.mono B5.out.size))
        clear hb6 M5 B5 z0 z1 z2 HUP HDN
        have z0 := M6.out.c0
        have z1 := M6.out.c1
        have z2 := M6.out.c2
        generalize m.from n o = u at *
        skip
        by_cases e2 : v = -2
        · subst e2
          go_upto_region 14 with fail
          have MD := Lib.hid (M6.out.below ((Below.refl _ _).drew))
          have BD := Lib.hid B6.out.drew
          first | (go_region_with (first | (go_at_call 35; refine (implStateFrom_any m 0 s _ _ _ MD.out.ints MD.out.bools HST.out HSM.out).mono ?_; rintro e p1 ⟨rfl, hb7⟩; have M7 := Lib.hid (MD.out.below hb7); have B7 := Lib.hid (BD.out.trans (hb7.mono BD.out.size)); have y0 := M7.out.c0; have y1 := M7.out.c1; have y2 := M7.out.c2; rw [FA.out]; clear hb7) | (go_at_call 37; refine (implStateAfter_any m s _ _ _ M7.out.ints M7.out.bools HST.out HSM.out).mono ?_; rintro e p2 ⟨rfl, hb8⟩; have M8 := Lib.hid (M7.out.below hb8); have B8 := Lib.hid (B7.out.trans (hb8.mono B7.out.size)); have x0 := M8.out.c0; have x1 := M8.out.c1; have x2 := M8.out.c2; clear hb8))) | fail
          all_goals
            have haa : (m.after s == m.after s) = true := by simp
            go_wp2
            go_ret
            exact ⟨by first | rfl | exact ret_bool haa, B8.out⟩
        · have ev : v = u := hv.resolve_left e2
          subst ev
          have evv : (v == v) = true := by simp
          have e2b : (v == (-2 : Int)) = false := by rw [beq_eq_false_iff_ne]; exact e2
          clear e2
          go_upto_region 14 with fail
          have MD := Lib.hid (M6.out.below ((Below.refl _ _).drew))
          have BD := Lib.hid B6.out.drew
          go_region_held3 (fun w' => w'.cell? ⟨q, 0, none⟩ = some (.int .i64 m.st) ∧ w'.cell? ⟨q, 1, none⟩ = some (.slice a1 m.next.length c1) ∧ w'.cell? ⟨q, 2, none⟩ = some (.slice a2 m.ends.length c2))
            (refine ⟨?_, ?_, ?_⟩ <;> go_simp)
            (first | (go_at_call 35; refine (implStateFrom_any m 0 s _ _ _ MD.out.ints MD.out.bools HST.out HSM.out).mono ?_; rintro e p1 ⟨rfl, hb7⟩; have M7 := Lib.hid (MD.out.below hb7); have B7 := Lib.hid (BD.out.trans (hb7.mono BD.out.size)); have y0 := M7.out.c0; have y1 := M7.out.c1; have y2 := M7.out.c2; rw [FA.out]; clear hb7) | (go_at_call 37; refine (implStateAfter_any m s _ _ _ M7.out.ints M7.out.bools HST.out HSM.out).mono ?_; rintro e p2 ⟨rfl, hb8⟩; have M8 := Lib.hid (M7.out.below hb8); have B8 := Lib.hid (B7.out.trans (hb8.mono B7.out.size)); have x0 := M8.out.c0; have x1 := M8.out.c1; have x2 := M8.out.c2; clear hb8))
          all_goals
            have haa : (m.after s == m.after s) = true := by simp
            go_wp2
            go_ret
            exact ⟨by first | rfl | exact ret_bool haa, B8.out⟩
      · have hv := HDN.out h0
        have M6 := M5
        have B6 := B5
        clear HUP HDN
        by_cases e2 : v = -2
        · subst e2
          go_upto_region 14 with fail
          have MD := Lib.hid (M6.out.below ((Below.refl _ _).drew))
          have BD := Lib.hid B6.out.drew
          first | (go_region_with (first | (go_at_call 35; refine (implStateFrom_any m 0 s _ _ _ MD.out.ints MD.out.bools HST.out HSM.out).mono ?_; rintro e p1 ⟨rfl, hb7⟩; have M7 := Lib.hid (MD.out.below hb7); have B7 := Lib.hid (BD.out.trans (hb7.mono BD.out.size)); have y0 := M7.out.c0; have y1 := M7.out.c1; have y2 := M7.out.c2; rw [FA.out]; clear hb7) | (go_at_call 37; refine (implStateAfter_any m s _ _ _ M7.out.ints M7.out.bools HST.out HSM.out).mono ?_; rintro e p2 ⟨rfl, hb8⟩; have M8 := Lib.hid (M7.out.below hb8); have B8 := Lib.hid (B7.out.trans (hb8.mono B7.out.size)); have x0 := M8.out.c0; have x1 := M8.out.c1; have x2 := M8.out.c2; clear hb8))) | fail
          all_goals
            have haa : (m.after s == m.after s) = true := by simp
            go_wp2
            go_ret
            exact ⟨by first | rfl | exact ret_bool haa, B8.out⟩
        · have ev : v = -1 := hv.resolve_left e2
          subst ev
          skip
          have e2b : ((-1 : Int) == (-2 : Int)) = false := rfl
          have evv : ((-1 : Int) == (-1 : Int)) = true := rfl
          go_upto_region 14 with fail
          have MD := Lib.hid (M6.out.below ((Below.refl _ _).drew))
          have BD := Lib.hid B6.out.drew
          go_region_held3 (fun w' => w'.cell? ⟨q, 0, none⟩ = some (.int .i64 m.st) ∧ w'.cell? ⟨q, 1, none⟩ = some (.slice a1 m.next.length c1) ∧ w'.cell? ⟨q, 2, none⟩ = some (.slice a2 m.ends.length c2))
            (refine ⟨?_, ?_, ?_⟩ <;> go_simp)
            (first | (go_at_call 35; refine (implStateFrom_any m 0 s _ _ _ MD.out.ints MD.out.bools HST.out HSM.out).mono ?_; rintro e p1 ⟨rfl, hb7⟩; have M7 := Lib.hid (MD.out.below hb7); have B7 := Lib.hid (BD.out.trans (hb7.mono BD.out.size)); have y0 := M7.out.c0; have y1 := M7.out.c1; have y2 := M7.out.c2; rw [FA.out]; clear hb7) | (go_at_call 37; refine (implStateAfter_any m s _ _ _ M7.out.ints M7.out.bools HST.out HSM.out).mono ?_; rintro e p2 ⟨rfl, hb8⟩; have M8 := Lib.hid (M7.out.below hb8); have B8 := Lib.hid (B7.out.trans (hb8.mono B7.out.size)); have x0 := M8.out.c0; have x1 := M8.out.c1; have x2 := M8.out.c2; clear hb8))
          all_goals
            have haa : (m.after s == m.after s) = true := by simp
            go_wp2
            go_ret
            exact ⟨by first | rfl | exact ret_bool haa, B8.out⟩
end Go.Proofs.Ytpcependeealfaa
