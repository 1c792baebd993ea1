/- The contract of partsUnder. No condition. TermOk of the program and of the model: what each returns, for every row of marks. No condition. What FnTermOk asks of terms with more marks behind them; rows of marks that a call owns. No program, no condition. The walk of FnTermOk: true at every code. No condition. -/
import Derived.Test.YtpcependeealfaaCkA
import Derived.Outline
import Derived.RegionTactic
import Derived.Test.YtpcependeealfaaCkI

namespace Go.Proofs.Ytpcependeealfaa
open Go.RowKit

def UnderPost (m : Mk) (w : World) (e : Ending) (w' : World) : Prop := ∃ u : Int, e = .returned (.tuple #[.int .i64 u, .bool m.fine]) ∧ (m.fine = true → u = (m.under : Int)) ∧ Below w.heap.size w w'
theorem fine_void {k : Int} {r : Ru} (h : k = 1 ∨ k = 2 ∨ k = 3) : (Mk.mk k r).fine = r.isVoid := by
  rcases h with rfl | rfl | rfl <;> simp [Mk.fine]
theorem isVoid_parts (a : Int) (b c : ByteArray) (d : Int) : (Ru.mk a b c d).isVoid = ((a == 0) && (b.toList == []) && (c.toList == []) && (d == 0)) := by
  have e : ∀ t : ByteArray, noThen t = (t.toList == []) := fun t => by
    rw [ByteArray.toList_eq]
    cases t with
    | mk l => cases l with
      | mk l => cases l <;> simp [noThen]
  have f : ∀ x : Int, decide (x = 0) = (x == 0) := fun x => by by_cases h : x = 0 <;> simp [h]
  simp only [Ru.isVoid, e, f]

set_option maxHeartbeats 1600000 in
theorem partsUnder_any (m : Mk) (hm : m.wf) (w : World) : Calls Try.prog 72 #[m.val] w (UnderPost m w) := by
  obtain ⟨k, a, b, c, d⟩ := m
  obtain ⟨-, -, h1, h2, -⟩ := hm
  show Calls Try.prog _ #[.agg #[.int .i64 k, .int .i64 a, .string b, .string c, .int .i64 d]] w _
  by_cases k0 : k = 0
  · subst k0
    have HF : Hid ((Mk.mk 0 ⟨a, b, c, d⟩).fine = (Ru.mk a b c d).ok) := Lib.hid (by simp [Mk.fine])
    have HU : Hid ((Mk.mk 0 ⟨a, b, c, d⟩).under = 0) := Lib.hid (by simp [Mk.under])
    go_enter Try.func72, Try.ntmps72
    go_wp2_with (go_at_call 115; refine (implRuleOk_any a b c d _ h1 h2).mono ?_; rintro e w' ⟨rfl, hb⟩)
    go_ret2
    exact ⟨0, by rw [HF.out]; rfl, fun _ => by rw [HU.out]; rfl, (Go.Joins.below_alloc1 _ _).trans (hb.mono (by simp))⟩
  · by_cases k123 : k = 1 ∨ k = 2 ∨ k = 3
    · have HF : Hid ((Mk.mk k ⟨a, b, c, d⟩).fine = ((a == 0) && (b.toList == []) && (c.toList == []) && (d == 0))) := Lib.hid (by rw [fine_void k123, isVoid_parts])
      have HU : Hid (((Mk.mk k ⟨a, b, c, d⟩).under : Int) = if k = 3 then 1 else 2) := Lib.hid (by simp only [Mk.under]; rw [if_neg k0]; split <;> rfl)
      have hveq : ∀ W : World, (if a = 0 then if b.toList = [] then if c.toList = [] then if d = 0 then Result.ok (Next.value (Value.bool true)) W else Result.ok (Next.value (Value.bool false)) W else Result.ok (Next.value (Value.bool false)) W else Result.ok (Next.value (Value.bool false)) W else Result.ok (Next.value (Value.bool false)) W) = Result.ok (Next.value (Value.bool (Mk.mk k ⟨a, b, c, d⟩).fine)) W := fun W => by
        rw [HF.out]
        by_cases ha : a = 0
        · by_cases hb : b.toList = []
          · by_cases hc : c.toList = []
            · by_cases hd : d = 0
              · simp [ha, hb, hc, hd]
              · simp [ha, hb, hc, hd]
            · simp [ha, hb, hc]
          · simp [ha, hb]
        · simp [ha]
      clear k0 HF
      generalize hfb : (Mk.mk k ⟨a, b, c, d⟩).fine = fb at *
      have HFB := Lib.hid hfb
      clear hfb
      rcases k123 with rfl | rfl | rfl
      · go_enter Try.func72, Try.ntmps72
        go_wp2_with fail
        go_region
        go_wp2_with fail
        go_ret2
        exact ⟨2, by rw [HFB.out]; rfl, fun _ => by rw [HU.out]; rfl, (Go.Joins.below_alloc1 _ _).drew⟩
      · go_enter Try.func72, Try.ntmps72
        go_wp2_with fail
        go_region
        go_wp2_with fail
        go_ret2
        exact ⟨2, by rw [HFB.out]; rfl, fun _ => by rw [HU.out]; rfl, (Go.Joins.below_alloc1 _ _).drew⟩
      · go_enter Try.func72, Try.ntmps72
        go_wp2_with fail
        go_region
        go_wp2_with fail
        go_ret2
        exact ⟨1, by rw [HFB.out]; rfl, fun _ => by rw [HU.out]; rfl, (Go.Joins.below_alloc1 _ _).drew⟩
    · have HF : Hid ((Mk.mk k ⟨a, b, c, d⟩).fine = false) := Lib.hid (by simp only [Mk.fine]; rw [if_neg k0, if_neg k123])
      have e1 : (k == 0) = false := by simpa using k0
      have e2 : (k == 1) = false := by simp; omega
      have e3 : (k == 2) = false := by simp; omega
      have e4 : (k == 3) = false := by simp; omega
      clear k0 k123
      go_enter Try.func72, Try.ntmps72
      go_wp2_with fail
      go_ret2
      exact ⟨0, by rw [HF.out]; rfl, (fun h => absurd h (by rw [HF.out]; decide)), Go.Joins.below_alloc1 _ _⟩
end Go.Proofs.Ytpcependeealfaa

namespace Go.Proofs.Ytpcependeealfaa
open Go.RowKit

theorem termOk_long {ts : List Mk} (h : 9 < ts.length) : termOk ts = false := by
  simp only [termOk, Bool.and_eq_false_iff, decide_eq_false_iff_not]
  exact .inl (by omega)
theorem termOk_end {ts : List Mk} {p : Nat} (h : leftOf (ts.take ts.length) 0 = some p) (hl : ts.length ≤ 9) : termOk ts = ((p : Int) == 1) := by
  rw [List.take_length] at h
  have e : decide (ts.length ≤ 9) = true := decide_eq_true hl
  rw [termOk, h, e, Bool.true_and]
  by_cases hp : p = 1
  · subst hp; rfl
  · rw [decide_eq_false (by simpa using hp)]
    have : ((p : Int) == 1) = false := by simp; omega
    rw [this]
theorem leftOf_yes {ts : List Mk} {k p : Nat} (hk : k < ts.length) (h : leftOf (ts.take k) 0 = some p) (hf : ts[k].fine = true) (hu : ts[k].under ≤ p) : leftOf (ts.take (k + 1)) 0 = some (p + 1 - ts[k].under) := by
  rw [leftOf_succ hk h, stepP, if_pos ⟨hf, hu⟩]
theorem leftOf_no {ts : List Mk} {k p : Nat} (hk : k < ts.length) (h : leftOf (ts.take k) 0 = some p) (hf : ¬ (ts[k].fine = true ∧ ts[k].under ≤ p)) : termOk ts = false :=
  termOk_stop (k := k + 1) (by rw [leftOf_succ hk h, stepP, if_neg hf])
theorem left_le {ts : List Mk} {k p : Nat} (hk : k ≤ ts.length) (h : leftOf (ts.take k) 0 = some p) : p ≤ k := by
  have := leftOf_le _ _ _ h
  rw [List.length_take] at this
  omega
theorem Mk.under_le (m : Mk) : m.under ≤ 2 := by
  unfold Mk.under
  by_cases h0 : m.kind = 0
  · rw [if_pos h0]; omega
  · rw [if_neg h0]
    by_cases h3 : m.kind = 3
    · rw [if_pos h3]; omega
    · rw [if_neg h3]; exact Nat.le_refl _

set_option maxHeartbeats 1600000 in
theorem implTermOk_any (ms : List Mk) (hwf : ∀ m ∈ ms, m.wf) (v : Value) (w : World) (h : IsMarks w v ms) :
    Calls Try.prog 29 #[v] w fun e w' => e = .returned (.bool (termOk ms)) ∧ Below w.heap.size w w' := by
  obtain ⟨a, cap, rfl, ha1, ha2, ha⟩ := h
  have HA := Lib.hid ha
  have HWF := Lib.hid hwf
  unfold maxLen at ha2
  clear ha hwf
  by_cases hb : 9 < ms.length
  · have HE := Lib.hid (termOk_long hb)
    go_enter Try.func29, Try.ntmps29
    go_wp2_with fail
    go_ret
    exact ⟨ret_bool HE.out.symm, Below.refl _ _⟩
  · go_enter Try.func29, Try.ntmps29
    go_wp2_with fail
    go_loopw [3, 13] (fun l i wr => ∃ (k p : Nat), k ≤ ms.length ∧ i = .int .i64 k ∧ l = .int .i64 p ∧ leftOf (ms.take k) 0 = some p ∧ Below w.heap.size w wr) (fun _ i _ => ms.length - (intOf i).toNat)
    case atStart => exact ⟨0, 0, Nat.zero_le _, rfl, rfl, rfl, Below.refl _ _⟩
    case round =>
      obtain ⟨k, p, hk, rfl, rfl, hp, hbel⟩ := hrel
      have hpk := left_le hk hp
      by_cases hlt : k < ms.length
      · obtain ⟨g, off, rfl, hg, hc⟩ := HA.out.resolve_left (fun h => by rw [h] at hlt; exact absurd hlt (Nat.not_lt_zero k))
        obtain ⟨c0, c1, c2, c3, c4⟩ := (hc k hlt).below hbel hg
        have HU := Lib.hid (fun W => partsUnder_any ms[k] (HWF.out ms[k] (List.getElem_mem hlt)) W)
        have HY := Lib.hid (leftOf_yes hlt hp)
        have HN := Lib.hid (leftOf_no hlt hp)
        have BB := Lib.hid hbel
        clear hc hbel hp
        generalize ms[k] = m at *
        obtain ⟨k1, r1, l1, t1, n1⟩ := m
        have HU2 : Hid (∀ W, Calls Try.prog 72 #[.agg #[.int .i64 k1, .int .i64 r1, .string l1, .string t1, .int .i64 n1]] W (UnderPost ⟨k1, r1, l1, t1, n1⟩ W)) := Lib.hid HU.out
        clear HU
        simp only at c0 c1 c2 c3 c4
        go_wp2_with fail
        refine (HU2.out _).mono ?_
        rintro e w2 ⟨u, rfl, hu, hb2⟩
        have B2 := Lib.hid (BB.out.trans (((Below.refl wr.heap.size wr).alloc (Nat.le_refl _) _).trans (hb2.mono (by simp)) |>.mono BB.out.size))
        clear hb2
        generalize (Mk.mk k1 ⟨r1, l1, t1, n1⟩).fine = fb at *
        have hu3 := Mk.under_le ⟨k1, r1, l1, t1, n1⟩
        generalize (Mk.mk k1 ⟨r1, l1, t1, n1⟩).under = uu at *
        cases fb with
        | false =>
          have HE := Lib.hid (HN.out (by simp))
          clear hu
          go_wp2_with fail
          go_ret
          exact ⟨ret_bool HE.out.symm, B2.out⟩
        | true =>
          have hu' := hu rfl
          subst hu'
          clear hu
          by_cases hup : uu ≤ p
          · have hp2 := Lib.hid (HY.out rfl hup)
            go_wp2_with fail
            go_roundw
            case rel => exact ⟨k + 1, p + 1 - uu, by omega, by go_num, by go_num, hp2.out, B2.out⟩
            case measure => simp [intOf]; omega
          · have HE := Lib.hid (HN.out (fun h => hup h.2))
            go_wp2_with fail
            go_ret
            exact ⟨ret_bool HE.out.symm, B2.out⟩
      · obtain rfl : k = ms.length := by omega
        have HE := Lib.hid (termOk_end hp (by omega))
        clear hp
        go_wp2_with fail
        go_ret
        exact ⟨ret_bool HE.out.symm, hbel⟩

set_option maxHeartbeats 1600000 in
theorem specTermOk_any (ms : List Mk) (v : Value) (w : World) (h : IsMarks w v ms) (hl : ms.length ≤ 1048576) :
    Calls Try.prog 30 #[v] w fun e w' => e = .returned (.bool (termOk ms)) ∧ Below w.heap.size w w' := by
  obtain ⟨a, cap, rfl, ha1, ha2, ha⟩ := h
  have HA := Lib.hid ha
  unfold maxLen at ha2
  clear ha
  go_enter Try.func30, Try.ntmps30
  go_wp2_with fail
  go_loopw [3, 4] (fun l i wr => ∃ (k p : Nat), k ≤ ms.length ∧ i = .int .i64 k ∧ l = .int .i64 p ∧ leftOf (ms.take k) 0 = some p ∧ Below w.heap.size w wr) (fun _ i _ => ms.length - (intOf i).toNat)
  case atStart => exact ⟨0, 0, Nat.zero_le _, rfl, rfl, rfl, Below.refl _ _⟩
  case round =>
    obtain ⟨k, p, hk, rfl, rfl, hp, hbel⟩ := hrel
    have hpk := left_le hk hp
    by_cases hlt : k < ms.length
    · obtain ⟨g, off, rfl, hg, hc⟩ := HA.out.resolve_left (fun h => by rw [h] at hlt; exact absurd hlt (Nat.not_lt_zero k))
      obtain ⟨c0, c1, c2, c3, c4⟩ := (hc k hlt).below hbel hg
      have HCK := Lib.hid (fun w' (hb : Below w.heap.size w w') => (hc k hlt).below hb hg)
      have HY := Lib.hid (leftOf_yes hlt hp)
      have HN := Lib.hid (leftOf_no hlt hp)
      have BB := Lib.hid hbel
      clear hc hbel hp
      generalize ms[k] = m at *
      obtain ⟨k1, r1, l1, t1, n1⟩ := m
      have HC2 : Hid (∀ w', Below w.heap.size w w' → w'.cell? ⟨g, off + k * 5, none⟩ = some (.int .i64 k1) ∧ w'.cell? ⟨g, off + k * 5 + 1, none⟩ = some (.int .i64 r1) ∧ w'.cell? ⟨g, off + k * 5 + 2, none⟩ = some (.string l1) ∧ w'.cell? ⟨g, off + k * 5 + 3, none⟩ = some (.string t1) ∧ w'.cell? ⟨g, off + k * 5 + 4, none⟩ = some (.int .i64 n1)) := Lib.hid HCK.out
      clear HCK
      simp only at c0 c1 c2 c3 c4
      by_cases k0 : k1 = 0
      · subst k0
        have HR := Lib.hid (fun W => specRuleOk_any r1 l1 t1 n1 W)
        have hf : (Mk.mk 0 ⟨r1, l1, t1, n1⟩).fine = (Ru.mk r1 l1 t1 n1).ok := by simp [Mk.fine]
        have hu : (Mk.mk 0 ⟨r1, l1, t1, n1⟩).under = 0 := by simp [Mk.under]
        rw [hf, hu] at HY HN
        clear hf hu
        generalize (Ru.mk r1 l1 t1 n1).ok = fb at *
        cases fb with
        | true =>
          have hp2 := Lib.hid (HY.out rfl (Nat.zero_le _))
          go_wp2_with (go_at_call 73; refine (HR.out _).mono ?_; rintro e w2 ⟨rfl, hb2⟩)
          go_roundw
          case rel => exact ⟨k + 1, p + 1 - 0, by omega, by go_num, by go_num, hp2.out, BB.out.trans (hb2.mono BB.out.size)⟩
          case measure => simp [intOf]; omega
        | false =>
          have HE := Lib.hid (HN.out (by simp))
          go_wp2_with (go_at_call 73; refine (HR.out _).mono ?_; rintro e w2 ⟨rfl, hb2⟩; obtain ⟨d0, d1, d2, d3, d4⟩ := HC2.out w2 (BB.out.trans (hb2.mono BB.out.size)))
          go_ret
          exact ⟨ret_bool HE.out.symm, BB.out.trans (hb2.mono BB.out.size)⟩
      · by_cases k123 : k1 = 1 ∨ k1 = 2 ∨ k1 = 3
        · have hf := fine_void (r := ⟨r1, l1, t1, n1⟩) k123
          by_cases hv : (Ru.mk r1 l1 t1 n1).isVoid = true
          · have hve := Ru.isVoid_iff.1 hv
            simp only [Ru.void, Ru.mk.injEq] at hve
            obtain ⟨rfl, rfl, rfl, rfl⟩ := hve
            rw [hf, hv] at HY HN
            clear hf hv k0
            rcases k123 with rfl | rfl | rfl
            · have hu : (Mk.mk 1 ⟨0, ⟨#[]⟩, ⟨#[]⟩, 0⟩).under = 2 := by simp [Mk.under]
              rw [hu] at HY HN
              clear hu
              by_cases h2 : 2 ≤ p
              · have hp2 := Lib.hid (HY.out rfl h2)
                go_wp2_with fail
                go_roundw
                case rel => exact ⟨k + 1, p + 1 - 2, by omega, by go_num, by go_num, hp2.out, BB.out⟩
                case measure => simp [intOf]; omega
              · have HE := Lib.hid (HN.out (fun h => h2 h.2))
                go_wp2_with fail
                go_ret
                exact ⟨ret_bool HE.out.symm, BB.out⟩
            · have hu : (Mk.mk 2 ⟨0, ⟨#[]⟩, ⟨#[]⟩, 0⟩).under = 2 := by simp [Mk.under]
              rw [hu] at HY HN
              clear hu
              by_cases h2 : 2 ≤ p
              · have hp2 := Lib.hid (HY.out rfl h2)
                go_wp2_with fail
                go_roundw
                case rel => exact ⟨k + 1, p + 1 - 2, by omega, by go_num, by go_num, hp2.out, BB.out⟩
                case measure => simp [intOf]; omega
              · have HE := Lib.hid (HN.out (fun h => h2 h.2))
                go_wp2_with fail
                go_ret
                exact ⟨ret_bool HE.out.symm, BB.out⟩
            · have hu : (Mk.mk 3 ⟨0, ⟨#[]⟩, ⟨#[]⟩, 0⟩).under = 1 := by simp [Mk.under]
              rw [hu] at HY HN
              clear hu
              by_cases h2 : 1 ≤ p
              · have hp2 := Lib.hid (HY.out rfl h2)
                go_wp2_with fail
                go_roundw
                case rel => exact ⟨k + 1, p + 1 - 1, by omega, by go_num, by go_num, hp2.out, BB.out⟩
                case measure => simp [intOf]; omega
              · have HE := Lib.hid (HN.out (fun h => h2 h.2))
                go_wp2_with fail
                go_ret
                exact ⟨ret_bool HE.out.symm, BB.out⟩
          · have hv' : (Ru.mk r1 l1 t1 n1).isVoid = false := by simpa using hv
            have HE := Lib.hid (HN.out (by rw [hf, hv']; simp))
            have hvp := isVoid_parts r1 l1 t1 n1
            rw [hv'] at hvp
            have hveq : ∀ W : World, (if r1 = 0 then if l1.toList = [] then if t1.toList = [] then if n1 = 0 then Result.ok (Next.value (Value.bool true)) W else Result.ok (Next.value (Value.bool false)) W else Result.ok (Next.value (Value.bool false)) W else Result.ok (Next.value (Value.bool false)) W else Result.ok (Next.value (Value.bool false)) W) = Result.ok (Next.value (Value.bool false)) W := fun W => by
              by_cases ha : r1 = 0
              · by_cases hb : l1.toList = []
                · by_cases hc : t1.toList = []
                  · by_cases hd : n1 = 0
                    · rw [ha, hb, hc, hd] at hvp; exact absurd hvp (by decide)
                    · simp [ha, hb, hc, hd]
                  · simp [ha, hb, hc]
                · simp [ha, hb]
              · simp [ha]
            clear hf hv hv' hvp k0
            rcases k123 with rfl | rfl | rfl
            · go_wp2_with fail
              go_ret
              exact ⟨ret_bool HE.out.symm, BB.out⟩
            · go_wp2_with fail
              go_ret
              exact ⟨ret_bool HE.out.symm, BB.out⟩
            · go_wp2_with fail
              go_ret
              exact ⟨ret_bool HE.out.symm, BB.out⟩
        · have hf : (Mk.mk k1 ⟨r1, l1, t1, n1⟩).fine = false := by simp only [Mk.fine]; rw [if_neg k0, if_neg k123]
          have HE := Lib.hid (HN.out (by rw [hf]; simp))
          have e1 : (k1 == 0) = false := by simpa using k0
          have e2 : ¬ k1 = 1 := fun h => k123 (.inl h)
          have e3 : ¬ k1 = 2 := fun h => k123 (.inr (.inl h))
          have e4 : ¬ k1 = 3 := fun h => k123 (.inr (.inr h))
          clear hf k123
          go_wp2_with fail
          go_ret
          exact ⟨ret_bool HE.out.symm, BB.out⟩
    · obtain rfl : k = ms.length := by omega
      by_cases h9 : ms.length ≤ 9
      · have HE := Lib.hid (termOk_end hp h9)
        by_cases hp1 : ((p : Int) == 1) = true
        · rw [hp1] at HE
          go_wp2_with fail
          go_ret
          exact ⟨ret_bool (by rw [HE.out]; first | rfl | exact decide_eq_true (by omega) | exact decide_eq_false (by omega)), hbel⟩
        · have hp1' : ((p : Int) == 1) = false := by simpa using hp1
          rw [hp1'] at HE
          clear hp1
          go_wp2_with fail
          go_ret
          exact ⟨ret_bool HE.out.symm, hbel⟩
      · have HE := Lib.hid (termOk_long (by omega : 9 < ms.length))
        by_cases hp1 : ((p : Int) == 1) = true
        · go_wp2_with fail
          go_ret
          exact ⟨ret_bool (by rw [HE.out]; first | rfl | exact decide_eq_true (by omega) | exact decide_eq_false (by omega)), hbel⟩
        · have hp1' : ((p : Int) == 1) = false := by simpa using hp1
          clear hp1
          go_wp2_with fail
          go_ret
          exact ⟨ret_bool HE.out.symm, hbel⟩
end Go.Proofs.Ytpcependeealfaa

namespace Go.Proofs.Ytpcependeealfaa
open Go.RowKit

/-- the mark of a rule that lets the letter d twice in a row -/
def dMk : Mk := ⟨0, ⟨0, ⟨#[100]⟩, ⟨#[]⟩, 2⟩⟩
theorem dMk_ok : Ru.ok ⟨0, ⟨#[100]⟩, ⟨#[]⟩, 2⟩ = true := by decide +kernel
theorem term_one : termOk [dMk] = true := Tm.termOk_post (T := .rule ⟨0, ⟨#[100]⟩, ⟨#[]⟩, 2⟩) dMk_ok (by decide)
theorem term_none : termOk [] = false := by decide +kernel
theorem term_more {ms : List Mk} (h : termOk ms = true) (hl : ms.length ≤ 7) : termOk (ms ++ [dMk, markOf 1]) = true ∧ termOk (ms ++ [dMk, markOf 2]) = true ∧ termOk (ms ++ [markOf 3]) = true := by
  obtain ⟨T, hg, rfl, _⟩ := tree_of h
  have ha := Tm.termOk_post (T := .two false T (.rule ⟨0, ⟨#[100]⟩, ⟨#[]⟩, 2⟩)) (by simp only [Tm.good, hg, dMk_ok, Bool.and_self]) (by simp only [Tm.post, List.length_append, List.length_singleton]; omega)
  have ho := Tm.termOk_post (T := .two true T (.rule ⟨0, ⟨#[100]⟩, ⟨#[]⟩, 2⟩)) (by simp only [Tm.good, hg, dMk_ok, Bool.and_self]) (by simp only [Tm.post, List.length_append, List.length_singleton]; omega)
  have hn := Tm.termOk_post (T := .not T) (by simp only [Tm.good, hg]) (by simp only [Tm.post, List.length_append, List.length_singleton]; omega)
  simp only [Tm.post, List.append_assoc] at ha ho hn
  exact ⟨ha, ho, hn⟩

section
variable {wB : World} {ts : List Thing} {w w1 : World}
theorem Own.rowS (h : Own wB ts w) (i : Nat) (hi : i < ts.length) {e : TypeId} {sz : Nat} {v : Value} {n : Nat} {xs : List Value} (he : ts[i] = rowT e sz v n xs) : w.ownsRow 0 e sz v n xs := by
  have := h.ap.at i hi
  rw [he] at this; exact this
theorem Own.litS (h : Own wB ts w) (cs : Array Value) (e : TypeId) (n sz : Nat) (hs : cs.size = n * sz) (hm : n ≤ maxLen) : Own wB (rowT e sz (.slice (some ⟨w.heap.size, 0, none⟩) n n) n cs.toList :: ts) (w.alloc (.cells cs e)) :=
  ⟨(h.alloc (.cells cs e)).keep, h.ap.more (World.grownBy_alloc w _ none) _ (World.ownsRow_lit (base := 0) w cs n (Nat.zero_le _) hm hs) h.size (fun j e => by cases e; simp)⟩
theorem Own.turnS {i g cp n n' sz : Nat} {e : TypeId} {v : Value} {xs xs' : List Value} (h : Own wB ts w) (hi : i < ts.length) (he : ts[i] = rowT e sz v n xs) (hg : w.grownBy w1 v.ownBlock)
    (ho : w1.ownsRow 0 e sz (.slice (some ⟨g, 0, none⟩) n' cp) n' xs') (hat : v.ownBlock = some g ∨ g = w.heap.size) :
    Own wB (ts.set i (rowT e sz (.slice (some ⟨g, 0, none⟩) n' cp) n' xs')) w1 := by
  have hlt := h.ap.ltAt i hi
  rw [he] at hlt
  exact ⟨h.keep.grown hg h.size (fun j e => (hlt j e).1), h.ap.turnAt i hi (by rw [he]; exact hg) _ ho h.size
    (fun j e => ⟨by rw [he]; cases e; exact hat.imp id (fun e => Nat.le_of_eq e.symm), (World.ownsRow.lt ho j e).2⟩)⟩
end
/-- the cells of marks in memory, read on from where they lie -/
theorem IsMarks.news {w : World} {a : Option Addr} {n cap : Nat} {ms : List Mk} (h : IsMarks w (.slice a n cap) ms) (h0 : ms ≠ []) : ∃ g off : Nat, a = some ⟨g, off, none⟩ ∧ n = ms.length ∧ g < w.heap.size ∧ ∀ j u, (cellsM ms)[j]? = some u → w.cell? ((⟨g, off, none⟩ : Addr).add j) = some u := by
  obtain ⟨a', cap', he, h1, h2, h3⟩ := h
  simp only [Value.slice.injEq] at he
  obtain ⟨rfl, rfl, rfl⟩ := he
  obtain ⟨g, off, rfl, hg, hm⟩ := h3.resolve_left h0
  refine ⟨g, off, rfl, rfl, hg, ?_⟩
  have key : ∀ (ms : List Mk) (off : Nat), (∀ k (h : k < ms.length), markAt w g (off + k * 5) ms[k]) → ∀ j u, (cellsM ms)[j]? = some u → w.cell? ⟨g, off + j, none⟩ = some u := by
    intro ms
    induction ms with
    | nil => intro off _ j u hj; simp [cellsM] at hj
    | cons m ms ih =>
      intro off hm j u hj
      have h0 := hm 0 (by simp)
      simp only [Nat.zero_mul, Nat.add_zero, List.getElem_cons_zero] at h0
      by_cases hj5 : j < 5
      · rw [cellsM, List.getElem?_append_left (by simpa [Mk.cells] using hj5)] at hj
        obtain ⟨e0, e1, e2, e3, e4⟩ := h0
        obtain rfl | rfl | rfl | rfl | rfl : j = 0 ∨ j = 1 ∨ j = 2 ∨ j = 3 ∨ j = 4 := by omega
        all_goals
          simp only [Mk.cells, List.getElem?_cons_zero, List.getElem?_cons_succ, Option.some.injEq] at hj
          subst hj
          first | exact e0 | exact e1 | exact e2 | exact e3 | exact e4
      · rw [cellsM, List.getElem?_append_right (by simp [Mk.cells]; omega)] at hj
        have hl : m.cells.length = 5 := rfl
        rw [hl] at hj
        have := ih (off + 5) (fun k hk => by
          have h := hm (k + 1) (by simpa using hk)
          simp only [List.getElem_cons_succ] at h
          rw [show off + 5 + k * 5 = off + (k + 1) * 5 by omega]
          exact h) (j - 5) u hj
        rwa [show off + 5 + (j - 5) = off + j by omega] at this
  intro j u hj
  have hk := key ms off hm j u hj
  rw [show (⟨g, off, none⟩ : Addr).add j = ⟨g, off + j, none⟩ by unfold Addr.add; split <;> simp_all]
  exact hk
end Go.Proofs.Ytpcependeealfaa

namespace Go.Proofs.Ytpcependeealfaa
open Go.RowKit

theorem aliveM_any (w : World) : Calls Try.prog 23 #[] w fun e w' => e = .returned (.bool true) ∧ w = w' := by
  have h1 : wordOk ⟨#[114, 100, 110]⟩ = true := by decide +kernel
  have h2 : wordOk ⟨#[120]⟩ = false := by decide +kernel
  go_enter Try.func23, Try.ntmps23
  go_wp2_with (go_at_call 45; refine (implWordOk_any _ _ (by decide)).mono ?_; rintro e w' ⟨rfl, rfl⟩)
  go_ret
  exact ⟨rfl, rfl⟩
theorem rowM_len {w : World} {a : Option Addr} {len cap : Nat} {zs : List Int} (h : IsRow .u8 w a len cap zs) : len ≤ 9223372036854775807 := by
  rcases h with ⟨_, rfl, _⟩ | ⟨x, _, h1, h2, _⟩
  · exact Nat.zero_le _
  · exact Nat.le_trans h1 h2
theorem drawTermM_any (a : Option Addr) (len cap : Nat) (zs : List Int) (w : World) (h : IsRow .u8 w a len cap zs) :
    Calls Try.prog 28 #[.slice a len cap] w fun e w' => ∃ (ms : List Mk) (v : Value), e = .returned v ∧ ms.length ≤ 10 ∧ (∀ m ∈ ms, m.wf) ∧ IsMarks w' v ms ∧ Below w.heap.size w w' := by
  have HO := Lib.hid (l20Open_any a len cap zs w h)
  clear h
  go_enter Try.func28, Try.ntmps28
  go_wp2_with fail
  refine HO.out.mono ?_
  clear HO
  rintro e w1 ⟨a1, len1, cap1, rfl, hR, hb⟩
  go_wp2_with fail
  refine (l20Term_any _ _ _ _ _ 0 2 _ hR (by omega) (by omega) (by omega)).mono ?_
  rintro e w2 ⟨ms, v, k', rfl, h1, h2, -, -, hO⟩
  go_wp2_with fail
  go_ret
  exact ⟨ms, v, rfl, h1, h2, IsMarks.of_owns (hO.row 0 (by simp) rfl), hb.trans (hO.keep.below (Nat.le_refl _) hb.size)⟩

theorem step_append_zero {P : Program} {w : World} {ops : Array Oper} {o : Oper} {a : Act} {K : Act → World → Prop} {Q : Exit → Act → World → Prop} {E : Prop} (hgd : o.guard = none) (s x : Operand) (t : TypeId)
    (ho : o.op = .call { callee := .builtin .append, args := #[s, x], argTypes := #[t, t] })
    (base : Nat) (e : TypeId) (i : TypeInfo) (size : Nat) (ht : P.underlying t = some (.slice e)) (hi : P.info? e = some i)
    (v : Value) (n : Nat) (xs : List Value) (hs : a.eval s = v) (hown : w.ownsRow base e size v n xs) (p : Option Addr) (c : Nat) (hx : a.eval x = .slice p 0 c)
    (h : K (a.put o.dst v) w) : if Region.wanted o (yielded ops a.tmps) = true then Oper.wp P o a w K Q else E := by
  have hw : Region.wanted o (yielded ops a.tmps) = true := by simp [Region.wanted, hgd]
  rw [if_pos hw]
  have hrun := run_append_zero (P := P) (w := w) base t o.type e i size ht hi v n xs hown p c
  unfold Oper.wp
  simp [execOp, ho, resolve, invoke, builtin, hs, hx, hrun, Result.andThen]
  exact h

set_option maxHeartbeats 3200000 in
theorem lawTermOk_walk {w : World} (a : Option Addr) (len cap : Nat) (zs : List Int) (h : IsRow .u8 w a len cap zs) :
    Calls Try.prog 4 #[.slice a len cap] w fun e w' => e = .returned (.bool true) ∧ Below w.heap.size w w' := by
  obtain ⟨i0, hi, hz0, hz1, hz2⟩ := info_parts infoMarkD
  have HI := Lib.hid (And.intro hi (And.intro hz0 (And.intro hz1 hz2)))
  clear hi hz0 hz1 hz2
  have HD := Lib.hid (drawTermM_any a len cap zs w h)
  have hl := rowM_len h
  clear h
  by_cases hbig : 1048576 < len
  · go_enter Try.func4, Try.ntmps4
    go_wp2_with fail
    go_ret
    exact ⟨rfl, Below.refl _ _⟩
  · go_enter Try.func4, Try.ntmps4
    go_wp2_with fail
    refine HD.out.mono ?_
    clear HD
    rintro e w1 ⟨ms, v, rfl, hms, hwf, hm, hb⟩
    obtain ⟨ta, tc, rfl⟩ : ∃ ta tc, v = .slice ta ms.length tc := by obtain ⟨a', c', he, _⟩ := hm; exact ⟨a', c', he⟩
    have HWF := Lib.hid hwf
    have HM := Lib.hid hm
    have B1 := Lib.hid hb
    clear hwf hm hb
    go_wp2_with fail
    refine (implTermOk_any ms HWF.out _ _ HM.out).mono ?_
    rintro e w2 ⟨rfl, hb2⟩
    have M2 := Lib.hid (HM.out.below hb2)
    have B2 := Lib.hid (B1.out.trans (hb2.mono B1.out.size))
    clear hb2 HM B1
    go_wp2_with fail
    refine (specTermOk_any ms _ _ M2.out (by omega)).mono ?_
    rintro e w3 ⟨rfl, hb3⟩
    have M3 := Lib.hid (M2.out.below hb3)
    have B3 := Lib.hid (B2.out.trans (hb3.mono B2.out.size))
    clear hb3 M2 B2
    go_upto_region 8 with fail
    have hb5 : w3.heap.size < (w3.alloc (.cells #[.int .i64 0, .int .i64 0, .string ⟨#[100]⟩, .string ⟨#[]⟩, .int .i64 2] 42)).heap.size := by simp
    have MT : Hid (∀ V, Below (w3.alloc (.cells #[.int .i64 0, .int .i64 0, .string ⟨#[100]⟩, .string ⟨#[]⟩, .int .i64 2] 42)).heap.size (w3.alloc (.cells #[.int .i64 0, .int .i64 0, .string ⟨#[100]⟩, .string ⟨#[]⟩, .int .i64 2] 42)) V → IsMarks V (.slice ta ms.length tc) ms) := Lib.hid (fun V h => (M3.out.below ((Below.refl _ _).alloc (Nat.le_refl _) _)).below h)
    have HB : Hid (∀ V, Below (w3.alloc (.cells #[.int .i64 0, .int .i64 0, .string ⟨#[100]⟩, .string ⟨#[]⟩, .int .i64 2] 42)).heap.size (w3.alloc (.cells #[.int .i64 0, .int .i64 0, .string ⟨#[100]⟩, .string ⟨#[]⟩, .int .i64 2] 42)) V → V.cell? ⟨w3.heap.size, 0, none⟩ = some (.int .i64 0) ∧ V.cell? ⟨w3.heap.size, 1, none⟩ = some (.int .i64 0) ∧ V.cell? ⟨w3.heap.size, 2, none⟩ = some (.string ⟨#[100]⟩) ∧ V.cell? ⟨w3.heap.size, 3, none⟩ = some (.string ⟨#[]⟩) ∧ V.cell? ⟨w3.heap.size, 4, none⟩ = some (.int .i64 2)) := Lib.hid (fun V h => ⟨(h.cell (p := ⟨w3.heap.size, 0, none⟩) hb5).trans (World.cell?_alloc_new _ _ _ 0), (h.cell (p := ⟨w3.heap.size, 1, none⟩) hb5).trans (World.cell?_alloc_new _ _ _ 1), (h.cell (p := ⟨w3.heap.size, 2, none⟩) hb5).trans (World.cell?_alloc_new _ _ _ 2), (h.cell (p := ⟨w3.heap.size, 3, none⟩) hb5).trans (World.cell?_alloc_new _ _ _ 3), (h.cell (p := ⟨w3.heap.size, 4, none⟩) hb5).trans (World.cell?_alloc_new _ _ _ 4)⟩)
    have B4 := Lib.hid (B3.out.alloc B3.out.size (.cells #[.int .i64 0, .int .i64 0, .string ⟨#[100]⟩, .string ⟨#[]⟩, .int .i64 2] 42))
    clear M3 B3 hb5
    generalize (w3.alloc (.cells #[.int .i64 0, .int .i64 0, .string ⟨#[100]⟩, .string ⟨#[]⟩, .int .i64 2] 42)) = W4 at *
    generalize w3.heap.size = b5 at *
    generalize hok : termOk ms = ok at *
    have HOK := Lib.hid hok
    clear hok
    go_cut [6] from 22 to 28 (fun v wx => IsMarks wx v (ms ++ [dMk, markOf 1]) ∧ Below W4.heap.size W4 wx)
    case first =>
      have OD := Lib.hid ((Own.nil W4).same (grown_drew W4 none))
      have OA : Hid (Own W4 [rowT 42 5 (.slice (some ⟨W4.heap.size, 0, none⟩) 0 0) 0 []] (W4.drew.alloc (.cells #[] 42))) := Lib.hid (OD.out.litS #[] 42 0 5 rfl (Nat.zero_le _))
      have OT : Hid (Own W4 [rowT 42 5 (.slice (some ⟨W4.heap.size, 0, none⟩) 2 2) 2 #[.int .i64 0, .int .i64 0, .string ⟨#[100]⟩, .string ⟨#[]⟩, .int .i64 2, .int .i64 1, .int .i64 0, .string ⟨#[]⟩, .string ⟨#[]⟩, .int .i64 0].toList] (W4.drew.alloc (.cells #[.int .i64 0, .int .i64 0, .string ⟨#[100]⟩, .string ⟨#[]⟩, .int .i64 2, .int .i64 1, .int .i64 0, .string ⟨#[]⟩, .string ⟨#[]⟩, .int .i64 0] 42))) := Lib.hid (OD.out.litS #[.int .i64 0, .int .i64 0, .string ⟨#[100]⟩, .string ⟨#[]⟩, .int .i64 2, .int .i64 1, .int .i64 0, .string ⟨#[]⟩, .string ⟨#[]⟩, .int .i64 0] 42 2 5 rfl (by unfold maxLen; omega))
      have eA : (W4.drew.alloc (.cells #[] 42)).heap.size = W4.heap.size + 1 := by simp
      have eT : (W4.drew.alloc (.cells #[.int .i64 0, .int .i64 0, .string ⟨#[100]⟩, .string ⟨#[]⟩, .int .i64 2, .int .i64 1, .int .i64 0, .string ⟨#[]⟩, .string ⟨#[]⟩, .int .i64 0] 42)).heap.size = W4.heap.size + 1 := by simp
      have OB : Hid (Own W4 [rowT 42 5 (.slice (some ⟨(W4.heap.size + 1), 0, none⟩) 2 2) 2 #[.int .i64 0, .int .i64 0, .string ⟨#[100]⟩, .string ⟨#[]⟩, .int .i64 2, .int .i64 1, .int .i64 0, .string ⟨#[]⟩, .string ⟨#[]⟩, .int .i64 0].toList, rowT 42 5 (.slice (some ⟨W4.heap.size, 0, none⟩) 0 0) 0 []] ((W4.drew.alloc (.cells #[] 42)).alloc (.cells #[.int .i64 0, .int .i64 0, .string ⟨#[100]⟩, .string ⟨#[]⟩, .int .i64 2, .int .i64 1, .int .i64 0, .string ⟨#[]⟩, .string ⟨#[]⟩, .int .i64 0] 42))) := Lib.hid (by have h := OA.out.litS #[.int .i64 0, .int .i64 0, .string ⟨#[100]⟩, .string ⟨#[]⟩, .int .i64 2, .int .i64 1, .int .i64 0, .string ⟨#[]⟩, .string ⟨#[]⟩, .int .i64 0] 42 2 5 rfl (by unfold maxLen; omega); rw [eA] at h; exact h)
      have OC : Hid (Own W4 [rowT 42 5 (.slice (some ⟨(W4.heap.size + 1), 0, none⟩) 0 0) 0 [], rowT 42 5 (.slice (some ⟨W4.heap.size, 0, none⟩) 2 2) 2 #[.int .i64 0, .int .i64 0, .string ⟨#[100]⟩, .string ⟨#[]⟩, .int .i64 2, .int .i64 1, .int .i64 0, .string ⟨#[]⟩, .string ⟨#[]⟩, .int .i64 0].toList] ((W4.drew.alloc (.cells #[.int .i64 0, .int .i64 0, .string ⟨#[100]⟩, .string ⟨#[]⟩, .int .i64 2, .int .i64 1, .int .i64 0, .string ⟨#[]⟩, .string ⟨#[]⟩, .int .i64 0] 42)).alloc (.cells #[] 42))) := Lib.hid (by have h := OT.out.litS #[] 42 0 5 rfl (Nat.zero_le _); rw [eT] at h; exact h)
      clear eA eT
      by_cases hnil : ms = []
      · subst hnil
        go_region_held3 (fun w' => w'.cell? ⟨b5, 0, none⟩ = some (.int .i64 0) ∧ w'.cell? ⟨b5, 1, none⟩ = some (.int .i64 0) ∧ w'.cell? ⟨b5, 2, none⟩ = some (.string ⟨#[100]⟩) ∧ w'.cell? ⟨b5, 3, none⟩ = some (.string ⟨#[]⟩) ∧ w'.cell? ⟨b5, 4, none⟩ = some (.int .i64 2))
          (first | exact HB.out _ O4.out.keep | exact HB.out _ OB.out.keep | exact HB.out _ OC.out.keep | exact HB.out _ OA.out.keep | exact HB.out _ OT.out.keep | exact HB.out _ OD.out.keep)
          (first | (refine step_append_lies _ rfl _ _ 36 rfl 0 42 i0 (.agg #[.int .i64 0, .int .i64 0, .string ⟨#[]⟩, .string ⟨#[]⟩, .int .i64 0]) 5 56 Try.underlying36 HI.out.1 HI.out.2.1 HI.out.2.2.1 HI.out.2.2.2 rfl (by decide) (.slice (some ⟨W4.heap.size, 0, none⟩) 0 0) (0) ([]) (by first | rfl | (show Value.slice _ (0 + ms.length) _ = _; rw [Nat.zero_add])) (OB.out.rowS 1 (by simp) rfl) ⟨(W4.heap.size + 1), 0, none⟩ 2 2 (cellsM [dMk, markOf 1]) rfl rfl (fun j u hj => marks_news (OB.out.rowS 0 (by simp) rfl) j u hj) (cellsM_one _) (by omega) (by unfold maxLen; omega) (by omega) (Nat.zero_le _) _ rfl ?_; intro gF cF wF hown hgrow hat hlt3; have O4 := Lib.hid (OB.out.turnS (i := 1) (by simp) rfl hgrow hown hat); have I5 := Lib.hid (IsMarks.of_owns (ms := ([] : List Mk) ++ [dMk, markOf 1]) (by have h := ((OB.out.turnS (i := 1) (by simp) rfl hgrow hown hat).rowS 1 (by simp) rfl); simpa [cellsM_append] using h) : IsMarks wF (.slice (some ⟨gF, 0, none⟩) (0 + 2) cF) (([] : List Mk) ++ [dMk, markOf 1])); clear hown hgrow hat hlt3) | (refine step_append_lies _ rfl _ _ 36 rfl 0 42 i0 (.agg #[.int .i64 0, .int .i64 0, .string ⟨#[]⟩, .string ⟨#[]⟩, .int .i64 0]) 5 56 Try.underlying36 HI.out.1 HI.out.2.1 HI.out.2.2.1 HI.out.2.2.2 rfl (by decide) (.slice (some ⟨(W4.heap.size + 1), 0, none⟩) 0 0) (0) ([]) (by first | rfl | (show Value.slice _ (0 + ms.length) _ = _; rw [Nat.zero_add])) (OC.out.rowS 0 (by simp) rfl) ⟨W4.heap.size, 0, none⟩ 2 2 (cellsM [dMk, markOf 1]) rfl rfl (fun j u hj => marks_news (OC.out.rowS 1 (by simp) rfl) j u hj) (cellsM_one _) (by omega) (by unfold maxLen; omega) (by omega) (Nat.zero_le _) _ rfl ?_; intro gF cF wF hown hgrow hat hlt3; have O4 := Lib.hid (OC.out.turnS (i := 0) (by simp) rfl hgrow hown hat); have I5 := Lib.hid (IsMarks.of_owns (ms := ([] : List Mk) ++ [dMk, markOf 1]) (by have h := ((OC.out.turnS (i := 0) (by simp) rfl hgrow hown hat).rowS 0 (by simp) rfl); simpa [cellsM_append] using h) : IsMarks wF (.slice (some ⟨gF, 0, none⟩) (0 + 2) cF) (([] : List Mk) ++ [dMk, markOf 1])); clear hown hgrow hat hlt3) | (refine step_append_zero rfl _ _ 36 rfl 0 42 i0 5 Try.underlying36 HI.out.1 (.slice (some ⟨W4.heap.size, 0, none⟩) 0 0) 0 [] rfl (OA.out.rowS 0 (by simp) rfl) ta tc rfl ?_) | (refine step_append_zero rfl _ _ 36 rfl 0 42 i0 5 Try.underlying36 HI.out.1 (.slice (some ⟨W4.heap.size, 0, none⟩) 0 0) 0 [] rfl (OB.out.rowS 1 (by simp) rfl) ta tc rfl ?_) | (refine step_append_zero rfl _ _ 36 rfl 0 42 i0 5 Try.underlying36 HI.out.1 (.slice (some ⟨(W4.heap.size + 1), 0, none⟩) 0 0) 0 [] rfl (OC.out.rowS 0 (by simp) rfl) ta tc rfl ?_))
        all_goals
          go_wp2
          go_meet
          case rel => exact ⟨by first | exact I5.out | simpa using I5.out, O4.out.keep⟩
      · have HN0 := Lib.hid ((MT.out W4 (Below.refl _ _)).news hnil)
        obtain ⟨g, off, rfl, -, -, -⟩ := HN0.out
        have HN : Hid (∀ V, Below W4.heap.size W4 V → ∀ j u, (cellsM ms)[j]? = some u → V.cell? ((⟨g, off, none⟩ : Addr).add j) = some u) := Lib.hid (fun V hV j u hj => by
          obtain ⟨g', off', e, -, -, h⟩ := (MT.out V hV).news hnil
          simp only [Option.some.injEq, Addr.mk.injEq, and_true] at e
          obtain ⟨rfl, rfl⟩ := e
          exact h j u hj)
        have hpos : 0 < ms.length := List.length_pos_iff.2 hnil
        clear HN0
        go_region_held3 (fun w' => w'.cell? ⟨b5, 0, none⟩ = some (.int .i64 0) ∧ w'.cell? ⟨b5, 1, none⟩ = some (.int .i64 0) ∧ w'.cell? ⟨b5, 2, none⟩ = some (.string ⟨#[100]⟩) ∧ w'.cell? ⟨b5, 3, none⟩ = some (.string ⟨#[]⟩) ∧ w'.cell? ⟨b5, 4, none⟩ = some (.int .i64 2))
          (first | exact HB.out _ O4.out.keep | exact HB.out _ O3.out.keep | exact HB.out _ O2.out.keep | exact HB.out _ OB.out.keep | exact HB.out _ OC.out.keep | exact HB.out _ OA.out.keep | exact HB.out _ OT.out.keep | exact HB.out _ OD.out.keep)
          (first | (refine step_append_lies _ rfl _ _ 36 rfl 0 42 i0 (.agg #[.int .i64 0, .int .i64 0, .string ⟨#[]⟩, .string ⟨#[]⟩, .int .i64 0]) 5 56 Try.underlying36 HI.out.1 HI.out.2.1 HI.out.2.2.1 HI.out.2.2.2 rfl (by decide) (.slice (some ⟨gE, 0, none⟩) ms.length cE) (ms.length) (cellsM ms) (by first | rfl | (show Value.slice _ (0 + ms.length) _ = _; rw [Nat.zero_add])) (O3.out.rowS 1 (by simp) rfl) ⟨wE.heap.size, 0, none⟩ 2 2 (cellsM [dMk, markOf 1]) rfl rfl (fun j u hj => new_news wE #[.int .i64 0, .int .i64 0, .string ⟨#[100]⟩, .string ⟨#[]⟩, .int .i64 2, .int .i64 1, .int .i64 0, .string ⟨#[]⟩, .string ⟨#[]⟩, .int .i64 0] _ _ rfl j u hj) (cellsM_one _) (by omega) (by unfold maxLen; omega) (by omega) (Nat.zero_le _) _ rfl ?_; intro gF cF wF hown hgrow hat hlt3; have O4 := Lib.hid (O3.out.turnS (i := 1) (by simp) rfl hgrow hown hat); have I5 := Lib.hid (IsMarks.of_owns (ms := ms ++ [dMk, markOf 1]) (by have h := ((O3.out.turnS (i := 1) (by simp) rfl hgrow hown hat).rowS 1 (by simp) rfl); simpa [cellsM_append] using h) : IsMarks wF (.slice (some ⟨gF, 0, none⟩) (ms.length + 2) cF) (ms ++ [dMk, markOf 1])); clear hown hgrow hat hlt3) | (refine step_append_lies _ rfl _ _ 36 rfl 0 42 i0 (.agg #[.int .i64 0, .int .i64 0, .string ⟨#[]⟩, .string ⟨#[]⟩, .int .i64 0]) 5 56 Try.underlying36 HI.out.1 HI.out.2.1 HI.out.2.2.1 HI.out.2.2.2 rfl (by decide) (.slice (some ⟨gE, 0, none⟩) ms.length cE) (ms.length) (cellsM ms) (by first | rfl | (show Value.slice _ (0 + ms.length) _ = _; rw [Nat.zero_add])) (O2.out.rowS 1 (by simp) rfl) ⟨(W4.heap.size + 1), 0, none⟩ 2 2 (cellsM [dMk, markOf 1]) rfl rfl (fun j u hj => marks_news (O2.out.rowS 0 (by simp) rfl) j u hj) (cellsM_one _) (by omega) (by unfold maxLen; omega) (by omega) (Nat.zero_le _) _ rfl ?_; intro gF cF wF hown hgrow hat hlt3; have O4 := Lib.hid (O2.out.turnS (i := 1) (by simp) rfl hgrow hown hat); have I5 := Lib.hid (IsMarks.of_owns (ms := ms ++ [dMk, markOf 1]) (by have h := ((O2.out.turnS (i := 1) (by simp) rfl hgrow hown hat).rowS 1 (by simp) rfl); simpa [cellsM_append] using h) : IsMarks wF (.slice (some ⟨gF, 0, none⟩) (ms.length + 2) cF) (ms ++ [dMk, markOf 1])); clear hown hgrow hat hlt3) | (refine step_append_lies _ rfl _ _ 36 rfl 0 42 i0 (.agg #[.int .i64 0, .int .i64 0, .string ⟨#[]⟩, .string ⟨#[]⟩, .int .i64 0]) 5 56 Try.underlying36 HI.out.1 HI.out.2.1 HI.out.2.2.1 HI.out.2.2.2 rfl (by decide) (.slice (some ⟨gE, 0, none⟩) ms.length cE) (ms.length) (cellsM ms) (by first | rfl | (show Value.slice _ (0 + ms.length) _ = _; rw [Nat.zero_add])) (O2.out.rowS 0 (by simp) rfl) ⟨W4.heap.size, 0, none⟩ 2 2 (cellsM [dMk, markOf 1]) rfl rfl (fun j u hj => marks_news (O2.out.rowS 1 (by simp) rfl) j u hj) (cellsM_one _) (by omega) (by unfold maxLen; omega) (by omega) (Nat.zero_le _) _ rfl ?_; intro gF cF wF hown hgrow hat hlt3; have O4 := Lib.hid (O2.out.turnS (i := 0) (by simp) rfl hgrow hown hat); have I5 := Lib.hid (IsMarks.of_owns (ms := ms ++ [dMk, markOf 1]) (by have h := ((O2.out.turnS (i := 0) (by simp) rfl hgrow hown hat).rowS 0 (by simp) rfl); simpa [cellsM_append] using h) : IsMarks wF (.slice (some ⟨gF, 0, none⟩) (ms.length + 2) cF) (ms ++ [dMk, markOf 1])); clear hown hgrow hat hlt3) | (refine step_append_lies _ rfl _ _ 36 rfl 0 42 i0 (.agg #[.int .i64 0, .int .i64 0, .string ⟨#[]⟩, .string ⟨#[]⟩, .int .i64 0]) 5 56 Try.underlying36 HI.out.1 HI.out.2.1 HI.out.2.2.1 HI.out.2.2.2 rfl (by decide) (.slice (some ⟨W4.heap.size, 0, none⟩) 0 0) 0 [] rfl (OA.out.rowS 0 (by simp) rfl) ⟨g, off, none⟩ ms.length tc (cellsM ms) rfl (cellsM_length ms) (fun j u hj => HN.out _ OA.out.keep j u hj) (cellsM_one ms) (by omega) (by unfold maxLen; omega) (by omega) (Nat.zero_le _) _ rfl ?_; intro gE cE wE hown hgrow hat hlt3; rw [Nat.zero_add, List.nil_append] at hown; have O2 := Lib.hid (OA.out.turnS (i := 0) (by simp) rfl hgrow hown hat); clear hown hgrow hat hlt3; have O3 := Lib.hid (O2.out.litS #[.int .i64 0, .int .i64 0, .string ⟨#[100]⟩, .string ⟨#[]⟩, .int .i64 2, .int .i64 1, .int .i64 0, .string ⟨#[]⟩, .string ⟨#[]⟩, .int .i64 0] 42 2 5 rfl (by unfold maxLen; omega))) | (refine step_append_lies _ rfl _ _ 36 rfl 0 42 i0 (.agg #[.int .i64 0, .int .i64 0, .string ⟨#[]⟩, .string ⟨#[]⟩, .int .i64 0]) 5 56 Try.underlying36 HI.out.1 HI.out.2.1 HI.out.2.2.1 HI.out.2.2.2 rfl (by decide) (.slice (some ⟨W4.heap.size, 0, none⟩) 0 0) 0 [] rfl (OB.out.rowS 1 (by simp) rfl) ⟨g, off, none⟩ ms.length tc (cellsM ms) rfl (cellsM_length ms) (fun j u hj => HN.out _ OB.out.keep j u hj) (cellsM_one ms) (by omega) (by unfold maxLen; omega) (by omega) (Nat.zero_le _) _ rfl ?_; intro gE cE wE hown hgrow hat hlt3; rw [Nat.zero_add, List.nil_append] at hown; have O2 := Lib.hid (OB.out.turnS (i := 1) (by simp) rfl hgrow hown hat); clear hown hgrow hat hlt3) | (refine step_append_lies _ rfl _ _ 36 rfl 0 42 i0 (.agg #[.int .i64 0, .int .i64 0, .string ⟨#[]⟩, .string ⟨#[]⟩, .int .i64 0]) 5 56 Try.underlying36 HI.out.1 HI.out.2.1 HI.out.2.2.1 HI.out.2.2.2 rfl (by decide) (.slice (some ⟨(W4.heap.size + 1), 0, none⟩) 0 0) 0 [] rfl (OC.out.rowS 0 (by simp) rfl) ⟨g, off, none⟩ ms.length tc (cellsM ms) rfl (cellsM_length ms) (fun j u hj => HN.out _ OC.out.keep j u hj) (cellsM_one ms) (by omega) (by unfold maxLen; omega) (by omega) (Nat.zero_le _) _ rfl ?_; intro gE cE wE hown hgrow hat hlt3; rw [Nat.zero_add, List.nil_append] at hown; have O2 := Lib.hid (OC.out.turnS (i := 0) (by simp) rfl hgrow hown hat); clear hown hgrow hat hlt3))
        all_goals
          go_wp2
          go_meet
          case rel => exact ⟨by first | exact I5.out | simpa using I5.out, O4.out.keep⟩
    case rest =>
      obtain ⟨hI8, hBl8⟩ := hcut
      have I8 := Lib.hid hI8
      have B5 := Lib.hid (B4.out.trans (hBl8.mono B4.out.size))
      replace MT := Lib.hid (fun V (h : Below wc.heap.size wc V) => MT.out V (hBl8.trans (h.mono hBl8.size)))
      replace HB := Lib.hid (fun V (h : Below wc.heap.size wc V) => HB.out V (hBl8.trans (h.mono hBl8.size)))
      clear hI8 hBl8 B4
      generalize wc = W5 at *
      go_upto_region 9 with fail
      go_cut [7] from 29 to 35 (fun v wx => IsMarks wx v (ms ++ [dMk, markOf 2]) ∧ Below W5.heap.size W5 wx)
      case first =>
        have OD := Lib.hid ((Own.nil W5).same (grown_drew W5 none))
        have OA : Hid (Own W5 [rowT 42 5 (.slice (some ⟨W5.heap.size, 0, none⟩) 0 0) 0 []] (W5.drew.alloc (.cells #[] 42))) := Lib.hid (OD.out.litS #[] 42 0 5 rfl (Nat.zero_le _))
        have OT : Hid (Own W5 [rowT 42 5 (.slice (some ⟨W5.heap.size, 0, none⟩) 2 2) 2 #[.int .i64 0, .int .i64 0, .string ⟨#[100]⟩, .string ⟨#[]⟩, .int .i64 2, .int .i64 2, .int .i64 0, .string ⟨#[]⟩, .string ⟨#[]⟩, .int .i64 0].toList] (W5.drew.alloc (.cells #[.int .i64 0, .int .i64 0, .string ⟨#[100]⟩, .string ⟨#[]⟩, .int .i64 2, .int .i64 2, .int .i64 0, .string ⟨#[]⟩, .string ⟨#[]⟩, .int .i64 0] 42))) := Lib.hid (OD.out.litS #[.int .i64 0, .int .i64 0, .string ⟨#[100]⟩, .string ⟨#[]⟩, .int .i64 2, .int .i64 2, .int .i64 0, .string ⟨#[]⟩, .string ⟨#[]⟩, .int .i64 0] 42 2 5 rfl (by unfold maxLen; omega))
        have eA : (W5.drew.alloc (.cells #[] 42)).heap.size = W5.heap.size + 1 := by simp
        have eT : (W5.drew.alloc (.cells #[.int .i64 0, .int .i64 0, .string ⟨#[100]⟩, .string ⟨#[]⟩, .int .i64 2, .int .i64 2, .int .i64 0, .string ⟨#[]⟩, .string ⟨#[]⟩, .int .i64 0] 42)).heap.size = W5.heap.size + 1 := by simp
        have OB : Hid (Own W5 [rowT 42 5 (.slice (some ⟨(W5.heap.size + 1), 0, none⟩) 2 2) 2 #[.int .i64 0, .int .i64 0, .string ⟨#[100]⟩, .string ⟨#[]⟩, .int .i64 2, .int .i64 2, .int .i64 0, .string ⟨#[]⟩, .string ⟨#[]⟩, .int .i64 0].toList, rowT 42 5 (.slice (some ⟨W5.heap.size, 0, none⟩) 0 0) 0 []] ((W5.drew.alloc (.cells #[] 42)).alloc (.cells #[.int .i64 0, .int .i64 0, .string ⟨#[100]⟩, .string ⟨#[]⟩, .int .i64 2, .int .i64 2, .int .i64 0, .string ⟨#[]⟩, .string ⟨#[]⟩, .int .i64 0] 42))) := Lib.hid (by have h := OA.out.litS #[.int .i64 0, .int .i64 0, .string ⟨#[100]⟩, .string ⟨#[]⟩, .int .i64 2, .int .i64 2, .int .i64 0, .string ⟨#[]⟩, .string ⟨#[]⟩, .int .i64 0] 42 2 5 rfl (by unfold maxLen; omega); rw [eA] at h; exact h)
        have OC : Hid (Own W5 [rowT 42 5 (.slice (some ⟨(W5.heap.size + 1), 0, none⟩) 0 0) 0 [], rowT 42 5 (.slice (some ⟨W5.heap.size, 0, none⟩) 2 2) 2 #[.int .i64 0, .int .i64 0, .string ⟨#[100]⟩, .string ⟨#[]⟩, .int .i64 2, .int .i64 2, .int .i64 0, .string ⟨#[]⟩, .string ⟨#[]⟩, .int .i64 0].toList] ((W5.drew.alloc (.cells #[.int .i64 0, .int .i64 0, .string ⟨#[100]⟩, .string ⟨#[]⟩, .int .i64 2, .int .i64 2, .int .i64 0, .string ⟨#[]⟩, .string ⟨#[]⟩, .int .i64 0] 42)).alloc (.cells #[] 42))) := Lib.hid (by have h := OT.out.litS #[] 42 0 5 rfl (Nat.zero_le _); rw [eT] at h; exact h)
        clear eA eT
        by_cases hnil : ms = []
        · subst hnil
          go_region_held3 (fun w' => w'.cell? ⟨b5, 0, none⟩ = some (.int .i64 0) ∧ w'.cell? ⟨b5, 1, none⟩ = some (.int .i64 0) ∧ w'.cell? ⟨b5, 2, none⟩ = some (.string ⟨#[100]⟩) ∧ w'.cell? ⟨b5, 3, none⟩ = some (.string ⟨#[]⟩) ∧ w'.cell? ⟨b5, 4, none⟩ = some (.int .i64 2))
            (first | exact HB.out _ O4.out.keep | exact HB.out _ OB.out.keep | exact HB.out _ OC.out.keep | exact HB.out _ OA.out.keep | exact HB.out _ OT.out.keep | exact HB.out _ OD.out.keep)
            (first | (refine step_append_lies _ rfl _ _ 36 rfl 0 42 i0 (.agg #[.int .i64 0, .int .i64 0, .string ⟨#[]⟩, .string ⟨#[]⟩, .int .i64 0]) 5 56 Try.underlying36 HI.out.1 HI.out.2.1 HI.out.2.2.1 HI.out.2.2.2 rfl (by decide) (.slice (some ⟨W5.heap.size, 0, none⟩) 0 0) (0) ([]) (by first | rfl | (show Value.slice _ (0 + ms.length) _ = _; rw [Nat.zero_add])) (OB.out.rowS 1 (by simp) rfl) ⟨(W5.heap.size + 1), 0, none⟩ 2 2 (cellsM [dMk, markOf 2]) rfl rfl (fun j u hj => marks_news (OB.out.rowS 0 (by simp) rfl) j u hj) (cellsM_one _) (by omega) (by unfold maxLen; omega) (by omega) (Nat.zero_le _) _ rfl ?_; intro gF cF wF hown hgrow hat hlt3; have O4 := Lib.hid (OB.out.turnS (i := 1) (by simp) rfl hgrow hown hat); have I5 := Lib.hid (IsMarks.of_owns (ms := ([] : List Mk) ++ [dMk, markOf 2]) (by have h := ((OB.out.turnS (i := 1) (by simp) rfl hgrow hown hat).rowS 1 (by simp) rfl); simpa [cellsM_append] using h) : IsMarks wF (.slice (some ⟨gF, 0, none⟩) (0 + 2) cF) (([] : List Mk) ++ [dMk, markOf 2])); clear hown hgrow hat hlt3) | (refine step_append_lies _ rfl _ _ 36 rfl 0 42 i0 (.agg #[.int .i64 0, .int .i64 0, .string ⟨#[]⟩, .string ⟨#[]⟩, .int .i64 0]) 5 56 Try.underlying36 HI.out.1 HI.out.2.1 HI.out.2.2.1 HI.out.2.2.2 rfl (by decide) (.slice (some ⟨(W5.heap.size + 1), 0, none⟩) 0 0) (0) ([]) (by first | rfl | (show Value.slice _ (0 + ms.length) _ = _; rw [Nat.zero_add])) (OC.out.rowS 0 (by simp) rfl) ⟨W5.heap.size, 0, none⟩ 2 2 (cellsM [dMk, markOf 2]) rfl rfl (fun j u hj => marks_news (OC.out.rowS 1 (by simp) rfl) j u hj) (cellsM_one _) (by omega) (by unfold maxLen; omega) (by omega) (Nat.zero_le _) _ rfl ?_; intro gF cF wF hown hgrow hat hlt3; have O4 := Lib.hid (OC.out.turnS (i := 0) (by simp) rfl hgrow hown hat); have I5 := Lib.hid (IsMarks.of_owns (ms := ([] : List Mk) ++ [dMk, markOf 2]) (by have h := ((OC.out.turnS (i := 0) (by simp) rfl hgrow hown hat).rowS 0 (by simp) rfl); simpa [cellsM_append] using h) : IsMarks wF (.slice (some ⟨gF, 0, none⟩) (0 + 2) cF) (([] : List Mk) ++ [dMk, markOf 2])); clear hown hgrow hat hlt3) | (refine step_append_zero rfl _ _ 36 rfl 0 42 i0 5 Try.underlying36 HI.out.1 (.slice (some ⟨W5.heap.size, 0, none⟩) 0 0) 0 [] rfl (OA.out.rowS 0 (by simp) rfl) ta tc rfl ?_) | (refine step_append_zero rfl _ _ 36 rfl 0 42 i0 5 Try.underlying36 HI.out.1 (.slice (some ⟨W5.heap.size, 0, none⟩) 0 0) 0 [] rfl (OB.out.rowS 1 (by simp) rfl) ta tc rfl ?_) | (refine step_append_zero rfl _ _ 36 rfl 0 42 i0 5 Try.underlying36 HI.out.1 (.slice (some ⟨(W5.heap.size + 1), 0, none⟩) 0 0) 0 [] rfl (OC.out.rowS 0 (by simp) rfl) ta tc rfl ?_))
          all_goals
            go_wp2
            go_meet
            case rel => exact ⟨by first | exact I5.out | simpa using I5.out, O4.out.keep⟩
        · have HN0 := Lib.hid ((MT.out W5 (Below.refl _ _)).news hnil)
          obtain ⟨g, off, rfl, -, -, -⟩ := HN0.out
          have HN : Hid (∀ V, Below W5.heap.size W5 V → ∀ j u, (cellsM ms)[j]? = some u → V.cell? ((⟨g, off, none⟩ : Addr).add j) = some u) := Lib.hid (fun V hV j u hj => by
            obtain ⟨g', off', e, -, -, h⟩ := (MT.out V hV).news hnil
            simp only [Option.some.injEq, Addr.mk.injEq, and_true] at e
            obtain ⟨rfl, rfl⟩ := e
            exact h j u hj)
          have hpos : 0 < ms.length := List.length_pos_iff.2 hnil
          clear HN0
          go_region_held3 (fun w' => w'.cell? ⟨b5, 0, none⟩ = some (.int .i64 0) ∧ w'.cell? ⟨b5, 1, none⟩ = some (.int .i64 0) ∧ w'.cell? ⟨b5, 2, none⟩ = some (.string ⟨#[100]⟩) ∧ w'.cell? ⟨b5, 3, none⟩ = some (.string ⟨#[]⟩) ∧ w'.cell? ⟨b5, 4, none⟩ = some (.int .i64 2))
            (first | exact HB.out _ O4.out.keep | exact HB.out _ O3.out.keep | exact HB.out _ O2.out.keep | exact HB.out _ OB.out.keep | exact HB.out _ OC.out.keep | exact HB.out _ OA.out.keep | exact HB.out _ OT.out.keep | exact HB.out _ OD.out.keep)
            (first | (refine step_append_lies _ rfl _ _ 36 rfl 0 42 i0 (.agg #[.int .i64 0, .int .i64 0, .string ⟨#[]⟩, .string ⟨#[]⟩, .int .i64 0]) 5 56 Try.underlying36 HI.out.1 HI.out.2.1 HI.out.2.2.1 HI.out.2.2.2 rfl (by decide) (.slice (some ⟨gE, 0, none⟩) ms.length cE) (ms.length) (cellsM ms) (by first | rfl | (show Value.slice _ (0 + ms.length) _ = _; rw [Nat.zero_add])) (O3.out.rowS 1 (by simp) rfl) ⟨wE.heap.size, 0, none⟩ 2 2 (cellsM [dMk, markOf 2]) rfl rfl (fun j u hj => new_news wE #[.int .i64 0, .int .i64 0, .string ⟨#[100]⟩, .string ⟨#[]⟩, .int .i64 2, .int .i64 2, .int .i64 0, .string ⟨#[]⟩, .string ⟨#[]⟩, .int .i64 0] _ _ rfl j u hj) (cellsM_one _) (by omega) (by unfold maxLen; omega) (by omega) (Nat.zero_le _) _ rfl ?_; intro gF cF wF hown hgrow hat hlt3; have O4 := Lib.hid (O3.out.turnS (i := 1) (by simp) rfl hgrow hown hat); have I5 := Lib.hid (IsMarks.of_owns (ms := ms ++ [dMk, markOf 2]) (by have h := ((O3.out.turnS (i := 1) (by simp) rfl hgrow hown hat).rowS 1 (by simp) rfl); simpa [cellsM_append] using h) : IsMarks wF (.slice (some ⟨gF, 0, none⟩) (ms.length + 2) cF) (ms ++ [dMk, markOf 2])); clear hown hgrow hat hlt3) | (refine step_append_lies _ rfl _ _ 36 rfl 0 42 i0 (.agg #[.int .i64 0, .int .i64 0, .string ⟨#[]⟩, .string ⟨#[]⟩, .int .i64 0]) 5 56 Try.underlying36 HI.out.1 HI.out.2.1 HI.out.2.2.1 HI.out.2.2.2 rfl (by decide) (.slice (some ⟨gE, 0, none⟩) ms.length cE) (ms.length) (cellsM ms) (by first | rfl | (show Value.slice _ (0 + ms.length) _ = _; rw [Nat.zero_add])) (O2.out.rowS 1 (by simp) rfl) ⟨(W5.heap.size + 1), 0, none⟩ 2 2 (cellsM [dMk, markOf 2]) rfl rfl (fun j u hj => marks_news (O2.out.rowS 0 (by simp) rfl) j u hj) (cellsM_one _) (by omega) (by unfold maxLen; omega) (by omega) (Nat.zero_le _) _ rfl ?_; intro gF cF wF hown hgrow hat hlt3; have O4 := Lib.hid (O2.out.turnS (i := 1) (by simp) rfl hgrow hown hat); have I5 := Lib.hid (IsMarks.of_owns (ms := ms ++ [dMk, markOf 2]) (by have h := ((O2.out.turnS (i := 1) (by simp) rfl hgrow hown hat).rowS 1 (by simp) rfl); simpa [cellsM_append] using h) : IsMarks wF (.slice (some ⟨gF, 0, none⟩) (ms.length + 2) cF) (ms ++ [dMk, markOf 2])); clear hown hgrow hat hlt3) | (refine step_append_lies _ rfl _ _ 36 rfl 0 42 i0 (.agg #[.int .i64 0, .int .i64 0, .string ⟨#[]⟩, .string ⟨#[]⟩, .int .i64 0]) 5 56 Try.underlying36 HI.out.1 HI.out.2.1 HI.out.2.2.1 HI.out.2.2.2 rfl (by decide) (.slice (some ⟨gE, 0, none⟩) ms.length cE) (ms.length) (cellsM ms) (by first | rfl | (show Value.slice _ (0 + ms.length) _ = _; rw [Nat.zero_add])) (O2.out.rowS 0 (by simp) rfl) ⟨W5.heap.size, 0, none⟩ 2 2 (cellsM [dMk, markOf 2]) rfl rfl (fun j u hj => marks_news (O2.out.rowS 1 (by simp) rfl) j u hj) (cellsM_one _) (by omega) (by unfold maxLen; omega) (by omega) (Nat.zero_le _) _ rfl ?_; intro gF cF wF hown hgrow hat hlt3; have O4 := Lib.hid (O2.out.turnS (i := 0) (by simp) rfl hgrow hown hat); have I5 := Lib.hid (IsMarks.of_owns (ms := ms ++ [dMk, markOf 2]) (by have h := ((O2.out.turnS (i := 0) (by simp) rfl hgrow hown hat).rowS 0 (by simp) rfl); simpa [cellsM_append] using h) : IsMarks wF (.slice (some ⟨gF, 0, none⟩) (ms.length + 2) cF) (ms ++ [dMk, markOf 2])); clear hown hgrow hat hlt3) | (refine step_append_lies _ rfl _ _ 36 rfl 0 42 i0 (.agg #[.int .i64 0, .int .i64 0, .string ⟨#[]⟩, .string ⟨#[]⟩, .int .i64 0]) 5 56 Try.underlying36 HI.out.1 HI.out.2.1 HI.out.2.2.1 HI.out.2.2.2 rfl (by decide) (.slice (some ⟨W5.heap.size, 0, none⟩) 0 0) 0 [] rfl (OA.out.rowS 0 (by simp) rfl) ⟨g, off, none⟩ ms.length tc (cellsM ms) rfl (cellsM_length ms) (fun j u hj => HN.out _ OA.out.keep j u hj) (cellsM_one ms) (by omega) (by unfold maxLen; omega) (by omega) (Nat.zero_le _) _ rfl ?_; intro gE cE wE hown hgrow hat hlt3; rw [Nat.zero_add, List.nil_append] at hown; have O2 := Lib.hid (OA.out.turnS (i := 0) (by simp) rfl hgrow hown hat); clear hown hgrow hat hlt3; have O3 := Lib.hid (O2.out.litS #[.int .i64 0, .int .i64 0, .string ⟨#[100]⟩, .string ⟨#[]⟩, .int .i64 2, .int .i64 2, .int .i64 0, .string ⟨#[]⟩, .string ⟨#[]⟩, .int .i64 0] 42 2 5 rfl (by unfold maxLen; omega))) | (refine step_append_lies _ rfl _ _ 36 rfl 0 42 i0 (.agg #[.int .i64 0, .int .i64 0, .string ⟨#[]⟩, .string ⟨#[]⟩, .int .i64 0]) 5 56 Try.underlying36 HI.out.1 HI.out.2.1 HI.out.2.2.1 HI.out.2.2.2 rfl (by decide) (.slice (some ⟨W5.heap.size, 0, none⟩) 0 0) 0 [] rfl (OB.out.rowS 1 (by simp) rfl) ⟨g, off, none⟩ ms.length tc (cellsM ms) rfl (cellsM_length ms) (fun j u hj => HN.out _ OB.out.keep j u hj) (cellsM_one ms) (by omega) (by unfold maxLen; omega) (by omega) (Nat.zero_le _) _ rfl ?_; intro gE cE wE hown hgrow hat hlt3; rw [Nat.zero_add, List.nil_append] at hown; have O2 := Lib.hid (OB.out.turnS (i := 1) (by simp) rfl hgrow hown hat); clear hown hgrow hat hlt3) | (refine step_append_lies _ rfl _ _ 36 rfl 0 42 i0 (.agg #[.int .i64 0, .int .i64 0, .string ⟨#[]⟩, .string ⟨#[]⟩, .int .i64 0]) 5 56 Try.underlying36 HI.out.1 HI.out.2.1 HI.out.2.2.1 HI.out.2.2.2 rfl (by decide) (.slice (some ⟨(W5.heap.size + 1), 0, none⟩) 0 0) 0 [] rfl (OC.out.rowS 0 (by simp) rfl) ⟨g, off, none⟩ ms.length tc (cellsM ms) rfl (cellsM_length ms) (fun j u hj => HN.out _ OC.out.keep j u hj) (cellsM_one ms) (by omega) (by unfold maxLen; omega) (by omega) (Nat.zero_le _) _ rfl ?_; intro gE cE wE hown hgrow hat hlt3; rw [Nat.zero_add, List.nil_append] at hown; have O2 := Lib.hid (OC.out.turnS (i := 0) (by simp) rfl hgrow hown hat); clear hown hgrow hat hlt3))
          all_goals
            go_wp2
            go_meet
            case rel => exact ⟨by first | exact I5.out | simpa using I5.out, O4.out.keep⟩
      case rest =>
        obtain ⟨hI9, hBl9⟩ := hcut
        have I9 := Lib.hid hI9
        replace I8 := Lib.hid (I8.out.below hBl9)
        have B6 := Lib.hid (B5.out.trans (hBl9.mono B5.out.size))
        replace MT := Lib.hid (fun V (h : Below wc.heap.size wc V) => MT.out V (hBl9.trans (h.mono hBl9.size)))
        replace HB := Lib.hid (fun V (h : Below wc.heap.size wc V) => HB.out V (hBl9.trans (h.mono hBl9.size)))
        clear hI9 hBl9 B5
        generalize wc = W6 at *
        go_upto_region 10 with fail
        go_cut [8] from 36 to 41 (fun v wx => IsMarks wx v (ms ++ [markOf 3]) ∧ Below W6.heap.size W6 wx)
        case first =>
          have OA : Hid (Own W6 [rowT 42 5 (.slice (some ⟨W6.heap.size, 0, none⟩) 0 0) 0 []] (W6.alloc (.cells #[] 42))) := Lib.hid ((Own.nil W6).litS #[] 42 0 5 rfl (Nat.zero_le _))
          have eA : (W6.alloc (.cells #[] 42)).heap.size = W6.heap.size + 1 := by simp
          by_cases hnil : ms = []
          · subst hnil
            have O3 : Hid (Own W6 [rowT 42 5 (.slice (some ⟨W6.heap.size + 1, 0, none⟩) 1 1) 1 #[.int .i64 3, .int .i64 0, .string ⟨#[]⟩, .string ⟨#[]⟩, .int .i64 0].toList, rowT 42 5 (.slice (some ⟨W6.heap.size, 0, none⟩) 0 0) 0 []] ((W6.alloc (.cells #[] 42)).alloc (.cells #[.int .i64 3, .int .i64 0, .string ⟨#[]⟩, .string ⟨#[]⟩, .int .i64 0] 42))) := Lib.hid (by have h := OA.out.litS #[.int .i64 3, .int .i64 0, .string ⟨#[]⟩, .string ⟨#[]⟩, .int .i64 0] 42 1 5 rfl (by unfold maxLen; omega); rw [eA] at h; exact h)
            go_wp2_with (first | (at_builtin; refine wpList_append_lies _ rfl _ _ 36 rfl 0 42 i0 (.agg #[.int .i64 0, .int .i64 0, .string ⟨#[]⟩, .string ⟨#[]⟩, .int .i64 0]) 5 56 Try.underlying36 HI.out.1 HI.out.2.1 HI.out.2.2.1 HI.out.2.2.2 rfl (by decide) (.slice (some ⟨W6.heap.size, 0, none⟩) 0 0) (0) ([]) (by first | rfl | (show Value.slice _ (0 + ms.length) _ = _; rw [Nat.zero_add])) (O3.out.rowS 1 (by simp) rfl) ⟨W6.heap.size + 1, 0, none⟩ 1 1 (cellsM [markOf 3]) rfl rfl (fun j u hj => marks_news (O3.out.rowS 0 (by simp) rfl) j u hj) (cellsM_one _) (by omega) (by unfold maxLen; omega) (by omega) (Nat.zero_le _) _ rfl ?_; intro gF cF wF hown hgrow hat hlt3; have O4 := Lib.hid (O3.out.turnS (i := 1) (by simp) rfl hgrow hown hat); have I5 := Lib.hid (IsMarks.of_owns (ms := ([] : List Mk) ++ [markOf 3]) (by have h := ((O3.out.turnS (i := 1) (by simp) rfl hgrow hown hat).rowS 1 (by simp) rfl); simpa [cellsM_append] using h) : IsMarks wF (.slice (some ⟨gF, 0, none⟩) (0 + 1) cF) (([] : List Mk) ++ [markOf 3])); clear hown hgrow hat hlt3) | (at_builtin; refine wpList_append_zero rfl _ _ 36 rfl 0 42 i0 5 Try.underlying36 HI.out.1 (.slice (some ⟨W6.heap.size, 0, none⟩) 0 0) 0 [] rfl (OA.out.rowS 0 (by simp) rfl) ta tc rfl ?_))
            go_meet
            case rel => exact ⟨by first | exact I5.out | simpa using I5.out, O4.out.keep⟩
          · have HN0 := Lib.hid ((MT.out W6 (Below.refl _ _)).news hnil)
            obtain ⟨g, off, rfl, -, -, -⟩ := HN0.out
            have HN : Hid (∀ V, Below W6.heap.size W6 V → ∀ j u, (cellsM ms)[j]? = some u → V.cell? ((⟨g, off, none⟩ : Addr).add j) = some u) := Lib.hid (fun V hV j u hj => by
              obtain ⟨g', off', e, -, -, h⟩ := (MT.out V hV).news hnil
              simp only [Option.some.injEq, Addr.mk.injEq, and_true] at e
              obtain ⟨rfl, rfl⟩ := e
              exact h j u hj)
            have hpos : 0 < ms.length := List.length_pos_iff.2 hnil
            clear HN0 hnil
            go_wp2_with (first | (at_builtin; refine wpList_append_lies _ rfl _ _ 36 rfl 0 42 i0 (.agg #[.int .i64 0, .int .i64 0, .string ⟨#[]⟩, .string ⟨#[]⟩, .int .i64 0]) 5 56 Try.underlying36 HI.out.1 HI.out.2.1 HI.out.2.2.1 HI.out.2.2.2 rfl (by decide) (.slice (some ⟨gE, 0, none⟩) ms.length cE) (ms.length) (cellsM ms) (by first | rfl | (show Value.slice _ (0 + ms.length) _ = _; rw [Nat.zero_add])) (O3.out.rowS 1 (by simp) rfl) ⟨wE.heap.size, 0, none⟩ 1 1 (cellsM [markOf 3]) rfl rfl (fun j u hj => new_news wE #[.int .i64 3, .int .i64 0, .string ⟨#[]⟩, .string ⟨#[]⟩, .int .i64 0] _ _ rfl j u hj) (cellsM_one _) (by omega) (by unfold maxLen; omega) (by omega) (Nat.zero_le _) _ rfl ?_; intro gF cF wF hown hgrow hat hlt3; have O4 := Lib.hid (O3.out.turnS (i := 1) (by simp) rfl hgrow hown hat); have I5 := Lib.hid (IsMarks.of_owns (ms := ms ++ [markOf 3]) (by have h := ((O3.out.turnS (i := 1) (by simp) rfl hgrow hown hat).rowS 1 (by simp) rfl); simpa [cellsM_append] using h) : IsMarks wF (.slice (some ⟨gF, 0, none⟩) (ms.length + 1) cF) (ms ++ [markOf 3])); clear hown hgrow hat hlt3) | (at_builtin; refine wpList_append_lies _ rfl _ _ 36 rfl 0 42 i0 (.agg #[.int .i64 0, .int .i64 0, .string ⟨#[]⟩, .string ⟨#[]⟩, .int .i64 0]) 5 56 Try.underlying36 HI.out.1 HI.out.2.1 HI.out.2.2.1 HI.out.2.2.2 rfl (by decide) (.slice (some ⟨W6.heap.size, 0, none⟩) 0 0) 0 [] rfl (OA.out.rowS 0 (by simp) rfl) ⟨g, off, none⟩ ms.length tc (cellsM ms) rfl (cellsM_length ms) (fun j u hj => HN.out _ OA.out.keep j u hj) (cellsM_one ms) (by omega) (by unfold maxLen; omega) (by omega) (Nat.zero_le _) _ rfl ?_; intro gE cE wE hown hgrow hat hlt3; rw [Nat.zero_add, List.nil_append] at hown; have O2 := Lib.hid (OA.out.turnS (i := 0) (by simp) rfl hgrow hown hat); have O3 := Lib.hid (O2.out.litS #[.int .i64 3, .int .i64 0, .string ⟨#[]⟩, .string ⟨#[]⟩, .int .i64 0] 42 1 5 rfl (by unfold maxLen; omega)); clear hown hgrow hat hlt3))
            go_meet
            case rel => exact ⟨by first | exact I5.out | simpa using I5.out, O4.out.keep⟩
        case rest =>
          obtain ⟨hI10, hBl10⟩ := hcut
          have I10 := Lib.hid hI10
          replace I8 := Lib.hid (I8.out.below hBl10)
          replace I9 := Lib.hid (I9.out.below hBl10)
          have B7 := Lib.hid (B6.out.trans (hBl10.mono B6.out.size))
          replace HB := Lib.hid (fun V (h : Below wc.heap.size wc V) => HB.out V (hBl10.trans (h.mono hBl10.size)))
          clear hI10 hBl10 B6 MT
          generalize wc = W7 at *
          go_upto_region 11 with fail
          obtain ⟨y0, y1, y2, y3, y4⟩ := HB.out W7 (Below.refl _ _)
          have IL := Lib.hid (IsMarks.of_owns (ms := [dMk]) (((Own.nil W7).litS #[.int .i64 0, .int .i64 0, .string ⟨#[100]⟩, .string ⟨#[]⟩, .int .i64 2] 42 1 5 rfl (by unfold maxLen; omega)).rowS 0 (by simp) rfl))
          have BL0 : Below W7.heap.size W7 (W7.alloc (.cells #[.int .i64 0, .int .i64 0, .string ⟨#[100]⟩, .string ⟨#[]⟩, .int .i64 2] 42)) := (Below.refl _ _).alloc (Nat.le_refl _) _
          have WD : ∀ m ∈ [dMk], m.wf := fun m h => by rw [List.mem_singleton] at h; subst h; exact ⟨rfl, rfl, by decide, by decide, rfl⟩
          have WF : ∀ k : Int, 1 ≤ k → k ≤ 3 → ∀ m ∈ ms ++ [dMk, markOf k], m.wf := fun k h1 h2 m h => by
            rcases List.mem_append.1 h with h | h
            · exact HWF.out m h
            · rw [List.mem_cons, List.mem_singleton] at h
              rcases h with rfl | rfl
              · exact WD _ (by simp)
              · exact markOf_wf k (by omega) (by omega)
          have WN : ∀ m ∈ ms ++ [markOf 3], m.wf := fun m h => by
            rcases List.mem_append.1 h with h | h
            · exact HWF.out m h
            · rw [List.mem_singleton] at h; subst h; exact markOf_wf 3 (by omega) (by omega)
          have W1H := Lib.hid (WF 1 (by omega) (by omega))
          have W2H := Lib.hid (WF 2 (by omega) (by omega))
          have WNH := Lib.hid WN
          have WDH := Lib.hid WD
          clear WD WF WN
          go_wp2_with fail
          refine (implTermOk_any [dMk] WDH.out _ _ IL.out).mono ?_
          rintro e w8 ⟨rfl, hb8⟩
          have hBL8 : Below W7.heap.size W7 w8 := BL0.trans (hb8.mono BL0.size)
          replace I8 := Lib.hid (I8.out.below hBL8)
          replace I9 := Lib.hid (I9.out.below hBL8)
          replace I10 := Lib.hid (I10.out.below hBL8)
          have B8 := Lib.hid (B7.out.trans (hBL8.mono B7.out.size))
          rw [term_one]
          clear hb8 hBL8 BL0 B7 IL y0 y1 y2 y3 y4 HB
          cases ok with
          | false =>
            have IE := Lib.hid (IsMarks.of_owns (ms := []) (((Own.nil w8).litS #[] 42 0 5 rfl (Nat.zero_le _)).rowS 0 (by simp) rfl))
            have BE := Lib.hid (B8.out.alloc B8.out.size (.cells #[] 42))
            go_wp2_with fail
            refine (implTermOk_any [] (fun m h => by cases h) _ _ IE.out).mono ?_
            rintro e wz ⟨rfl, hbz⟩
            have BZ := Lib.hid (BE.out.trans (hbz.mono BE.out.size))
            rw [term_none]
            clear hbz
            go_wp2_with (go_at_call 23; refine (aliveM_any _).mono ?_; rintro e w' ⟨rfl, rfl⟩)
            go_ret
            exact ⟨rfl, BZ.out⟩
          | true =>
            by_cases h7 : 7 < ms.length
            · have h7I : (7 : Int) < (ms.length : Int) := by omega
              have IE := Lib.hid (IsMarks.of_owns (ms := []) (((Own.nil w8).litS #[] 42 0 5 rfl (Nat.zero_le _)).rowS 0 (by simp) rfl))
              have BE := Lib.hid (B8.out.alloc B8.out.size (.cells #[] 42))
              go_wp2_with fail
              refine (implTermOk_any [] (fun m h => by cases h) _ _ IE.out).mono ?_
              rintro e wz ⟨rfl, hbz⟩
              have BZ := Lib.hid (BE.out.trans (hbz.mono BE.out.size))
              rw [term_none]
              clear hbz
              go_wp2_with (go_at_call 23; refine (aliveM_any _).mono ?_; rintro e w' ⟨rfl, rfl⟩)
              go_ret
              exact ⟨rfl, BZ.out⟩
            · have h7I : ¬ (7 : Int) < (ms.length : Int) := by omega
              have HT := Lib.hid (term_more HOK.out (by omega : ms.length ≤ 7))
              go_wp2_with fail
              refine (implTermOk_any (ms ++ [dMk, markOf 1]) W1H.out _ _ I8.out).mono ?_
              rintro e w9 ⟨rfl, hb9⟩
              replace I9 := Lib.hid (I9.out.below hb9)
              replace I10 := Lib.hid (I10.out.below hb9)
              have B9 := Lib.hid (B8.out.trans (hb9.mono B8.out.size))
              rw [HT.out.1]
              clear hb9 B8
              go_wp2_with fail
              refine (implTermOk_any (ms ++ [dMk, markOf 2]) W2H.out _ _ I9.out).mono ?_
              rintro e w10 ⟨rfl, hb10⟩
              replace I10 := Lib.hid (I10.out.below hb10)
              have B10 := Lib.hid (B9.out.trans (hb10.mono B9.out.size))
              rw [HT.out.2.1]
              clear hb10 B9
              go_wp2_with fail
              refine (implTermOk_any (ms ++ [markOf 3]) WNH.out _ _ I10.out).mono ?_
              rintro e w11 ⟨rfl, hb11⟩
              have B11 := Lib.hid (B10.out.trans (hb11.mono B10.out.size))
              rw [HT.out.2.2]
              clear hb11 B10
              have IE := Lib.hid (IsMarks.of_owns (ms := []) (((Own.nil w11).litS #[] 42 0 5 rfl (Nat.zero_le _)).rowS 0 (by simp) rfl))
              have BE := Lib.hid (B11.out.alloc B11.out.size (.cells #[] 42))
              go_wp2_with fail
              refine (implTermOk_any [] (fun m h => by cases h) _ _ IE.out).mono ?_
              rintro e wz ⟨rfl, hbz⟩
              have BZ := Lib.hid (BE.out.trans (hbz.mono BE.out.size))
              rw [term_none]
              clear hbz
              go_wp2_with (go_at_call 23; refine (aliveM_any _).mono ?_; rintro e w' ⟨rfl, rfl⟩)
              go_ret
              exact ⟨rfl, BZ.out⟩
end Go.Proofs.Ytpcependeealfaa
