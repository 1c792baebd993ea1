/- The contract of partsUnder. No condition. -/
import Derived.Test.YtlbblfbiiceofaaReadsM
import Derived.Test.YtlbblfbiiceofaaRules2
import Derived.Outline
import Derived.RegionTactic
namespace Go.Proofs.Ytlbblfbiiceofaa
open Go.RowKit

def UnderPost (m : Mk) (w : World) (e : Ending) (w' : World) : Prop := ∃ u : Int, e = .returned (.tuple #[.int .i64 u, .bool m.fine]) ∧ (m.fine = true → u = (m.under : Int)) ∧ Below w.heap.size w w'
theorem fine_void {k : Int} {r : Ru} (h : k = 1 ∨ k = 2 ∨ k = 3) : (Mk.mk k r).fine = r.isVoid := by
  rcases h with rfl | rfl | rfl <;> simp [Mk.fine]
theorem isVoid_parts (a : Int) (b c : ByteArray) (d : Int) : (Ru.mk a b c d).isVoid = ((a == 0) && (b.toList == []) && (c.toList == []) && (d == 0)) := by
  have e : ∀ t : ByteArray, noThen t = (t.toList == []) := fun t => by
    rw [ByteArray.toList_eq]
    cases t with
    | mk l => cases l with
      | mk l => cases l <;> simp [noThen]
  have f : ∀ x : Int, decide (x = 0) = (x == 0) := fun x => by by_cases h : x = 0 <;> simp [h]
  simp only [Ru.isVoid, e, f]

set_option maxHeartbeats 1600000 in
theorem partsUnder_any (m : Mk) (hm : m.wf) (w : World) : Calls Try.prog 88 #[m.val] w (UnderPost m w) := by
  obtain ⟨k, a, b, c, d⟩ := m
  obtain ⟨-, -, h1, h2, -⟩ := hm
  show Calls Try.prog _ #[.agg #[.int .i64 k, .int .i64 a, .string b, .string c, .int .i64 d]] w _
  by_cases k0 : k = 0
  · subst k0
    have HF : Hid ((Mk.mk 0 ⟨a, b, c, d⟩).fine = (Ru.mk a b c d).ok) := Lib.hid (by simp [Mk.fine])
    have HU : Hid ((Mk.mk 0 ⟨a, b, c, d⟩).under = 0) := Lib.hid (by simp [Mk.under])
    go_enter Try.func88, Try.ntmps88
    go_wp2_with (go_at_call 89; refine (implRuleOk_any a b c d _ h1 h2).mono ?_; rintro e w' ⟨rfl, hb⟩)
    go_ret2
    exact ⟨0, by rw [HF.out]; rfl, fun _ => by rw [HU.out]; rfl, (Go.Joins.below_alloc1 _ _).trans (hb.mono (by simp))⟩
  · by_cases k123 : k = 1 ∨ k = 2 ∨ k = 3
    · have HF : Hid ((Mk.mk k ⟨a, b, c, d⟩).fine = ((a == 0) && (b.toList == []) && (c.toList == []) && (d == 0))) := Lib.hid (by rw [fine_void k123, isVoid_parts])
      have HU : Hid (((Mk.mk k ⟨a, b, c, d⟩).under : Int) = if k = 3 then 1 else 2) := Lib.hid (by simp only [Mk.under]; rw [if_neg k0]; split <;> rfl)
      have hveq : ∀ W : World, (if a = 0 then if b.toList = [] then if c.toList = [] then if d = 0 then Result.ok (Next.value (Value.bool true)) W else Result.ok (Next.value (Value.bool false)) W else Result.ok (Next.value (Value.bool false)) W else Result.ok (Next.value (Value.bool false)) W else Result.ok (Next.value (Value.bool false)) W) = Result.ok (Next.value (Value.bool (Mk.mk k ⟨a, b, c, d⟩).fine)) W := fun W => by
        rw [HF.out]
        by_cases ha : a = 0
        · by_cases hb : b.toList = []
          · by_cases hc : c.toList = []
            · by_cases hd : d = 0
              · simp [ha, hb, hc, hd]
              · simp [ha, hb, hc, hd]
            · simp [ha, hb, hc]
          · simp [ha, hb]
        · simp [ha]
      clear k0 HF
      generalize hfb : (Mk.mk k ⟨a, b, c, d⟩).fine = fb at *
      have HFB := Lib.hid hfb
      clear hfb
      rcases k123 with rfl | rfl | rfl
      · go_enter Try.func88, Try.ntmps88
        go_wp2_with fail
        go_region
        go_wp2_with fail
        go_ret2
        exact ⟨2, by rw [HFB.out]; rfl, fun _ => by rw [HU.out]; rfl, (Go.Joins.below_alloc1 _ _).drew⟩
      · go_enter Try.func88, Try.ntmps88
        go_wp2_with fail
        go_region
        go_wp2_with fail
        go_ret2
        exact ⟨2, by rw [HFB.out]; rfl, fun _ => by rw [HU.out]; rfl, (Go.Joins.below_alloc1 _ _).drew⟩
      · go_enter Try.func88, Try.ntmps88
        go_wp2_with fail
        go_region
        go_wp2_with fail
        go_ret2
        exact ⟨1, by rw [HFB.out]; rfl, fun _ => by rw [HU.out]; rfl, (Go.Joins.below_alloc1 _ _).drew⟩
    · have HF : Hid ((Mk.mk k ⟨a, b, c, d⟩).fine = false) := Lib.hid (by simp only [Mk.fine]; rw [if_neg k0, if_neg k123])
      have e1 : (k == 0) = false := by simpa using k0
      have e2 : (k == 1) = false := by simp; omega
      have e3 : (k == 2) = false := by simp; omega
      have e4 : (k == 3) = false := by simp; omega
      clear k0 k123
      go_enter Try.func88, Try.ntmps88
      go_wp2_with fail
      go_ret2
      exact ⟨0, by rw [HF.out]; rfl, (fun h => absurd h (by rw [HF.out]; decide)), Go.Joins.below_alloc1 _ _⟩
end Go.Proofs.Ytlbblfbiiceofaa
