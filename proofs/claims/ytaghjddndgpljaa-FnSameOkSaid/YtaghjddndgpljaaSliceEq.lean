/- slices.Equal over numbers and over bools: equal lists. No condition. -/
import Derived.Test.YtaghjddndgpljaaImplMachOk
import Derived.Deep.QuietTactic
import Derived.BigQuiet
import Derived.IntWalk
namespace Go.Proofs.Ytaghjddndgpljaa
open Go.RowKit

theorem below_drewN' {w : World} (d : Nat) : Below w.heap.size w (w.drewN d) := ⟨rfl, rfl, rfl, Nat.le_refl _, fun _ _ => rfl⟩
theorem take_one_more {α : Type} {xs ys : List α} {k : Nat} (hx : k < xs.length) (hy : k < ys.length) (h : xs.take k = ys.take k) (e : xs[k] = ys[k]) : xs.take (k + 1) = ys.take (k + 1) := by
  rw [List.take_succ_eq_append_getElem hx, List.take_succ_eq_append_getElem hy, h, e]

set_option maxHeartbeats 1600000 in
theorem slEqInt_any (v1 v2 : Value) (xs ys : List Int) (w : World) (h1 : IsInts w v1 xs) (h2 : IsInts w v2 ys) :
    Calls Try.prog 63 #[v1, v2] w fun e w' => e = .returned (.bool (decide (xs = ys))) ∧ Below w.heap.size w w' := by
  obtain ⟨a1, c1, rfl, d1, e1, r1⟩ := h1
  obtain ⟨a2, c2, rfl, d2, e2, r2⟩ := h2
  unfold maxLen at e1 e2
  by_cases hne : xs.length = ys.length
  · have hb : ((xs.length : Int) != (ys.length : Int)) = false := by simp [hne]
    have HL := Lib.hid hne
    clear hne
    go_enter Try.func63, Try.ntmps63
    go_wp2_with fail
    go_loopw [13] (fun i wr => ∃ k d : Nat, k ≤ xs.length ∧ i = .int .i64 (k : Int) ∧ xs.take k = ys.take k ∧ wr = w.drewN d) (fun i _ => xs.length - (intOf i).toNat)
    case atStart => exact ⟨0, 0, Nat.zero_le _, rfl, rfl, rfl⟩
    case round =>
      obtain ⟨k, d, hk, rfl, ht, rfl⟩ := hrel
      have HT := Lib.hid ht
      clear ht
      by_cases hlt : k < xs.length
      · have hly : k < ys.length := by have := HL.out; omega
        obtain ⟨g1, o1, rfl, -, hc1⟩ := r1.resolve_left (fun h => by rw [h] at hlt; exact absurd hlt (Nat.not_lt_zero k))
        obtain ⟨g2, o2, rfl, -, hc2⟩ := r2.resolve_left (fun h => by rw [h] at hly; exact absurd hly (Nat.not_lt_zero k))
        have hx : (w.drewN d).cell? ⟨g1, o1 + k, none⟩ = some (.int .i64 xs[k]) := hc1 k hlt
        have hy : (w.drewN d).cell? ⟨g2, o2 + k, none⟩ = some (.int .i64 ys[k]) := hc2 k hly
        have hki : (k : Int) < (xs.length : Int) := by omega
        have hkj : (k : Int) < (ys.length : Int) := by omega
        have HSU := Lib.hid (take_one_more hlt hly HT.out)
        have HNE : Hid (xs[k] ≠ ys[k] → xs ≠ ys) := Lib.hid (fun h e => h (by subst e; rfl))
        have HW : Hid (∀ q, ∃ d', (w.drewN d).drewN q = w.drewN d') := Lib.hid (fun q => ⟨d + q, by rw [World.drewN_drewN]⟩)
        have HBW := Lib.hid (below_drewN' (w := w) d)
        generalize w.drewN d = W at hx hy HW HBW ⊢
        generalize xs[k] = x at *
        generalize ys[k] = y at *
        clear hc1 hc2
        by_cases hxy : x = y
        · have hq : (x != y) = false := by simp [hxy]
          have HS := Lib.hid (HSU.out hxy)
          clear hxy HSU HNE
          go_wp2_with fail
          go_quiet (fail)
          go_wp2_with fail
          go_roundw
          case rel => exact ⟨k + 1, _, by omega, by go_num, HS.out, (HW.out _).choose_spec⟩
          case measure => simp [intOf]; omega
        · have hq : (x != y) = true := by simpa using hxy
          have HS := Lib.hid (HNE.out hxy)
          clear hxy HSU HNE
          go_wp2_with fail
          go_quiet (fail)
          go_wp2_with fail
          go_ret
          exact ⟨ret_bool (decide_eq_false HS.out).symm, HBW.out.trans (below_drewN' _ |>.mono HBW.out.size)⟩
      · obtain rfl : k = xs.length := by omega
        have HE : Hid (xs = ys) := Lib.hid (by
          have := HT.out
          rwa [List.take_of_length_le (Nat.le_refl _), List.take_of_length_le (by have := HL.out; omega)] at this)
        go_wp2_with fail
        go_ret
        exact ⟨ret_bool (decide_eq_true HE.out).symm, below_drewN' d⟩
  · have hb : ((xs.length : Int) != (ys.length : Int)) = true := by simp; omega
    have HE : Hid (xs ≠ ys) := Lib.hid (fun e => hne (by rw [e]))
    clear hne
    go_enter Try.func63, Try.ntmps63
    go_wp2_with fail
    go_ret
    exact ⟨ret_bool (decide_eq_false HE.out).symm, Below.refl _ _⟩
set_option maxHeartbeats 1600000 in
theorem slEqBool_any (v1 v2 : Value) (xs ys : List Bool) (w : World) (h1 : IsBools w v1 xs) (h2 : IsBools w v2 ys) :
    Calls Try.prog 64 #[v1, v2] w fun e w' => e = .returned (.bool (decide (xs = ys))) ∧ Below w.heap.size w w' := by
  obtain ⟨a1, c1, rfl, d1, e1, r1⟩ := h1
  obtain ⟨a2, c2, rfl, d2, e2, r2⟩ := h2
  unfold maxLen at e1 e2
  by_cases hne : xs.length = ys.length
  · have hb : ((xs.length : Int) != (ys.length : Int)) = false := by simp [hne]
    have HL := Lib.hid hne
    clear hne
    go_enter Try.func64, Try.ntmps64
    go_wp2_with fail
    go_loopw [13] (fun i wr => ∃ k d : Nat, k ≤ xs.length ∧ i = .int .i64 (k : Int) ∧ xs.take k = ys.take k ∧ wr = w.drewN d) (fun i _ => xs.length - (intOf i).toNat)
    case atStart => exact ⟨0, 0, Nat.zero_le _, rfl, rfl, rfl⟩
    case round =>
      obtain ⟨k, d, hk, rfl, ht, rfl⟩ := hrel
      have HT := Lib.hid ht
      clear ht
      by_cases hlt : k < xs.length
      · have hly : k < ys.length := by have := HL.out; omega
        obtain ⟨g1, o1, rfl, -, hc1⟩ := r1.resolve_left (fun h => by rw [h] at hlt; exact absurd hlt (Nat.not_lt_zero k))
        obtain ⟨g2, o2, rfl, -, hc2⟩ := r2.resolve_left (fun h => by rw [h] at hly; exact absurd hly (Nat.not_lt_zero k))
        have hx : (w.drewN d).cell? ⟨g1, o1 + k, none⟩ = some (.bool xs[k]) := hc1 k hlt
        have hy : (w.drewN d).cell? ⟨g2, o2 + k, none⟩ = some (.bool ys[k]) := hc2 k hly
        have hki : (k : Int) < (xs.length : Int) := by omega
        have hkj : (k : Int) < (ys.length : Int) := by omega
        have HSU := Lib.hid (take_one_more hlt hly HT.out)
        have HNE : Hid (xs[k] ≠ ys[k] → xs ≠ ys) := Lib.hid (fun h e => h (by subst e; rfl))
        have HW : Hid (∀ q, ∃ d', (w.drewN d).drewN q = w.drewN d') := Lib.hid (fun q => ⟨d + q, by rw [World.drewN_drewN]⟩)
        have HBW := Lib.hid (below_drewN' (w := w) d)
        generalize w.drewN d = W at hx hy HW HBW ⊢
        generalize xs[k] = x at *
        generalize ys[k] = y at *
        clear hc1 hc2
        match x, y with
        | false, false =>
          have HS := Lib.hid (HSU.out rfl)
          clear HSU HNE
          go_wp2_with fail
          go_quiet (fail)
          go_wp2_with fail
          go_roundw
          case rel => exact ⟨k + 1, _, by omega, by go_num, HS.out, (HW.out _).choose_spec⟩
          case measure => simp [intOf]; omega
        | true, true =>
          have HS := Lib.hid (HSU.out rfl)
          clear HSU HNE
          go_wp2_with fail
          go_quiet (fail)
          go_wp2_with fail
          go_roundw
          case rel => exact ⟨k + 1, _, by omega, by go_num, HS.out, (HW.out _).choose_spec⟩
          case measure => simp [intOf]; omega
        | false, true =>
          have HS := Lib.hid (HNE.out (by decide))
          clear HSU HNE
          go_wp2_with fail
          go_quiet (fail)
          go_wp2_with fail
          go_ret
          exact ⟨ret_bool (decide_eq_false HS.out).symm, HBW.out.trans (below_drewN' _ |>.mono HBW.out.size)⟩
        | true, false =>
          have HS := Lib.hid (HNE.out (by decide))
          clear HSU HNE
          go_wp2_with fail
          go_quiet (fail)
          go_wp2_with fail
          go_ret
          exact ⟨ret_bool (decide_eq_false HS.out).symm, HBW.out.trans (below_drewN' _ |>.mono HBW.out.size)⟩
      · obtain rfl : k = xs.length := by omega
        have HE : Hid (xs = ys) := Lib.hid (by
          have := HT.out
          rwa [List.take_of_length_le (Nat.le_refl _), List.take_of_length_le (by have := HL.out; omega)] at this)
        go_wp2_with fail
        go_ret
        exact ⟨ret_bool (decide_eq_true HE.out).symm, below_drewN' d⟩
  · have hb : ((xs.length : Int) != (ys.length : Int)) = true := by simp; omega
    have HE : Hid (xs ≠ ys) := Lib.hid (fun e => hne (by rw [e]))
    clear hne
    go_enter Try.func64, Try.ntmps64
    go_wp2_with fail
    go_ret
    exact ⟨ret_bool (decide_eq_false HE.out).symm, Below.refl _ _⟩
end Go.Proofs.Ytaghjddndgpljaa
