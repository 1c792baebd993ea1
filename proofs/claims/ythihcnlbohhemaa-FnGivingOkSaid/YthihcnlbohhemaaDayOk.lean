/- DayOk on both sides: what it returns, for every day. No condition. -/
import Derived.Test.YthihcnlbohhemaaDayBits
import Derived.Test.YthihcnlbohhemaaDayLaw
import Derived.Test.YthihcnlbohhemaaMachOk
namespace Go.Proofs.Ythihcnlbohhemaa
open Go.RowKit

theorem can_step (xs : List Int) (n : Int) (k : Nat) (h : k < xs.length) : (xs.take (k + 1)).all (canOk n) = ((xs.take k).all (canOk n) && canOk n xs[k]) := by
  rw [List.take_succ_eq_append_getElem h, List.all_append, List.all_cons, List.all_nil, Bool.and_true]
theorem can_false (xs : List Int) (n : Int) (k : Nat) (h : k < xs.length) (hf : canOk n xs[k] = false) : xs.all (canOk n) = false := by
  rw [List.all_eq_false]; exact ⟨xs[k], List.getElem_mem h, by simp [hf]⟩

set_option maxHeartbeats 1600000 in
theorem specDayOk_any (ppl : Int) (xs : List Int) (cv : Value) (w : World) (h1 : IsInts w cv xs) :
    Calls Try.prog 40 #[.agg #[.int .i64 ppl, cv]] w fun e w' => e = .returned (.bool (D.ok ⟨ppl, xs⟩)) ∧ Below w.heap.size w w' := by
  obtain ⟨a, cap, rfl, ha1, ha2, ha⟩ := h1
  unfold maxLen at ha2
  have HA := Lib.hid ha
  clear ha
  by_cases hin : (decide (0 ≤ ppl) && decide (ppl ≤ 6)) = true
  · by_cases hl : xs.length ≤ 5
    · have hl' : ¬ (5 : Int) < xs.length := by omega
      have HS : Hid (D.ok ⟨ppl, xs⟩ = xs.all (canOk ppl)) := by
        have : D.ok ⟨ppl, xs⟩ = xs.all (canOk ppl) := by simp only [D.ok, hin, hl, decide_true, Bool.true_and]
        exact Lib.hid this
      obtain ⟨n, rfl⟩ : ∃ n : Nat, ppl = n := ⟨ppl.toNat, by simp at hin; omega⟩
      have hn : n ≤ 6 := by simp at hin; omega
      have hn64 : n < 64 := by omega
      have hP : ∃ P : Int, (2 : Int) ^ n = P ∧ 1 ≤ P ∧ P ≤ 64 := by
        have : ∀ n : Nat, n ≤ 6 → (1 : Int) ≤ 2 ^ n ∧ (2 : Int) ^ n ≤ 64 := by decide
        exact ⟨_, rfl, (this n hn).1, (this n hn).2⟩
      obtain ⟨P, hP, hP1, hP2⟩ := hP
      have HP : Hid (∀ c : Int, canOk n c = (decide (0 ≤ c) && decide (c ≤ P - 1))) := by
        have : ∀ c : Int, canOk n c = (decide (0 ≤ c) && decide (c ≤ P - 1)) := fun c => by rw [canOk, Int.toNat_natCast, hP]
        exact Lib.hid this
      have hq1 : IntKind.i64.wrap P = P := IntWalk.i64_in _ (by omega)
      have hq2 : IntKind.i64.wrap (P - 1) = P - 1 := IntWalk.i64_in _ (by omega)
      clear hl
      go_enter Try.func40, Try.ntmps40
      go_wp2_with (go_at_call 72; refine (l1In_any _ _ _ _).mono ?_; rintro e w' ⟨rfl, rfl⟩)
      go_loopw [3] (fun i wr => ∃ k : Nat, k ≤ xs.length ∧ i = .int .i64 k ∧ (xs.take k).all (canOk n) = true ∧ ∃ d, wr = (w.alloc (.cells #[.int .i64 n, .slice a xs.length cap] 44)).drewN d) (fun i _ => xs.length - (intOf i).toNat)
      case atStart => exact ⟨0, Nat.zero_le _, rfl, rfl, 0, rfl⟩
      case round =>
        obtain ⟨k, hk, rfl, hall, d, rfl⟩ := hrel
        have HL := Lib.hid hall
        clear hall
        have hbel : Below w.heap.size w ((w.alloc (.cells #[.int .i64 n, .slice a xs.length cap] 44)).drewN d) := below_drewN ((Below.refl _ _).alloc (Nat.le_refl _) _) d
        have hx0 : ((w.alloc (.cells #[.int .i64 n, .slice a xs.length cap] 44)).drewN d).cell? ⟨w.heap.size, 0, none⟩ = some (.int .i64 n) := World.cell?_alloc_new w _ _ 0
        have hx1 : ((w.alloc (.cells #[.int .i64 n, .slice a xs.length cap] 44)).drewN d).cell? ⟨w.heap.size, 1, none⟩ = some (.slice a xs.length cap) := World.cell?_alloc_new w _ _ 1
        by_cases hlt : k < xs.length
        · obtain ⟨g, off, rfl, hg, hc⟩ := HA.out.resolve_left (fun h => by rw [h] at hlt; exact absurd hlt (Nat.not_lt_zero k))
          have hcell := (hbel.cell (p := ⟨g, off + k, none⟩) hg).trans (hc k hlt)
          have HW : Hid (∀ m, ∃ n', (((w.alloc (.cells #[.int .i64 n, .slice (some ⟨g, off, none⟩) xs.length cap] 44)).drewN d).drewN m) = (w.alloc (.cells #[.int .i64 n, .slice (some ⟨g, off, none⟩) xs.length cap] 44)).drewN n') := by
            have := fun m => (⟨d + m, by rw [World.drewN_drewN]⟩ : ∃ n', (((w.alloc (.cells #[.int .i64 n, .slice (some ⟨g, off, none⟩) xs.length cap] 44)).drewN d).drewN m) = (w.alloc (.cells #[.int .i64 n, .slice (some ⟨g, off, none⟩) xs.length cap] 44)).drewN n')
            exact Lib.hid this
          generalize ((w.alloc (.cells #[.int .i64 n, .slice (some ⟨g, off, none⟩) xs.length cap] 44)).drewN d) = W at hbel hx0 hx1 hcell HW ⊢
          clear hc
          have HSTEP := Lib.hid (can_step xs n k hlt)
          have HFALSE := Lib.hid (can_false xs n k hlt)
          generalize xs[k] = c at hcell HSTEP HFALSE
          by_cases hb : canOk n c = true
          · have hb' : (decide (0 ≤ c) && decide (c ≤ P - 1)) = true := by rw [← HP.out]; exact hb
            have HB := Lib.hid hb
            clear hb
            go_wp2
            go_quiet ((go_at_call 72; exact Calls.quiet_of_same (l1In_same _ _ _ _)))
            go_wp2
            go_roundw
            case rel => exact ⟨k + 1, by omega, by go_num, by rw [HSTEP.out, HL.out, HB.out]; rfl, HW.out _⟩
            case measure => simp [intOf]; omega
          · have hbf : canOk n c = false := by simpa using hb
            have hb' : (decide (0 ≤ c) && decide (c ≤ P - 1)) = false := by rw [← HP.out]; exact hbf
            have HB := Lib.hid hbf
            clear hb hbf
            go_wp2
            go_quiet ((go_at_call 72; exact Calls.quiet_of_same (l1In_same _ _ _ _)))
            go_wp2
            go_ret
            exact ⟨ret_bool (by rw [HS.out, HFALSE.out HB.out]), below_drewN hbel _⟩
        · obtain rfl : k = xs.length := by omega
          go_wp2
          go_ret
          exact ⟨ret_bool (by rw [HS.out, ← HL.out, List.take_length]), hbel⟩
    · have HS : Hid (D.ok ⟨ppl, xs⟩ = false) := by
        have : D.ok ⟨ppl, xs⟩ = false := by simp [D.ok, hl]
        exact Lib.hid this
      have hl' : (5 : Int) < xs.length := by omega
      clear hl
      go_enter Try.func40, Try.ntmps40
      go_wp2_with (go_at_call 72; refine (l1In_any _ _ _ _).mono ?_; rintro e w' ⟨rfl, rfl⟩)
      go_ret
      exact ⟨ret_bool HS.out.symm, (Below.refl _ _).alloc (Nat.le_refl _) _⟩
  · have hin' : (decide (0 ≤ ppl) && decide (ppl ≤ 6)) = false := by simpa using hin
    have HS : Hid (D.ok ⟨ppl, xs⟩ = false) := by
      have : D.ok ⟨ppl, xs⟩ = false := by simp only [D.ok, hin', Bool.false_and]
      exact Lib.hid this
    clear hin
    go_enter Try.func40, Try.ntmps40
    go_wp2_with (go_at_call 72; refine (l1In_any _ _ _ _).mono ?_; rintro e w' ⟨rfl, rfl⟩)
    go_ret
    exact ⟨ret_bool HS.out.symm, (Below.refl _ _).alloc (Nat.le_refl _) _⟩

set_option maxHeartbeats 1600000 in
theorem implDayOk_any (ppl : Int) (xs : List Int) (cv : Value) (w : World) (h1 : IsInts w cv xs) :
    Calls Try.prog 39 #[.agg #[.int .i64 ppl, cv]] w fun e w' => e = .returned (.bool (D.ok ⟨ppl, xs⟩)) ∧ Below w.heap.size w w' := by
  obtain ⟨a, cap, rfl, ha1, ha2, ha⟩ := h1
  unfold maxLen at ha2
  have HA := Lib.hid ha
  clear ha
  by_cases hi1 : ppl < 0
  · have HS : Hid (D.ok ⟨ppl, xs⟩ = false) := by
      have : D.ok ⟨ppl, xs⟩ = false := by simp [D.ok]; omega
      exact Lib.hid this
    go_enter Try.func39, Try.ntmps39
    go_wp2
    go_ret
    exact ⟨ret_bool HS.out.symm, (Below.refl _ _).alloc (Nat.le_refl _) _⟩
  by_cases hi2 : 6 < ppl
  · have HS : Hid (D.ok ⟨ppl, xs⟩ = false) := by
      have : D.ok ⟨ppl, xs⟩ = false := by simp [D.ok]; omega
      exact Lib.hid this
    go_enter Try.func39, Try.ntmps39
    go_wp2
    go_ret
    exact ⟨ret_bool HS.out.symm, (Below.refl _ _).alloc (Nat.le_refl _) _⟩
  have hin : (decide (0 ≤ ppl) && decide (ppl ≤ 6)) = true := by simp; omega
  by_cases hl : xs.length ≤ 5
  · have hl' : ¬ (5 : Int) < xs.length := by omega
    have HS : Hid (D.ok ⟨ppl, xs⟩ = xs.all (canOk ppl)) := by
      have : D.ok ⟨ppl, xs⟩ = xs.all (canOk ppl) := by simp only [D.ok, hin, hl, decide_true, Bool.true_and]
      exact Lib.hid this
    obtain ⟨n, rfl⟩ : ∃ n : Nat, ppl = n := ⟨ppl.toNat, by omega⟩
    have hn : n ≤ 6 := by omega
    have hn64 : n < 64 := by omega
    have hP : ∃ P : Int, (2 : Int) ^ n = P ∧ 1 ≤ P ∧ P ≤ 64 := by
      have : ∀ n : Nat, n ≤ 6 → (1 : Int) ≤ 2 ^ n ∧ (2 : Int) ^ n ≤ 64 := by decide
      exact ⟨_, rfl, (this n hn).1, (this n hn).2⟩
    obtain ⟨P, hP, hP1, hP2⟩ := hP
    have HP : Hid (∀ c : Int, canOk n c = (decide (0 ≤ c) && decide (c ≤ P - 1))) := by
      have : ∀ c : Int, canOk n c = (decide (0 ≤ c) && decide (c ≤ P - 1)) := fun c => by rw [canOk, Int.toNat_natCast, hP]
      exact Lib.hid this
    have hq1 : IntKind.i64.wrap P = P := IntWalk.i64_in _ (by omega)
    clear hl hin
    go_enter Try.func39, Try.ntmps39
    go_wp2
    go_loopw [22] (fun i wr => ∃ k : Nat, k ≤ xs.length ∧ i = .int .i64 k ∧ (xs.take k).all (canOk n) = true ∧ wr = (w.alloc (.cells #[.int .i64 n, .slice a xs.length cap] 44))) (fun i _ => xs.length - (intOf i).toNat)
    case atStart => exact ⟨0, Nat.zero_le _, rfl, rfl, rfl⟩
    case round =>
      obtain ⟨k, hk, rfl, hall, rfl⟩ := hrel
      have HL := Lib.hid hall
      clear hall
      have hbel : Below w.heap.size w ((w.alloc (.cells #[.int .i64 n, .slice a xs.length cap] 44))) := ((Below.refl _ _).alloc (Nat.le_refl _) _)
      have hx0 : ((w.alloc (.cells #[.int .i64 n, .slice a xs.length cap] 44))).cell? ⟨w.heap.size, 0, none⟩ = some (.int .i64 n) := World.cell?_alloc_new w _ _ 0
      by_cases hlt : k < xs.length
      · obtain ⟨g, off, rfl, hg, hc⟩ := HA.out.resolve_left (fun h => by rw [h] at hlt; exact absurd hlt (Nat.not_lt_zero k))
        have hcell := (hbel.cell (p := ⟨g, off + k, none⟩) hg).trans (hc k hlt)
        clear hc
        have HSTEP := Lib.hid (can_step xs n k hlt)
        have HFALSE := Lib.hid (can_false xs n k hlt)
        generalize xs[k] = c at hcell HSTEP HFALSE
        have HC := Lib.hid (HP.out c)
        by_cases hb1 : c < 0
        · have HB : Hid (canOk n c = false) := by
            have : canOk n c = false := by rw [HC.out]; simp; omega
            exact Lib.hid this
          go_wp2
          go_ret
          exact ⟨ret_bool (by rw [HS.out, HFALSE.out HB.out]), hbel⟩
        · by_cases hb2 : P ≤ c
          · have HB : Hid (canOk n c = false) := by
              have : canOk n c = false := by rw [HC.out]; simp; omega
              exact Lib.hid this
            go_wp2
            go_ret
            exact ⟨ret_bool (by rw [HS.out, HFALSE.out HB.out]), hbel⟩
          · have HB : Hid (canOk n c = true) := by
              have : canOk n c = true := by rw [HC.out]; simp; omega
              exact Lib.hid this
            go_wp2
            go_roundw
            case rel => exact ⟨k + 1, by omega, by go_num, by rw [HSTEP.out, HL.out, HB.out]; rfl, trivial⟩
            case measure => simp [intOf]; omega
      · obtain rfl : k = xs.length := by omega
        go_wp2
        go_ret
        exact ⟨ret_bool (by rw [HS.out, ← HL.out, List.take_length]), hbel⟩
  · have HS : Hid (D.ok ⟨ppl, xs⟩ = false) := by
      have : D.ok ⟨ppl, xs⟩ = false := by simp [D.ok, hl]
      exact Lib.hid this
    have hl' : (5 : Int) < xs.length := by omega
    clear hl
    go_enter Try.func39, Try.ntmps39
    go_wp2
    go_ret
    exact ⟨ret_bool HS.out.symm, (Below.refl _ _).alloc (Nat.le_refl _) _⟩
end Go.Proofs.Ythihcnlbohhemaa
