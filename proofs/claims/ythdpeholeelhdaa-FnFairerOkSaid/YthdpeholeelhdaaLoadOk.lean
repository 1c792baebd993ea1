/- LoadsOk of the program and of the model: what each returns, for every row. No condition. -/
import Derived.Test.YthdpeholeelhdaaLoadIns
import Derived.Test.YthdpeholeelhdaaRolled
import Derived.Deep.RegionWith
namespace Go.Proofs.Ythdpeholeelhdaa
open Go.RowKit

theorem l1In_sameL (n lo hi : Int) (w : World) :
    Calls Try.prog 53 #[.int .i64 n, .int .i64 lo, .int .i64 hi] w fun e w' => e = .returned (.bool (decide (lo ≤ n) && decide (n ≤ hi))) ∧ w' = w := (l1In_any n lo hi w).mono fun _ _ ⟨h, g⟩ => ⟨h, g.symm⟩

/-- a number that is no load -/
def badL (x : Int) : Bool := decide (x < 0) || decide (30 < x)
theorem badL_not (x : Int) : badL x = !loadOk x := by
  unfold badL loadOk
  by_cases h1 : x < 0 <;> by_cases h2 : 30 < x <;> simp [h1, h2] <;> omega
theorem badL_any (W : World) (x : Int) : Calls Try.prog 52 #[.int .i64 x] W fun e w' => e = .returned (.bool (badL x)) ∧ ∃ q, w' = W.drewN q := by
  unfold badL
  by_cases h1 : x < 0
  · go_enter Try.func52, Try.ntmps52
    go_wp2
    go_ret
    exact ⟨by simp [h1], 0, rfl⟩
  · by_cases h2 : 30 < x
    · go_enter Try.func52, Try.ntmps52
      go_wp2
      go_ret
      exact ⟨by simp, 0, rfl⟩
    · go_enter Try.func52, Try.ntmps52
      go_wp2
      go_ret
      exact ⟨by simp [h1, h2], 0, rfl⟩
theorem badL_at (w : World) : PredAt Try.prog 52 #[] (Value.int .i64) badL w := fun W x _ => badL_any W x

/-- the row is looked through: whether some number is no load -/
theorem contF_any (v : Value) (xs : List Int) (w : World) (h : IsInts w v xs) (hx : xs.length ≤ 6) :
    Calls Try.prog 51 #[v, .func (.func 52) #[] #[]] w fun e w' => e = .returned (.bool (xs.any badL)) ∧ ∃ n, w' = w.drewN n := by
  obtain ⟨a, cap, rfl, ha1, ha2, ha⟩ := h
  have eg : ∀ args w, (callFunc 52 args).run Try.prog w = .ok (.enter 52 args) w := enters_of Try.func52 (by kernel_rfl) rfl
  rcases ha with rfl | ⟨g, off, rfl, hg, hc⟩
  · refine (AnyE.slices_ContainsFunc_empty shContF_lays a cap _ w).mono ?_
    rintro e w' ⟨rfl, rfl⟩
    exact ⟨rfl, 0, rfl⟩
  · refine (AnyE.slices_ContainsFunc shContF_lays (Value.int .i64) badL 52 #[] eg g off xs.length cap xs w (badL_at w) (Nat.le_refl _) (by omega) (fun j hj => by rw [hc j hj]; simp [hj])).mono ?_
    rintro e w' ⟨rfl, q, rfl⟩
    exact ⟨by rw [List.take_length], q, rfl⟩
theorem loadsOk_bad {xs : List Int} (h1 : 1 ≤ xs.length) (h6 : xs.length ≤ 6) : loadsOk xs = !xs.any badL := by
  have : xs.any badL = !xs.all loadOk := by
    rw [List.not_all_eq_any_not]
    congr 1
    funext x; exact badL_not x
  rw [this, Bool.not_not]
  simp [loadsOk, h1, h6]
theorem loadsOk_short {xs : List Int} (h : xs.length < 1) : loadsOk xs = false := by simp [loadsOk]; omega
theorem loadsOk_long {xs : List Int} (h : 6 < xs.length) : loadsOk xs = false := by simp [loadsOk]; omega

set_option maxHeartbeats 800000 in
theorem implLoadsOk_any (v : Value) (xs : List Int) (w : World) (h : IsInts w v xs) :
    Calls Try.prog 20 #[v] w fun e w' => e = .returned (.bool (loadsOk xs)) ∧ ∃ n, w' = w.drewN n := by
  have H := Lib.hid h
  obtain ⟨a, cap, rfl, ha1, ha2, ha⟩ := h
  unfold maxLen at ha2
  clear ha
  by_cases h1 : xs.length < 1
  · have HS := Lib.hid (loadsOk_short h1)
    go_enter Try.func20, Try.ntmps20
    go_wp2
    go_ret
    exact ⟨ret_bool HS.out.symm, 0, rfl⟩
  · by_cases h6 : 6 < xs.length
    · have HS := Lib.hid (loadsOk_long h6)
      go_enter Try.func20, Try.ntmps20
      go_wp2
      go_ret
      exact ⟨ret_bool HS.out.symm, 0, rfl⟩
    · have HS := Lib.hid (loadsOk_bad (xs := xs) (by omega) (by omega))
      have HC := Lib.hid (contF_any _ xs w H.out (by omega))
      generalize xs.any badL = b at HS HC
      go_enter Try.func20, Try.ntmps20
      go_wp2_with (go_at_call 51; refine HC.out.mono ?_; rintro e w' ⟨rfl, n, rfl⟩)
      go_ret
      exact ⟨ret_bool HS.out.symm, n, rfl⟩

theorem loads_step (xs : List Int) (k : Nat) (h : k < xs.length) : (xs.take (k + 1)).all loadOk = ((xs.take k).all loadOk && loadOk xs[k]) := by
  rw [List.take_succ_eq_append_getElem h, List.all_append]; simp
theorem loads_false (xs : List Int) (k : Nat) (h : k < xs.length) (hf : loadOk xs[k] = false) : loadsOk xs = false := by
  have : xs.all loadOk = false := by rw [List.all_eq_false]; exact ⟨xs[k], List.getElem_mem h, by simp [hf]⟩
  simp only [loadsOk, this, Bool.and_false]

set_option maxHeartbeats 1600000 in
theorem specLoadsOk_any (v : Value) (xs : List Int) (w : World) (h : IsInts w v xs) :
    Calls Try.prog 21 #[v] w fun e w' => e = .returned (.bool (loadsOk xs)) ∧ ∃ n, w' = w.drewN n := by
  obtain ⟨a, cap, rfl, ha1, ha2, ha⟩ := h
  unfold maxLen at ha2
  have HA := Lib.hid ha
  clear ha
  go_enter Try.func21, Try.ntmps21
  go_wp2
  go_loopw [3] (fun i wr => ∃ k : Nat, k ≤ xs.length ∧ i = .int .i64 k ∧ (xs.take k).all loadOk = true ∧ ∃ d, wr = w.drewN d) (fun i _ => xs.length - (intOf i).toNat)
  case atStart => exact ⟨0, Nat.zero_le _, rfl, rfl, 0, rfl⟩
  case round =>
    obtain ⟨k, hk, rfl, hall, d, rfl⟩ := hrel
    have HL := Lib.hid hall
    clear hall
    by_cases hlt : k < xs.length
    · obtain ⟨g, off, rfl, hg, hc⟩ := HA.out.resolve_left (fun h => by rw [h] at hlt; exact absurd hlt (Nat.not_lt_zero k))
      have hcell : (w.drewN d).cell? ⟨g, off + k, none⟩ = _ := hc k hlt
      obtain ⟨W, hWd⟩ : ∃ W, W = w.drewN d := ⟨_, rfl⟩
      have HW := Lib.hid hWd
      rw [← hWd] at hcell ⊢
      clear hWd
      clear hc
      have HSTEP := Lib.hid (loads_step xs k hlt)
      have HFALSE := Lib.hid (loads_false xs k hlt)
      generalize xs[k] = c at hcell HSTEP HFALSE
      by_cases hb : loadOk c = true
      · have hb' : (decide (0 ≤ c) && decide (c ≤ 30)) = true := hb
        have HB := Lib.hid hb
        clear hb
        go_wp2_with (go_at_call 53; refine (l1In_any _ _ _ _).mono ?_; rintro e w' ⟨rfl, rfl⟩)
        go_roundw
        case rel => exact ⟨k + 1, by omega, by go_num, by rw [HSTEP.out, HL.out, HB.out]; rfl, d, HW.out⟩
        case measure => simp [intOf]; omega
      · have hbf : loadOk c = false := by simpa using hb
        have hb' : (decide (0 ≤ c) && decide (c ≤ 30)) = false := hbf
        have HB := Lib.hid hbf
        clear hb hbf
        go_wp2_with (go_at_call 53; refine (l1In_any _ _ _ _).mono ?_; rintro e w' ⟨rfl, rfl⟩)
        go_ret
        exact ⟨ret_bool (HFALSE.out HB.out).symm, d, HW.out⟩
    · obtain rfl : k = xs.length := by omega
      have HS : Hid (loadsOk xs = (decide ((1 : Int) ≤ xs.length) && decide ((xs.length : Int) ≤ 6))) := by
        have : loadsOk xs = (decide ((1 : Int) ≤ xs.length) && decide ((xs.length : Int) ≤ 6)) := by
          have := HL.out
          rw [List.take_length] at this
          rw [loadsOk, this, Bool.and_true]
          congr 1 <;> simp <;> omega
        exact Lib.hid this
      go_wp2_with (go_at_call 53; refine (l1In_any _ _ _ _).mono ?_; rintro e w' ⟨rfl, rfl⟩)
      go_ret
      exact ⟨ret_bool HS.out.symm, d, rfl⟩
end Go.Proofs.Ythdpeholeelhdaa
