/- LoadsOk of the program and of the model: what each returns, for every row. No condition. -/
import Derived.Test.YtggohgkjdnnndaaLoadIns
import Derived.Test.YtggohgkjdnnndaaRolled
import Derived.Deep.RegionWith
namespace Go.Proofs.Ytggohgkjdnnndaa
open Go.RowKit

theorem l1In_sameL (n lo hi : Int) (w : World) :
    Calls Try.prog 51 #[.int .i64 n, .int .i64 lo, .int .i64 hi] w fun e w' => e = .returned (.bool (decide (lo ≤ n) && decide (n ≤ hi))) ∧ w' = w := (l1In_any n lo hi w).mono fun _ _ ⟨h, g⟩ => ⟨h, g.symm⟩

/-- a number that is no load -/
def badL (x : Int) : Bool := decide (x < 0) || decide (30 < x)
theorem badL_not (x : Int) : badL x = !loadOk x := by
  unfold badL loadOk
  by_cases h1 : x < 0 <;> by_cases h2 : 30 < x <;> simp [h1, h2] <;> omega
theorem badL_any (W : World) (x : Int) : Calls Try.prog 81 #[.int .i64 x] W fun e w' => e = .returned (.bool (badL x)) ∧ ∃ q, w' = W.drewN q := by
  unfold badL
  by_cases h1 : x < 0
  · go_enter Try.func81, Try.ntmps81
    go_wp2
    go_ret
    exact ⟨by simp [h1], 0, rfl⟩
  · by_cases h2 : 30 < x
    · go_enter Try.func81, Try.ntmps81
      go_wp2
      go_ret
      exact ⟨by simp, 0, rfl⟩
    · go_enter Try.func81, Try.ntmps81
      go_wp2
      go_ret
      exact ⟨by simp [h1, h2], 0, rfl⟩
theorem badL_at (w : World) : PredAt Try.prog 81 #[] (Value.int .i64) badL w := fun W x _ => badL_any W x

/-- the row is looked through: whether some number is no load -/
theorem contF_any (v : Value) (xs : List Int) (w : World) (h : IsInts w v xs) (hx : xs.length ≤ 6) :
    Calls Try.prog 80 #[v, .func (.func 81) #[] #[]] w fun e w' => e = .returned (.bool (xs.any badL)) ∧ ∃ n, w' = w.drewN n := by
  obtain ⟨a, cap, rfl, ha1, ha2, ha⟩ := h
  have eg : ∀ args w, (callFunc 81 args).run Try.prog w = .ok (.enter 81 args) w := enters_of Try.func81 (by kernel_rfl) rfl
  rcases ha with rfl | ⟨g, off, rfl, hg, hc⟩
  · refine (AnyE.slices_ContainsFunc_empty shContF_lays a cap _ w).mono ?_
    rintro e w' ⟨rfl, rfl⟩
    exact ⟨rfl, 0, rfl⟩
  · refine (AnyE.slices_ContainsFunc shContF_lays (Value.int .i64) badL 81 #[] eg g off xs.length cap xs w (badL_at w) (Nat.le_refl _) (by omega) (fun j hj => by rw [hc j hj]; simp [hj])).mono ?_
    rintro e w' ⟨rfl, q, rfl⟩
    exact ⟨by rw [List.take_length], q, rfl⟩
theorem loadsOk_bad {xs : List Int} (h1 : 1 ≤ xs.length) (h6 : xs.length ≤ 6) : loadsOk xs = !xs.any badL := by
  have : xs.any badL = !xs.all loadOk := by
    rw [List.not_all_eq_any_not]
    congr 1
    funext x; exact badL_not x
  rw [this, Bool.not_not]
  simp [loadsOk, h1, h6]
theorem loadsOk_short {xs : List Int} (h : xs.length < 1) : loadsOk xs = false := by simp [loadsOk]; omega
theorem loadsOk_long {xs : List Int} (h : 6 < xs.length) : loadsOk xs = false := by simp [loadsOk]; omega

set_option maxHeartbeats 800000 in
theorem implLoadsOk_any (v : Value) (xs : List Int) (w : World) (h : IsInts w v xs) :
    Calls Try.prog 71 #[v] w fun e w' => e = .returned (.bool (loadsOk xs)) ∧ ∃ n, w' = w.drewN n := by
  have H := Lib.hid h
  obtain ⟨a, cap, rfl, ha1, ha2, ha⟩ := h
  unfold maxLen at ha2
  clear ha
  by_cases h1 : xs.length < 1
  · have HS := Lib.hid (loadsOk_short h1)
    go_enter Try.func71, Try.ntmps71
    go_wp2
    go_ret
    exact ⟨ret_bool HS.out.symm, 0, rfl⟩
  · by_cases h6 : 6 < xs.length
    · have HS := Lib.hid (loadsOk_long h6)
      go_enter Try.func71, Try.ntmps71
      go_wp2
      go_ret
      exact ⟨ret_bool HS.out.symm, 0, rfl⟩
    · have HS := Lib.hid (loadsOk_bad (xs := xs) (by omega) (by omega))
      have HC := Lib.hid (contF_any _ xs w H.out (by omega))
      generalize xs.any badL = b at HS HC
      go_enter Try.func71, Try.ntmps71
      go_wp2_with (go_at_call 80; refine HC.out.mono ?_; rintro e w' ⟨rfl, n, rfl⟩)
      go_ret
      exact ⟨ret_bool HS.out.symm, n, rfl⟩

theorem loads_step (xs : List Int) (k : Nat) (h : k < xs.length) : (xs.take (k + 1)).all loadOk = ((xs.take k).all loadOk && loadOk xs[k]) := by
  rw [List.take_succ_eq_append_getElem h, List.all_append]; simp
theorem loads_false (xs : List Int) (k : Nat) (h : k < xs.length) (hf : loadOk xs[k] = false) : loadsOk xs = false := by
  have : xs.all loadOk = false := by rw [List.all_eq_false]; exact ⟨xs[k], List.getElem_mem h, by simp [hf]⟩
  simp only [loadsOk, this, Bool.and_false]

end Go.Proofs.Ytggohgkjdnnndaa
