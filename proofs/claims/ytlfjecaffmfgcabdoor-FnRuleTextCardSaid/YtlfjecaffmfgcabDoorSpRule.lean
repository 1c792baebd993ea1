/- The model's RuleText and ReadRule. No condition. -/
import Derived.Test.YtlfjecaffmfgcabDoorRdRule
namespace Go.Proofs.YtlfjecaffmfgcabDoor
open Go.RowKit

theorem one_back (b : UInt8) (z : Int) (hz : z = (b.toNat : Int)) (w : World) :
    (convert 22 9 (.slice (some ⟨w.heap.size, 0, none⟩) 1 1)).run Tryd.prog (w.alloc (.cells #[.int .u8 z] 5)) = .ok (.string ⟨#[b]⟩) (w.alloc (.cells #[.int .u8 z] 5)) := by
  subst hz
  refine run_convert_bytes_back (P := Tryd.prog) _ 22 9 5 ⟨w.heap.size, 0, none⟩ 1 [b] Tryd.underlying22 Tryd.underlying5 Tryd.underlying9 (fun j hj => ?_)
  have : j = 0 := by simpa using hj
  subst this
  exact World.cell?_alloc_new w _ _ 0
def digitS (m : Nat) : ByteArray := ⟨#[UInt8.ofNat (48 + m)]⟩
theorem l1Number_0 (w : World) :
    Calls Tryd.prog 27 #[.int .i64 0] w fun e w' => e = .returned (.string ⟨#[48]⟩) ∧ w' = w.alloc (.cells #[.int .u8 48] 5) := by
  have hm : max (0 : Int) 0 = 0 := rfl
  have hcv := one_back 48 48 rfl w
  go_enter Tryd.func27, Tryd.ntmps27
  go_wp2_with fail
  go_ret
  exact ⟨rfl, rfl⟩
theorem l1Number_1 (w : World) :
    Calls Tryd.prog 27 #[.int .i64 1] w fun e w' => e = .returned (.string ⟨#[49]⟩) ∧ w' = w.alloc (.cells #[.int .u8 49] 5) := by
  have hm : max (1 : Int) 0 = 1 := rfl
  have hcv := one_back 49 49 rfl w
  go_enter Tryd.func27, Tryd.ntmps27
  go_wp2_with fail
  go_ret
  exact ⟨rfl, rfl⟩
theorem l1Number_2 (w : World) :
    Calls Tryd.prog 27 #[.int .i64 2] w fun e w' => e = .returned (.string ⟨#[50]⟩) ∧ w' = w.alloc (.cells #[.int .u8 50] 5) := by
  have hm : max (2 : Int) 0 = 2 := rfl
  have hcv := one_back 50 50 rfl w
  go_enter Tryd.func27, Tryd.ntmps27
  go_wp2_with fail
  go_ret
  exact ⟨rfl, rfl⟩
theorem l1Number_3 (w : World) :
    Calls Tryd.prog 27 #[.int .i64 3] w fun e w' => e = .returned (.string ⟨#[51]⟩) ∧ w' = w.alloc (.cells #[.int .u8 51] 5) := by
  have hm : max (3 : Int) 0 = 3 := rfl
  have hcv := one_back 51 51 rfl w
  go_enter Tryd.func27, Tryd.ntmps27
  go_wp2_with fail
  go_ret
  exact ⟨rfl, rfl⟩
theorem l1Number_4 (w : World) :
    Calls Tryd.prog 27 #[.int .i64 4] w fun e w' => e = .returned (.string ⟨#[52]⟩) ∧ w' = w.alloc (.cells #[.int .u8 52] 5) := by
  have hm : max (4 : Int) 0 = 4 := rfl
  have hcv := one_back 52 52 rfl w
  go_enter Tryd.func27, Tryd.ntmps27
  go_wp2_with fail
  go_ret
  exact ⟨rfl, rfl⟩
theorem l1Number_5 (w : World) :
    Calls Tryd.prog 27 #[.int .i64 5] w fun e w' => e = .returned (.string ⟨#[53]⟩) ∧ w' = w.alloc (.cells #[.int .u8 53] 5) := by
  have hm : max (5 : Int) 0 = 5 := rfl
  have hcv := one_back 53 53 rfl w
  go_enter Tryd.func27, Tryd.ntmps27
  go_wp2_with fail
  go_ret
  exact ⟨rfl, rfl⟩
theorem l1Number_any (m : Nat) (hm : m < 6) (w : World) :
    Calls Tryd.prog 27 #[.int .i64 (m : Int)] w fun e w' => e = .returned (.string (digitS m)) ∧ w' = w.alloc (.cells #[.int .u8 (48 + m)] 5) := by
  have : m = 0 ∨ m = 1 ∨ m = 2 ∨ m = 3 ∨ m = 4 ∨ m = 5 := by omega
  rcases this with rfl | rfl | rfl | rfl | rfl | rfl
  · exact l1Number_0 w
  · exact l1Number_1 w
  · exact l1Number_2 w
  · exact l1Number_3 w
  · exact l1Number_4 w
  · exact l1Number_5 w
end Go.Proofs.YtlfjecaffmfgcabDoor
