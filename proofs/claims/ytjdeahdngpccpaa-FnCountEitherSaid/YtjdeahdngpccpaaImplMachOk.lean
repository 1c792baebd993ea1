/- impl.MachineOk answers whether it is a machine. No condition. -/
import Derived.Test.YtjdeahdngpccpaaMachOk
namespace Go.Proofs.Ytjdeahdngpccpaa
open Go.RowKit

set_option maxHeartbeats 1600000 in
theorem implMachineOk_any (m : M) (nv ev : Value) (w : World) (h1 : IsInts w nv m.next) (h2 : IsBools w ev m.ends) (hst : (Lit.int .i64 m.st).wf = true) :
    Calls Try.prog 20 #[.agg #[.int .i64 m.st, nv, ev]] w fun e w' => e = .returned (.bool m.ok) ∧ Below w.heap.size w w' := by
  obtain ⟨st, xs, bs⟩ := m
  simp only at h1 h2 hst ⊢
  obtain ⟨a, cap, rfl, ha1, ha2, ha⟩ := h1
  obtain ⟨b, cbp, rfl, hb1, hb2, hb⟩ := h2
  unfold maxLen at ha2 hb2
  clear hb hst
  have HA := Lib.hid ha
  clear ha
  by_cases hi1 : st < 1
  · have HS := Lib.hid (M.not_ok (m := ⟨st, xs, bs⟩) (by simp only [M.shape]; simp; omega))
    go_enter Try.func20, Try.ntmps20
    go_wp2
    go_ret
    exact ⟨ret_bool HS.out.symm, (Below.refl _ _).alloc (Nat.le_refl _) _⟩
  by_cases hi2 : 48 < st
  · have HS := Lib.hid (M.not_ok (m := ⟨st, xs, bs⟩) (by simp only [M.shape]; simp; omega))
    go_enter Try.func20, Try.ntmps20
    go_wp2
    go_ret
    exact ⟨ret_bool HS.out.symm, (Below.refl _ _).alloc (Nat.le_refl _) _⟩
  have hq : IntKind.i64.wrap (st * 3) = st * 3 := IntWalk.i64_in _ (by omega)
  by_cases hl1 : (xs.length : Int) = st * 3
  · have hl1' : ((xs.length : Int) != st * 3) = false := by simp [hl1]
    by_cases hl2 : (bs.length : Int) = st
    · have hl2' : ((bs.length : Int) != st) = false := by simp [hl2]
      have HS : Hid (M.ok ⟨st, xs, bs⟩ = xs.all (nextOk st)) := by
        have : M.ok ⟨st, xs, bs⟩ = xs.all (nextOk st) := by
          have : M.shape ⟨st, xs, bs⟩ = true := M.shape_iff.2 ⟨by show 1 ≤ st; omega, by show st ≤ 48; omega, by show (xs.length : Int) = 3 * st; omega, hl2⟩
          simp only [M.ok, this, Bool.true_and]
        exact Lib.hid this
      have hxl : xs.length ≤ 144 := by omega
      clear hl1 hl2
      go_enter Try.func20, Try.ntmps20
      go_wp2
      clear hq hl1' hl2'
      go_loopw [31] (fun i wr => ∃ k : Nat, k ≤ xs.length ∧ i = .int .i64 k ∧ (xs.take k).all (nextOk st) = true ∧ ∃ n, wr = (w.alloc (.cells #[.int .i64 st, .slice a xs.length cap, .slice b bs.length cbp] 26)).drewN n) (fun i _ => xs.length - (intOf i).toNat)
      case atStart => exact ⟨0, Nat.zero_le _, rfl, rfl, 0, rfl⟩
      case round =>
        obtain ⟨k, hk, rfl, hall, n, rfl⟩ := hrel
        have HL := Lib.hid hall
        clear hall
        have hbel : Below w.heap.size w ((w.alloc (.cells #[.int .i64 st, .slice a xs.length cap, .slice b bs.length cbp] 26)).drewN n) := below_drewN ((Below.refl _ _).alloc (Nat.le_refl _) _) n
        have hx0 : ((w.alloc (.cells #[.int .i64 st, .slice a xs.length cap, .slice b bs.length cbp] 26)).drewN n).cell? ⟨w.heap.size, 0, none⟩ = some (.int .i64 st) := World.cell?_alloc_new w _ _ 0
        by_cases hlt : k < xs.length
        · obtain ⟨g, off, rfl, hg, hc⟩ := HA.out.resolve_left (fun h => by rw [h] at hlt; exact absurd hlt (Nat.not_lt_zero k))
          have hcell := (hbel.cell (p := ⟨g, off + k, none⟩) hg).trans (hc k hlt)
          have HW : Hid (∀ m, ∃ n', (((w.alloc (.cells #[.int .i64 st, .slice (some ⟨g, off, none⟩) xs.length cap, .slice b bs.length cbp] 26)).drewN n).drewN m) = (w.alloc (.cells #[.int .i64 st, .slice (some ⟨g, off, none⟩) xs.length cap, .slice b bs.length cbp] 26)).drewN n') := by
            have := fun m => (⟨n + m, by rw [World.drewN_drewN]⟩ : ∃ n', (((w.alloc (.cells #[.int .i64 st, .slice (some ⟨g, off, none⟩) xs.length cap, .slice b bs.length cbp] 26)).drewN n).drewN m) = (w.alloc (.cells #[.int .i64 st, .slice (some ⟨g, off, none⟩) xs.length cap, .slice b bs.length cbp] 26)).drewN n')
            exact Lib.hid this
          generalize ((w.alloc (.cells #[.int .i64 st, .slice (some ⟨g, off, none⟩) xs.length cap, .slice b bs.length cbp] 26)).drewN n) = W at hbel hx0 hcell HW ⊢
          clear hc
          have HSTEP := Lib.hid (all_take_step xs st k hlt)
          have HFALSE := Lib.hid (all_false_at xs st k hlt)
          generalize xs[k] = c at hcell HSTEP HFALSE
          by_cases hb1 : c < -1
          · have HB : Hid (nextOk st c = false) := by
              have : nextOk st c = false := by simp [nextOk]; omega
              exact Lib.hid this
            go_wp2
            go_ret
            exact ⟨ret_bool (by rw [HS.out, HFALSE.out HB.out]), hbel⟩
          · by_cases hb2 : st ≤ c
            · have HB : Hid (nextOk st c = false) := by
                have : nextOk st c = false := by simp [nextOk]; omega
                exact Lib.hid this
              go_wp2
              go_ret
              exact ⟨ret_bool (by rw [HS.out, HFALSE.out HB.out]), hbel⟩
            · have HB : Hid (nextOk st c = true) := by
                have : nextOk st c = true := by simp [nextOk]; omega
                exact Lib.hid this
              go_wp2
              go_roundw
              case rel => exact ⟨k + 1, by omega, by go_num, by rw [HSTEP.out, HL.out, HB.out]; rfl, HW.out 0⟩
              case measure => simp [intOf]; omega
        · obtain rfl : k = xs.length := by omega
          go_wp2
          go_ret
          exact ⟨ret_bool (by rw [HS.out, ← HL.out, List.take_length]), hbel⟩
    · have hl2' : ((bs.length : Int) != st) = true := by simpa using hl2
      have HS := Lib.hid (M.not_ok (m := ⟨st, xs, bs⟩) (by simp only [M.shape]; simp [hl2]))
      clear hl2 hl1
      go_enter Try.func20, Try.ntmps20
      go_wp2
      go_ret
      exact ⟨ret_bool HS.out.symm, (Below.refl _ _).alloc (Nat.le_refl _) _⟩
  · have hl1' : ((xs.length : Int) != st * 3) = true := by simpa using hl1
    have HS := Lib.hid (M.not_ok (m := ⟨st, xs, bs⟩) (by simp only [M.shape]; simp; omega))
    clear hl1
    go_enter Try.func20, Try.ntmps20
    go_wp2
    go_ret
    exact ⟨ret_bool HS.out.symm, (Below.refl _ _).alloc (Nat.le_refl _) _⟩
end Go.Proofs.Ytjdeahdngpccpaa
