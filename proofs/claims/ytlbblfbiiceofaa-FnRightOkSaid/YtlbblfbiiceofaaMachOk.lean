/- spec.MachineOk and laws' readers of machines: what each returns, for every machine. -/
import Derived.Test.YtlbblfbiiceofaaMach
import Derived.Test.YtlbblfbiiceofaaRolled
import Derived.WalkSmall
namespace Go.Proofs.Ytlbblfbiiceofaa
open Go.RowKit

theorem l1In_same (n lo hi : Int) (w : World) :
    Calls Try.prog 57 #[.int .i64 n, .int .i64 lo, .int .i64 hi] w fun e w' => e = .returned (.bool (decide (lo ≤ n) && decide (n ≤ hi))) ∧ w' = w := (l1In_any n lo hi w).mono fun _ _ ⟨h, g⟩ => ⟨h, g.symm⟩

theorem M.not_ok {m : M} (h : m.shape = false) : m.ok = false := by simp only [M.ok, h, Bool.false_and]

set_option maxHeartbeats 1600000 in
theorem specMachineOk_any (m : M) (nv ev : Value) (w : World) (h1 : IsInts w nv m.next) (h2 : IsBools w ev m.ends) (hst : (Lit.int .i64 m.st).wf = true) :
    Calls Try.prog 124 #[.agg #[.int .i64 m.st, nv, ev]] w fun e w' => e = .returned (.bool m.ok) ∧ Below w.heap.size w w' := by
  obtain ⟨st, xs, bs⟩ := m
  simp only at h1 h2 hst ⊢
  obtain ⟨a, cap, rfl, ha1, ha2, ha⟩ := h1
  obtain ⟨b, cbp, rfl, hb1, hb2, hb⟩ := h2
  unfold maxLen at ha2 hb2
  clear hb hst
  have HA := Lib.hid ha
  clear ha
  by_cases hin : (decide (1 ≤ st) && decide (st ≤ 48)) = true
  · have hs1 : 1 ≤ st := by simp at hin; exact hin.1
    have hs2 : st ≤ 48 := by simp at hin; exact hin.2
    by_cases hl1 : (xs.length : Int) = 3 * st
    · have hl1' : ((xs.length : Int) != 3 * st) = false := by simp [hl1]
      by_cases hl2 : (bs.length : Int) = st
      · have hl2' : ((bs.length : Int) != st) = false := by simp [hl2]
        have HS : Hid (M.ok ⟨st, xs, bs⟩ = xs.all (nextOk st)) := by
          have : M.ok ⟨st, xs, bs⟩ = xs.all (nextOk st) := by
            have : M.shape ⟨st, xs, bs⟩ = true := M.shape_iff.2 ⟨hs1, hs2, hl1, hl2⟩
            simp only [M.ok, this, Bool.true_and]
          exact Lib.hid this
        have hxl : xs.length ≤ 144 := by omega
        clear hl1 hl2
        go_enter Try.func124, Try.ntmps124
        go_wp2_with (go_at_call 57; refine (l1In_any _ _ _ _).mono ?_; rintro e w' ⟨rfl, rfl⟩)
        go_loopw [3] (fun i wr => ∃ k : Nat, k ≤ xs.length ∧ i = .int .i64 k ∧ (xs.take k).all (nextOk st) = true ∧ ∃ n, wr = (w.alloc (.cells #[.int .i64 st, .slice a xs.length cap, .slice b bs.length cbp] 115)).drewN n) (fun i _ => xs.length - (intOf i).toNat)
        case atStart => exact ⟨0, Nat.zero_le _, rfl, rfl, 0, rfl⟩
        case round =>
          obtain ⟨k, hk, rfl, hall, n, rfl⟩ := hrel
          have HL := Lib.hid hall
          clear hall
          have hbel : Below w.heap.size w ((w.alloc (.cells #[.int .i64 st, .slice a xs.length cap, .slice b bs.length cbp] 115)).drewN n) := below_drewN ((Below.refl _ _).alloc (Nat.le_refl _) _) n
          have hx0 : ((w.alloc (.cells #[.int .i64 st, .slice a xs.length cap, .slice b bs.length cbp] 115)).drewN n).cell? ⟨w.heap.size, 0, none⟩ = some (.int .i64 st) := World.cell?_alloc_new w _ _ 0
          have hx1 : ((w.alloc (.cells #[.int .i64 st, .slice a xs.length cap, .slice b bs.length cbp] 115)).drewN n).cell? ⟨w.heap.size, 1, none⟩ = some (.slice a xs.length cap) := World.cell?_alloc_new w _ _ 1
          by_cases hlt : k < xs.length
          · obtain ⟨g, off, rfl, hg, hc⟩ := HA.out.resolve_left (fun h => by rw [h] at hlt; exact absurd hlt (Nat.not_lt_zero k))
            have hcell := (hbel.cell (p := ⟨g, off + k, none⟩) hg).trans (hc k hlt)
            have HW : Hid (∀ m, ∃ n', (((w.alloc (.cells #[.int .i64 st, .slice (some ⟨g, off, none⟩) xs.length cap, .slice b bs.length cbp] 115)).drewN n).drewN m) = (w.alloc (.cells #[.int .i64 st, .slice (some ⟨g, off, none⟩) xs.length cap, .slice b bs.length cbp] 115)).drewN n') := by
              have := fun m => (⟨n + m, by rw [World.drewN_drewN]⟩ : ∃ n', (((w.alloc (.cells #[.int .i64 st, .slice (some ⟨g, off, none⟩) xs.length cap, .slice b bs.length cbp] 115)).drewN n).drewN m) = (w.alloc (.cells #[.int .i64 st, .slice (some ⟨g, off, none⟩) xs.length cap, .slice b bs.length cbp] 115)).drewN n')
              exact Lib.hid this
            generalize ((w.alloc (.cells #[.int .i64 st, .slice (some ⟨g, off, none⟩) xs.length cap, .slice b bs.length cbp] 115)).drewN n) = W at hbel hx0 hx1 hcell HW ⊢
            clear hc
            have HSTEP := Lib.hid (all_take_step xs st k hlt)
            have HFALSE := Lib.hid (all_false_at xs st k hlt)
            generalize xs[k] = c at hcell HSTEP HFALSE
            have hq1 : IntKind.i64.wrap (st - 1) = st - 1 := IntWalk.i64_in _ (by omega)
            by_cases hb : nextOk st c = true
            · have hb' : (decide (-1 ≤ c) && decide (c ≤ st - 1)) = true := hb
              have HB := Lib.hid hb
              clear hb
              go_wp2
              go_quiet ((go_at_call 57; exact Calls.quiet_of_same (l1In_same _ _ _ _)))
              clear hq1
              go_wp2
              go_roundw
              case rel => exact ⟨k + 1, by omega, by go_num, by rw [HSTEP.out, HL.out, HB.out]; rfl, HW.out _⟩
              case measure => simp [intOf]; omega
            · have hbf : nextOk st c = false := by simpa using hb
              have hb' : (decide (-1 ≤ c) && decide (c ≤ st - 1)) = false := hbf
              have HB := Lib.hid hbf
              clear hb hbf
              go_wp2
              go_quiet ((go_at_call 57; exact Calls.quiet_of_same (l1In_same _ _ _ _)))
              clear hq1
              go_wp2
              go_ret
              exact ⟨ret_bool (by rw [HS.out, HFALSE.out HB.out]), below_drewN hbel _⟩
          · obtain rfl : k = xs.length := by omega
            go_wp2
            go_ret
            exact ⟨ret_bool (by rw [HS.out, ← HL.out, List.take_length]), hbel⟩
      · have hl2' : ((bs.length : Int) != st) = true := by simpa using hl2
        have HS := Lib.hid (M.not_ok (m := ⟨st, xs, bs⟩) (by simp only [M.shape]; simp [hl2]))
        clear hl2 hl1
        go_enter Try.func124, Try.ntmps124
        go_wp2_with (go_at_call 57; refine (l1In_any _ _ _ _).mono ?_; rintro e w' ⟨rfl, rfl⟩)
        go_ret
        exact ⟨ret_bool HS.out.symm, (Below.refl _ _).alloc (Nat.le_refl _) _⟩
    · have hl1' : ((xs.length : Int) != 3 * st) = true := by simpa using hl1
      have HS := Lib.hid (M.not_ok (m := ⟨st, xs, bs⟩) (by simp only [M.shape]; simp [hl1]))
      clear hl1
      go_enter Try.func124, Try.ntmps124
      go_wp2_with (go_at_call 57; refine (l1In_any _ _ _ _).mono ?_; rintro e w' ⟨rfl, rfl⟩)
      go_ret
      exact ⟨ret_bool HS.out.symm, (Below.refl _ _).alloc (Nat.le_refl _) _⟩
  · have hin' : (decide (1 ≤ st) && decide (st ≤ 48)) = false := by simpa using hin
    have HS := Lib.hid (M.not_ok (m := ⟨st, xs, bs⟩) (by simp only [M.shape]; rw [hin']; rfl))
    clear hin
    go_enter Try.func124, Try.ntmps124
    go_wp2_with (go_at_call 57; refine (l1In_any _ _ _ _).mono ?_; rintro e w' ⟨rfl, rfl⟩)
    go_ret
    exact ⟨ret_bool HS.out.symm, (Below.refl _ _).alloc (Nat.le_refl _) _⟩
end Go.Proofs.Ytlbblfbiiceofaa
