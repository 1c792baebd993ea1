/- The laws' copies of slices of bools: fresh, and equal. -/
import Derived.Test.YtpcependeealfaaCopies
namespace Go.Proofs.Ytpcependeealfaa
open Go.RowKit

theorem infoBoolC : (Try.prog.info? 4).map (fun i => (i.zero, i.size, i.bytes)) = some (some (.bool false), 1, 1) := by kernel_rfl

/-- a list of which the first k are copied -/
def cpToB (xs : List Bool) (k : Nat) : List Bool := xs.take k ++ List.replicate (xs.length - k) false
theorem cpToB_length (xs : List Bool) (k : Nat) (h : k ≤ xs.length) : (cpToB xs k).length = xs.length := by
  rw [cpToB, List.length_append, List.length_take, List.length_replicate]; omega
theorem cpToB_zero (xs : List Bool) : cpToB xs 0 = List.replicate xs.length false := by simp [cpToB]
theorem cpToB_all (xs : List Bool) : cpToB xs xs.length = xs := by simp [cpToB]
theorem cpToB_step (xs : List Bool) (k : Nat) (h : k < xs.length) : (cpToB xs k).set k xs[k] = cpToB xs (k + 1) := by
  have e : xs.length - k = (xs.length - (k + 1)) + 1 := by omega
  have hl : (xs.take k).length = k := by rw [List.length_take]; omega
  rw [cpToB, cpToB, List.set_append_right _ _ (by rw [hl]; exact Nat.le_refl _), hl, Nat.sub_self, e, List.replicate_succ, List.set_cons_zero, List.take_succ_eq_append_getElem h, List.append_assoc]
  rfl

/-- a fresh slice that holds a list of numbers -/
def CopyPostB (xs : List Bool) (w : World) (e : Ending) (w' : World) : Prop :=
  ∃ v, e = .returned v ∧ w'.ownsRow w.heap.size 4 1 v xs.length (xs.map (Value.bool)) ∧ Below w.heap.size w w'

set_option maxHeartbeats 800000 in
theorem toBoolS_any (v : Value) (xs : List Bool) (w : World) (h : IsBools w v xs) (hx : xs.length ≤ 1048576) :
    Calls Try.prog 95 #[v] w (CopyPostB xs w) := by
  obtain ⟨i0, hi, hz0, hz1, hz2⟩ := info_parts infoBoolC
  have hsz : i0.bytes * xs.length ≤ 281474976710656 := by rw [hz2]; omega
  have HI := Lib.hid hi
  have HZ0 := Lib.hid hz0
  have HZ1 := Lib.hid hz1
  have HSZ := Lib.hid hsz
  clear hi hz0 hz1 hz2 hsz
  obtain ⟨a, cap, rfl, ha1, ha2, ha⟩ := h
  have HA := Lib.hid ha
  unfold maxLen at ha2
  clear ha
  go_enter Try.func95, Try.ntmps95
  go_wp2_with (at_make; refine wpList_make_full _ rfl _ _ 24 rfl w.heap.size 4 i0 (.bool false) 1 Try.underlying24 HI.out HZ0.out HZ1.out .i64 .i64 _ _ xs.length rfl rfl rfl rfl HSZ.out (by unfold maxLen; omega) (Nat.le_refl _) ?_; intro w1 hown1 hgrow1)
  have hown0 : w1.ownsRow w.heap.size 4 1 (.slice (some ⟨w.heap.size, 0, none⟩) xs.length xs.length) xs.length ((cpToB xs 0).map (Value.bool)) := by
    have e : (madeCells (Value.bool false).cells (xs.length * 1)).toList = (cpToB xs 0).map (Value.bool) := by
      rw [cpToB_zero, Nat.mul_one, List.map_replicate]
      exact toList_madeCells_one _ _
    rw [← e]; exact hown1
  have HOWN := Lib.hid hown0
  have hbel1 : Below w.heap.size w w1 := (Below.refl _ _).grown hgrow1 (Nat.le_refl _) (fun k e => by cases e)
  clear hown0 hown1 hgrow1
  go_loopw [4] (fun i wr => ∃ k : Nat, k ≤ xs.length ∧ i = .int .i64 k ∧ wr.ownsRow w.heap.size 4 1 (.slice (some ⟨w.heap.size, 0, none⟩) xs.length xs.length) xs.length ((cpToB xs k).map (Value.bool)) ∧ Below w.heap.size w wr) (fun i _ => xs.length - (intOf i).toNat)
  case atStart => exact ⟨0, Nat.zero_le _, rfl, HOWN.out, hbel1⟩
  case round =>
    obtain ⟨k, hk, rfl, hown, hbel⟩ := hrel
    by_cases hlt : k < xs.length
    · obtain ⟨g, off, rfl, hg, hc⟩ := HA.out.resolve_left (fun h => by rw [h] at hlt; exact absurd hlt (Nat.not_lt_zero k))
      have hcell := (hbel.cell (p := ⟨g, off + k, none⟩) hg).trans (hc k hlt)
      have hst := hown.stored k (.bool xs[k])
      rw [← List.map_set, cpToB_step xs k hlt] at hst
      have hml := cpToB_length xs k hk
      have hcl := hown.cellAt k (by omega)
      obtain ⟨c, hdell⟩ : ∃ c, wr.cell? ⟨w.heap.size, k, none⟩ = some (.bool c) := ⟨(cpToB xs k)[k]'(by omega), by rw [hcl]; simp [hml, hlt]⟩
      have hfr := hown.frozenAt k
      have HST := Lib.hid hst
      have hsz := hbel.size
      clear hst hcl hml hown hc
      generalize xs[k] = c0 at hcell HST
      go_wp2
      go_roundw
      case rel => exact ⟨k + 1, by omega, by go_num, HST.out.1, hbel.setCell (p := ⟨w.heap.size, k, none⟩) (Nat.le_refl _) _⟩
      case measure => simp [intOf]; omega
    · obtain rfl : k = xs.length := by omega
      have HC := Lib.hid (cpToB_all xs)
      go_wp2
      go_ret
      refine ⟨_, rfl, ?_, hbel⟩
      rw [HC.out] at hown
      exact hown
end Go.Proofs.Ytpcependeealfaa
