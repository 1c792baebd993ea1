/- SortedLoads of the program: the loads from the greatest one down, in memory of the call's own. No condition. -/
import Derived.Test.YtggohgkjdnnndaaLoadSort
namespace Go.Proofs.Ytggohgkjdnnndaa
open Go.RowKit

/-- what SortedLoads returns -/
def sortedOf (xs : List Int) : List Int := if loadsOk xs = true then sortD xs else []
theorem sortedOf_yes {xs : List Int} (h : loadsOk xs = true) : sortedOf xs = sortD xs := by simp [sortedOf, h]
theorem sortedOf_no {xs : List Int} (h : loadsOk xs = false) : sortedOf xs = [] := by simp [sortedOf, h]
theorem CopyPost.of_own {w w' : World} {v : Value} {xs : List Int} (h : Own w [rowT 3 1 v xs.length (xs.map (Value.int .i64))] w') : CopyPost xs w (.returned v) w' :=
  ⟨v, rfl, ownsRow_base (h.row 0 (by simp) rfl) (fun k e => (h.ap.ltAt 0 (by simp) k e).1), h.keep⟩
theorem CopyPost.nil (w : World) {w' : World} (h : Below w.heap.size w w') : CopyPost [] w (.returned (.slice none 0 0)) w' := ⟨_, rfl, World.ownsRow_nil _ _ _ _, h⟩
theorem CopyPost.empty {w : World} (W : World) (h : Below w.heap.size w W) : CopyPost [] w (.returned (.slice (some ⟨W.heap.size, 0, none⟩) 0 0)) (W.alloc (.cells #[] 3)) :=
  ⟨_, rfl, World.ownsRow_lit (base := w.heap.size) W #[] 0 h.size (Nat.zero_le _) rfl, h.alloc h.size _⟩

set_option maxHeartbeats 1600000 in
theorem implSorted_any (v : Value) (xs : List Int) (w : World) (h : IsInts w v xs) :
    Calls Try.prog 82 #[v] w (CopyPost (sortedOf xs) w) := by
  have HOK := Lib.hid (implLoadsOk_any v xs w h)
  obtain ⟨a, cap, rfl, ha1, ha2, ha⟩ := h
  have HA := Lib.hid ha
  unfold maxLen at ha2
  clear ha
  cases hb : loadsOk xs with
  | false =>
    rw [sortedOf_no hb]
    rw [hb] at HOK
    go_enter Try.func82, Try.ntmps82
    go_wp2_with (go_at_call 71; refine HOK.out.mono ?_; rintro e w' ⟨rfl, n, rfl⟩)
    go_ret
    exact CopyPost.nil w (below_drewN (Below.refl _ _) n)
  | true =>
    rw [sortedOf_yes hb]
    rw [hb] at HOK
    have h6 : xs.length ≤ 6 := (loadsOk_iff.1 hb).2.1
    clear hb
    go_enter Try.func82, Try.ntmps82
    go_wp2_with (go_at_call 71; refine HOK.out.mono ?_; rintro e w' ⟨rfl, n, rfl⟩)
    have h0 : Own w [rowT 3 1 (.slice none 0 0) 0 []] (w.drewN n) := ((Own.nil w).idle _).drewN n
    go_loopw [3, 5, 11] (fun s _ i wr => ∃ (k : Nat) (ys : List Int) (sv : Value), k ≤ xs.length ∧ i = .int .i64 k ∧ s = sv ∧ Hid (ys = sortTo xs k) ∧ Hid (Own w [rowT 3 1 sv ys.length (ys.map (Value.int .i64))] wr)) (fun _ _ i _ => xs.length - (intOf i).toNat)
    case atStart => exact ⟨0, [], _, Nat.zero_le _, rfl, rfl, Lib.hid (sortTo_zero xs).symm, Lib.hid h0⟩
    case round =>
      obtain ⟨k, ys, sv, hk, rfl, rfl, HY, HO⟩ := hrel
      by_cases hlt : k < xs.length
      · obtain ⟨g, off, rfl, hg, hc⟩ := HA.out.resolve_left (fun h => by rw [h] at hlt; exact absurd hlt (Nat.not_lt_zero k))
        have hcell := (HO.out.keep.cell (p := ⟨g, off + k, none⟩) hg).trans (hc k hlt)
        have HS := Lib.hid (sortTo_succ xs k hlt)
        have hyl : ys.length ≤ 6 := by rw [HY.out, sortTo_length xs k hk]; omega
        have hyd : Desc ys := by rw [HY.out]; exact sortTo_desc xs k
        have HI := Lib.hid (inserted_any ys xs[k] _ HO.out (i := 0) (by simp) rfl hyd hyl)
        generalize xs[k] = c at hcell HS HI
        clear hc h0
        go_wp2_with (go_at_call 87; refine HI.out.mono ?_; rintro e w' ⟨g2, cp2, rfl, ho⟩)
        go_roundw
        case rel =>
          refine ⟨k + 1, insD c ys, _, by omega, by go_num, rfl, Lib.hid (by rw [HS.out, HY.out]), Lib.hid ?_⟩
          rw [insD_length]
          exact ho
        case measure => simp [intOf]; omega
      · obtain rfl : k = xs.length := by omega
        go_wp2
        go_ret
        have := CopyPost.of_own HO.out
        rw [HY.out] at this
        exact this
end Go.Proofs.Ytggohgkjdnnndaa
