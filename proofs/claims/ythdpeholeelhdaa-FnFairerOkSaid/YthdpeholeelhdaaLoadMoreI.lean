/- SpreadOf, SquaresOf, GivenOn, evenShares, FairestOf, StepsToFair of the program: what each returns. No condition. -/
import Derived.Test.YthdpeholeelhdaaLoadFairI
import Derived.Test.YthdpeholeelhdaaLoadMath2
namespace Go.Proofs.Ythdpeholeelhdaa
open Go.RowKit

theorem maxI_any (v : Value) (xs : List Int) (w : World) (h : IsInts w v xs) (h0 : 0 < xs.length) (hx : xs.length ≤ 6) :
    Calls Try.prog 59 #[v] w fun e w' => e = .returned (.int .i64 (mx xs)) ∧ w = w' := by
  obtain ⟨a, cap, rfl, ha1, ha2, ha⟩ := h
  obtain ⟨g, off, rfl, hg, hc⟩ := ha.resolve_left (fun h => by rw [h] at h0; exact absurd h0 (Nat.not_lt_zero 0))
  refine (Any.slices_Max_int shMax_lays g off xs.length cap xs w h0 (Nat.le_refl _) (by omega) (fun j hj => by rw [hc j hj]; simp [List.getD, hj])).mono ?_
  rintro e w' ⟨rfl, rfl⟩
  exact ⟨by rw [List.take_length, maxOf_mx h0], rfl⟩
theorem minI_any (v : Value) (xs : List Int) (w : World) (h : IsInts w v xs) (h0 : 0 < xs.length) (hx : xs.length ≤ 6) :
    Calls Try.prog 60 #[v] w fun e w' => e = .returned (.int .i64 (mn xs)) ∧ w = w' := by
  obtain ⟨a, cap, rfl, ha1, ha2, ha⟩ := h
  obtain ⟨g, off, rfl, hg, hc⟩ := ha.resolve_left (fun h => by rw [h] at h0; exact absurd h0 (Nat.not_lt_zero 0))
  refine (Any.slices_Min_int shMin_lays g off xs.length cap xs w h0 (Nat.le_refl _) (by omega) (fun j hj => by rw [hc j hj]; simp [List.getD, hj])).mono ?_
  rintro e w' ⟨rfl, rfl⟩
  exact ⟨by rw [List.take_length, minOf_mn h0], rfl⟩

set_option maxHeartbeats 800000 in
theorem implSpreadOf_any (v : Value) (xs : List Int) (w : World) (h : IsInts w v xs) :
    Calls Try.prog 29 #[v] w fun e w' => e = .returned (.int .i64 (spreadOf xs)) ∧ Below w.heap.size w w' := by
  have HOK := Lib.hid (implLoadsOk_any v xs w h)
  have H := Lib.hid h
  obtain ⟨a, cap, rfl⟩ : ∃ a cap, v = .slice a xs.length cap := by obtain ⟨a, cap, rfl, _⟩ := h; exact ⟨a, cap, rfl⟩
  clear h
  cases hb : loadsOk xs with
  | false =>
    have HS := Lib.hid (spreadOf_no hb)
    rw [hb] at HOK
    clear hb
    go_enter Try.func29, Try.ntmps29
    go_wp2_with (go_at_call 20; refine HOK.out.mono ?_; rintro e w' ⟨rfl, n, rfl⟩)
    go_ret
    exact ⟨ret_int HS.out.symm, below_drewN (Below.refl _ _) n⟩
  | true =>
    have HS := Lib.hid (spreadOf_yes hb)
    have hbd := mx_mn_bd hb
    have hl := (loadsOk_iff.1 hb)
    rw [hb] at HOK
    have HM1 : Hid (∀ W, Below w.heap.size w W → Calls Try.prog 59 #[.slice a xs.length cap] W fun e w' => e = .returned (.int .i64 (mx xs)) ∧ W = w') := by
      have := fun W (hB : Below w.heap.size w W) => maxI_any _ xs W (H.out.below hB) (by omega) hl.2.1
      exact Lib.hid this
    have HM2 : Hid (∀ W, Below w.heap.size w W → Calls Try.prog 60 #[.slice a xs.length cap] W fun e w' => e = .returned (.int .i64 (mn xs)) ∧ W = w') := by
      have := fun W (hB : Below w.heap.size w W) => minI_any _ xs W (H.out.below hB) (by omega) hl.2.1
      exact Lib.hid this
    clear hb hl
    generalize mx xs = M at *
    generalize mn xs = m at *
    go_enter Try.func29, Try.ntmps29
    go_wp2_with fail
    refine HOK.out.mono ?_
    rintro e w1 ⟨rfl, n, rfl⟩
    have HB := Lib.hid (below_drewN (Below.refl w.heap.size w) n)
    generalize w.drewN n = w1 at HB ⊢
    go_wp2_with fail
    refine (HM1.out w1 HB.out).mono ?_
    rintro e w2 ⟨rfl, rfl⟩
    go_wp2_with fail
    refine (HM2.out w1 HB.out).mono ?_
    rintro e w2 ⟨rfl, rfl⟩
    go_wp2
    go_ret
    exact ⟨ret_int HS.out.symm, HB.out⟩

set_option maxHeartbeats 800000 in
theorem implSquaresOf_any (v : Value) (xs : List Int) (w : World) (h : IsInts w v xs) :
    Calls Try.prog 33 #[v] w fun e w' => e = .returned (.int .i64 (sqsOf xs)) ∧ Below w.heap.size w w' := by
  have HOK := Lib.hid (implLoadsOk_any v xs w h)
  obtain ⟨a, cap, rfl, ha1, ha2, ha⟩ := h
  have HA := Lib.hid ha
  unfold maxLen at ha2
  clear ha
  cases hb : loadsOk xs with
  | false =>
    have HS := Lib.hid (sqsOf_no hb)
    rw [hb] at HOK
    clear hb
    go_enter Try.func33, Try.ntmps33
    go_wp2_with (go_at_call 20; refine HOK.out.mono ?_; rintro e w' ⟨rfl, n, rfl⟩)
    go_ret
    exact ⟨ret_int HS.out.symm, below_drewN (Below.refl _ _) n⟩
  | true =>
    have HS := Lib.hid (sqsOf_yes hb)
    have HL := Lib.hid (loadsOk_iff.1 hb).2.2
    have h6 := (loadsOk_iff.1 hb).2.1
    rw [hb] at HOK
    clear hb
    go_enter Try.func33, Try.ntmps33
    go_wp2_with (go_at_call 20; refine HOK.out.mono ?_; rintro e w' ⟨rfl, n, rfl⟩)
    have HB := Lib.hid (below_drewN (Below.refl w.heap.size w) n)
    generalize w.drewN n = w1 at HB ⊢
    go_loop [3, 5, 11] (fun s _ i => ∃ (k : Nat) (T : Int), k ≤ xs.length ∧ i = .int .i64 k ∧ s = .int .i64 T ∧ Hid (T = sqs (xs.take k))) (fun _ _ i => xs.length - (intOf i).toNat)
    case atStart => exact ⟨0, 0, Nat.zero_le _, rfl, rfl, Lib.hid rfl⟩
    case round =>
      obtain ⟨k, T, hk, rfl, rfl, HT⟩ := hrel
      have hT1 : 0 ≤ T := by rw [HT.out]; exact (sqs_bd HL.out k).1
      have hT2 : T ≤ 900 * k := by rw [HT.out]; exact (sqs_bd HL.out k).2
      by_cases hlt : k < xs.length
      · obtain ⟨g, off, rfl, hg, hc⟩ := HA.out.resolve_left (fun h => by rw [h] at hlt; exact absurd hlt (Nat.not_lt_zero k))
        have hcell := (HB.out.cell (p := ⟨g, off + k, none⟩) hg).trans (hc k hlt)
        have hc0 := HL.out xs[k] (List.getElem_mem hlt)
        have HX : Hid (sqs (xs.take (k + 1)) = sqs (xs.take k) + xs[k] * xs[k]) := Lib.hid (sm_snoc _ xs k hlt)
        generalize xs[k] = c at hcell HX hc0
        have hq1 : 0 ≤ c * c := sq_nonneg c
        have hq2 : c * c ≤ 900 := by
          have := Int.mul_le_mul hc0.2 hc0.2 hc0.1 (by omega : (0 : Int) ≤ 30)
          omega
        obtain ⟨Q, hQ⟩ : ∃ Q, c * c = Q := ⟨_, rfl⟩
        rw [hQ] at hq1 hq2 HX
        have hw1 : IntKind.i64.wrap Q = Q := IntWalk.i64_in _ (by omega)
        have hw2 : IntKind.i64.wrap (T + Q) = T + Q := IntWalk.i64_in _ (by omega)
        clear hc
        go_wp2
        go_round
        case rel => exact ⟨k + 1, T + Q, by omega, by go_num, by first | rfl | go_num, Lib.hid (by rw [HX.out, HT.out])⟩
        case measure => simp [intOf]; omega
      · obtain rfl : k = xs.length := by omega
        go_wp2
        go_ret
        exact ⟨ret_int (by rw [HS.out, HT.out, List.take_length]), HB.out⟩

theorem infoIntE : (Try.prog.info? 3).map (fun i => (i.zero, i.size, i.bytes)) = some (some (.int .i64 0), 1, 8) := by kernel_rfl

set_option maxHeartbeats 1600000 in
theorem evenShares_any (n : Nat) (s : Int) (w : World) (hn : 1 ≤ n) (hn6 : n ≤ 6) (h0 : 0 ≤ s) (h180 : s ≤ 180) :
    Calls Try.prog 61 #[.int .i64 n, .int .i64 s] w (CopyPost (even n s) w) := by
  obtain ⟨i0, hi, hz0, hz1, hz2⟩ := info_parts infoIntE
  have hsz : i0.bytes * n ≤ 281474976710656 := by rw [hz2]; omega
  have HI := Lib.hid hi
  have HZ0 := Lib.hid hz0
  have HZ1 := Lib.hid hz1
  have HSZ := Lib.hid hsz
  have HEL := Lib.hid (even_length n s)
  have HEG := Lib.hid (even_get n s)
  clear hi hz0 hz1 hz2 hsz
  have hd1 : s.tdiv n = s / n := Int.tdiv_eq_ediv_of_nonneg h0
  have hd2 : s.tmod n = s % n := Int.tmod_eq_emod_of_nonneg h0
  have hq0 : 0 ≤ s / n := Int.ediv_nonneg h0 (by omega)
  have hq1 : s / n ≤ s := Int.ediv_le_self _ h0
  have hr0 : 0 ≤ s % n := Int.emod_nonneg _ (by omega)
  have hr1 : s % n < n := Int.emod_lt_of_pos _ (by omega)
  obtain ⟨q, hq⟩ : ∃ q, s / n = q := ⟨_, rfl⟩
  obtain ⟨r, hr⟩ : ∃ r, s % n = r := ⟨_, rfl⟩
  rw [hq] at hd1 hq0 hq1 HEG
  rw [hr] at hd2 hr0 hr1 HEG
  have hw1 : IntKind.i64.wrap q = q := IntWalk.i64_in _ (by omega)
  have hw2 : IntKind.i64.wrap r = r := IntWalk.i64_in _ (by omega)
  clear hq hr
  go_enter Try.func61, Try.ntmps61
  go_wp2_with (at_make; refine wpList_make_full _ rfl _ _ 23 rfl w.heap.size 3 i0 (.int .i64 0) 1 Try.underlying23 HI.out HZ0.out HZ1.out .i64 .i64 _ _ n rfl rfl rfl rfl HSZ.out (by unfold maxLen; omega) (Nat.le_refl _) ?_; intro w1 hown1 hgrow1)
  have hown0 : w1.ownsRow w.heap.size 3 1 (.slice (some ⟨w.heap.size, 0, none⟩) n n) n ((cpTo (even n s) 0).map (Value.int .i64)) := by
    have e : (madeCells (Value.int .i64 0).cells (n * 1)).toList = (cpTo (even n s) 0).map (Value.int .i64) := by
      rw [cpTo_zero, Nat.mul_one, List.map_replicate, HEL.out]
      exact toList_madeCells_one _ _
    rw [← e]; exact hown1
  have HOWN := Lib.hid hown0
  have hbel1 : Below w.heap.size w w1 := (Below.refl _ _).grown hgrow1 (Nat.le_refl _) (fun k e => by cases e)
  clear hown0 hown1 hgrow1
  go_loopw [6, 11] (fun _ i wr => ∃ k : Nat, k ≤ n ∧ i = .int .i64 k ∧ wr.ownsRow w.heap.size 3 1 (.slice (some ⟨w.heap.size, 0, none⟩) n n) n ((cpTo (even n s) k).map (Value.int .i64)) ∧ Below w.heap.size w wr) (fun _ i _ => n - (intOf i).toNat)
  case atStart => exact ⟨0, Nat.zero_le _, rfl, HOWN.out, hbel1⟩
  case round =>
    obtain ⟨k, hk, rfl, hown, hbel⟩ := hrel
    by_cases hlt : k < n
    · have hxk := HEG.out k hlt
      have hst := hown.stored k (.int .i64 q)
      have hst2 := hst.1.stored k (.int .i64 (q + 1))
      have hcp := cpTo_step (even n s) k (by rw [HEL.out]; exact hlt)
      have hml := cpTo_length (even n s) k (by rw [HEL.out]; exact hk)
      rw [HEL.out] at hml
      have hcl := hown.cellAt k (by omega)
      obtain ⟨c, hdell⟩ : ∃ c, wr.cell? ⟨w.heap.size, k, none⟩ = some (.int .i64 c) := ⟨(cpTo (even n s) k)[k]'(by omega), by rw [hcl]; simp [hml, hlt]⟩
      have hfr := hown.frozenAt k
      have hsz := hbel.size
      by_cases hkr : (k : Int) < r
      · rw [if_pos hkr] at hxk
        rw [hxk] at hcp
        rw [List.set_set, ← List.map_set, hcp] at hst2
        have HST := Lib.hid hst2.1
        clear hst hst2 hcl hml hown hcp hxk
        go_wp2
        go_roundw
        case rel => exact ⟨k + 1, by omega, by go_num, HST.out, (hbel.setCell (p := ⟨w.heap.size, k, none⟩) (Nat.le_refl _) _).setCell (p := ⟨w.heap.size, k, none⟩) (Nat.le_refl _) _⟩
        case measure => simp [intOf]; omega
      · rw [if_neg hkr, Int.add_zero] at hxk
        rw [hxk] at hcp
        rw [← List.map_set, hcp] at hst
        have HST := Lib.hid hst.1
        clear hst hst2 hcl hml hown hcp hxk
        go_wp2
        go_roundw
        case rel => exact ⟨k + 1, by omega, by go_num, HST.out, hbel.setCell (p := ⟨w.heap.size, k, none⟩) (Nat.le_refl _) _⟩
        case measure => simp [intOf]; omega
    · obtain rfl : k = n := by omega
      have HC := Lib.hid (cpTo_all (even k s))
      go_wp2
      go_ret
      refine ⟨_, rfl, ?_, hbel⟩
      rw [HEL.out] at HC ⊢
      rw [HC.out] at hown
      exact hown
end Go.Proofs.Ythdpeholeelhdaa
