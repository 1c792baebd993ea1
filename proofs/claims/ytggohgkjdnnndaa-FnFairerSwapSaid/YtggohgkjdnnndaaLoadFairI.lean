/- sumOf, greatestSums and its closure, FairerOk of the program: whether a row is as fair as another one, or fairer. No condition. -/
import Derived.Test.YtggohgkjdnnndaaLoadSortI
import Derived.Laws.EntriesVeiled
namespace Go.Proofs.Ytggohgkjdnnndaa
open Go.RowKit

theorem IsInts.sl {w : World} {v : Value} {xs : List Int} (h : IsInts w v xs) : ∃ a n c, v = .slice a n c := by
  obtain ⟨a, cap, rfl, _⟩ := h
  exact ⟨_, _, _, rfl⟩
theorem tot_bd {xs : List Int} (h : ∀ x ∈ xs, 0 ≤ x ∧ x ≤ 30) (k : Nat) : 0 ≤ tot (xs.take k) ∧ tot (xs.take k) ≤ 30 * k := by
  have h' : ∀ x ∈ xs.take k, 0 ≤ x ∧ x ≤ 30 := fun x hx => h x (List.mem_of_mem_take hx)
  refine ⟨sm_nonneg _ _ fun x hx => (h' x hx).1, ?_⟩
  have := sm_le (fun x => x) (fun _ => 30) (xs.take k) (fun x hx => (h' x hx).2)
  rw [sm_const, List.length_take] at this
  unfold tot
  omega
theorem sort_loads {xs : List Int} (h : loadsOk xs = true) : ∀ x ∈ sortD xs, 0 ≤ x ∧ x ≤ 30 := (loadsOk_iff.1 ((loadsOk_sort xs).trans h)).2.2

set_option maxHeartbeats 800000 in
theorem sumOf_any (v : Value) (xs : List Int) (w : World) (h : IsInts w v xs) (hb : ∀ x ∈ xs, 0 ≤ x ∧ x ≤ 30) (hl : xs.length ≤ 1000) :
    Calls Try.prog 84 #[v] w fun e w' => e = .returned (.int .i64 (tot xs)) ∧ w = w' := by
  obtain ⟨a, cap, rfl, ha1, ha2, ha⟩ := h
  have HA := Lib.hid ha
  have HB := Lib.hid hb
  unfold maxLen at ha2
  clear ha hb
  go_enter Try.func84, Try.ntmps84
  go_wp2
  go_loop [3, 5, 8] (fun s _ i => ∃ (k : Nat) (T : Int), k ≤ xs.length ∧ i = .int .i64 k ∧ s = .int .i64 T ∧ Hid (T = tot (xs.take k))) (fun _ _ i => xs.length - (intOf i).toNat)
  case atStart => exact ⟨0, 0, Nat.zero_le _, rfl, rfl, Lib.hid rfl⟩
  case round =>
    obtain ⟨k, T, hk, rfl, rfl, HT⟩ := hrel
    have hT1 : 0 ≤ T := by rw [HT.out]; exact (tot_bd HB.out k).1
    have hT2 : T ≤ 30 * k := by rw [HT.out]; exact (tot_bd HB.out k).2
    by_cases hlt : k < xs.length
    · obtain ⟨g, off, rfl, hg, hc⟩ := HA.out.resolve_left (fun h => by rw [h] at hlt; exact absurd hlt (Nat.not_lt_zero k))
      have hcell := hc k hlt
      have hc0 := HB.out xs[k] (List.getElem_mem hlt)
      have HS : Hid (tot (xs.take (k + 1)) = tot (xs.take k) + xs[k]) := Lib.hid (sm_snoc _ xs k hlt)
      generalize xs[k] = c at hcell HS hc0
      clear hc
      go_wp2
      go_round
      case rel => exact ⟨k + 1, T + c, by omega, by go_num, by go_num, Lib.hid (by rw [HS.out, HT.out])⟩
      case measure => simp [intOf]; omega
    · obtain rfl : k = xs.length := by omega
      go_wp2
      go_ret
      exact ⟨ret_int (by rw [HT.out, List.take_length]), rfl⟩

/-- the closure: the sum of so many of the greatest ones -/
theorem sums_any (B : Nat) (v : Value) (ys : List Int) (many : Nat) (w : World) (hv : w.cell? ⟨B, 0, none⟩ = some v) (h : IsInts w v ys) (hb : ∀ x ∈ ys, 0 ≤ x ∧ x ≤ 30) (hl : ys.length ≤ 1000) (hm : many ≤ ys.length) :
    Calls Try.prog 83 #[.int .i64 many, .pointer (some ⟨B, 0, none⟩)] w fun e w' => e = .returned (.int .i64 (tot (ys.take many))) ∧ w = w' := by
  have HB := Lib.hid hb
  obtain ⟨a, cap, rfl, ha1, ha2, ha⟩ := h
  have hlen : (ys.take many).length = many := by rw [List.length_take]; omega
  have HI : Hid (IsInts w (.slice a many cap) (ys.take many)) := by
    have : IsInts w (.slice a many cap) (ys.take many) := by
      refine ⟨a, cap, by rw [hlen], by omega, ha2, ?_⟩
      rcases ha with rfl | ⟨g, off, rfl, hg, hc⟩
      · exact .inl List.take_nil
      · exact .inr ⟨g, off, rfl, hg, fun k hk => by rw [hc k (by omega)]; simp⟩
    exact Lib.hid this
  have HC := Lib.hid (sumOf_any _ _ w HI.out (fun x hx => HB.out x (List.mem_of_mem_take hx)) (by omega))
  unfold maxLen at ha2
  clear ha hb hlen
  go_enter Try.func83, Try.ntmps83
  go_wp2_with (go_at_call 84; refine HC.out.mono ?_; rintro e w' ⟨rfl, rfl⟩)
  go_ret
  exact ⟨rfl, rfl⟩

/-- what greatestSums leaves: a box with the sorted row, and the closure over it -/
def SumsPost (xs : List Int) (w : World) (e : Ending) (w' : World) : Prop :=
  ∃ B v, e = .returned (.func (.func 83) #[] #[.pointer (some ⟨B, 0, none⟩)]) ∧ B < w'.heap.size ∧ w'.cell? ⟨B, 0, none⟩ = some v ∧ IsInts w' v (sortedOf xs) ∧ Below w.heap.size w w'

set_option maxHeartbeats 800000 in
theorem greatest_any (v : Value) (xs : List Int) (w : World) (h : IsInts w v xs) :
    Calls Try.prog 72 #[v] w (SumsPost xs w) := by
  have HC := Lib.hid (implSorted_any v xs w h)
  obtain ⟨a, cap, rfl, ha1, ha2, ha⟩ := h
  clear ha
  go_enter Try.func72, Try.ntmps72
  go_wp2_with fail
  refine HC.out.mono ?_
  rintro e w1 ⟨sv, rfl, ho, hb⟩
  have HI := Lib.hid (IsInts.of_owns ho)
  obtain ⟨a1, n1, c1, rfl⟩ := HI.out.sl
  have HO := Lib.hid ho
  have HBL := Lib.hid hb
  clear ho hb
  go_wp2
  go_ret
  have hb1 : Below w1.heap.size w1 (w1.alloc (.cells #[.slice a1 n1 c1] 40)) := (Below.refl _ _).alloc (Nat.le_refl _) _
  exact ⟨w1.heap.size, _, rfl, by simp, World.cell?_alloc_new w1 _ _ 0, HI.out.below hb1, HBL.out.alloc HBL.out.size _⟩

set_option maxHeartbeats 3200000 in
theorem implFairerOk_any (u v : Value) (xs ys : List Int) (w : World) (hu : IsInts w u xs) (hv : IsInts w v ys) :
    Calls Try.prog 34 #[u, v] w fun e w' => e = .returned (.bool (fairB xs ys)) ∧ Below w.heap.size w w' := by
  have HX := Lib.hid (implLoadsOk_any u xs w hu)
  have HU := Lib.hid hu
  have HV := Lib.hid hv
  obtain ⟨a, cap, rfl⟩ : ∃ a cap, u = .slice a xs.length cap := by obtain ⟨a, cap, rfl, _⟩ := hu; exact ⟨a, cap, rfl⟩
  obtain ⟨b, cbp, rfl⟩ : ∃ a cap, v = .slice a ys.length cap := by obtain ⟨a, cap, rfl, _⟩ := hv; exact ⟨a, cap, rfl⟩
  clear hu hv
  cases hx : loadsOk xs with
  | false =>
    have HF : Hid (fairB xs ys = false) := by
      have : fairB xs ys = false := by simp [fairB, hx]
      exact Lib.hid this
    rw [hx] at HX
    clear hx
    go_enter Try.func34, Try.ntmps34
    go_wp2_with (go_at_call 71; refine HX.out.mono ?_; rintro e w' ⟨rfl, n, rfl⟩)
    go_ret
    exact ⟨ret_bool HF.out.symm, below_drewN (Below.refl _ _) n⟩
  | true =>
    rw [hx] at HX
    have x6 : xs.length ≤ 6 := (loadsOk_iff.1 hx).2.1
    go_enter Try.func34, Try.ntmps34
    go_wp2_with fail
    refine HX.out.mono ?_
    rintro e w1 ⟨rfl, n1, rfl⟩
    have HB1 : Hid (Below w.heap.size w (w.drewN n1)) := Lib.hid (below_drewN (Below.refl _ _) n1)
    generalize w.drewN n1 = w1 at HB1 ⊢
    have HY := Lib.hid (implLoadsOk_any _ ys w1 (HV.out.below HB1.out))
    go_wp2_with fail
    refine HY.out.mono ?_
    clear HX HY
    rintro e w2 ⟨rfl, n2, rfl⟩
    have HB2 : Hid (Below w.heap.size w (w1.drewN n2)) := Lib.hid (below_drewN HB1.out n2)
    generalize w1.drewN n2 = w2 at HB2 ⊢
    clear HB1
    cases hy : loadsOk ys with
    | false =>
      have HF : Hid (fairB xs ys = false) := by
        have : fairB xs ys = false := by simp [fairB, hy]
        exact Lib.hid this
      clear hx hy
      go_wp2
      go_ret
      exact ⟨ret_bool HF.out.symm, HB2.out⟩
    | true =>
      have y6 : ys.length ≤ 6 := (loadsOk_iff.1 hy).2.1
      by_cases hl : xs.length = ys.length
      · have hl' : ((xs.length : Int) != (ys.length : Int)) = false := by simp [hl]
        have HF : Hid (fairB xs ys = majB (sortD xs) (sortD ys)) := by
          have : fairB xs ys = majB (sortD xs) (sortD ys) := by simp [fairB, hx, hy, hl]
          exact Lib.hid this
        have HLL := Lib.hid hl
        have HSX := Lib.hid (sort_loads hx)
        have HSY := Lib.hid (sort_loads hy)
        have HSO := Lib.hid (sortedOf_yes hx)
        have HSP := Lib.hid (sortedOf_yes hy)
        have HC1 := Lib.hid (greatest_any _ xs w2 (HU.out.below HB2.out))
        clear hx hy hl
        go_wp2_with fail
        refine HC1.out.mono ?_
        clear HC1
        rintro e w3 ⟨B1, v1, rfl, hB1, hc1, hi1, hbl1⟩
        have HI1 := Lib.hid hi1
        have HB3 := Lib.hid (HB2.out.trans (hbl1.mono HB2.out.size))
        have HC2 := Lib.hid (greatest_any _ ys w3 (HV.out.below HB3.out))
        clear hi1 hbl1 HB2
        go_wp2_with fail
        refine HC2.out.mono ?_
        clear HC2
        rintro e w4 ⟨B2, v2, rfl, hB2, hc2, hi2, hbl2⟩
        have HB4 := Lib.hid (HB3.out.trans (hbl2.mono HB3.out.size))
        have HS1 : Hid (∀ k, k ≤ xs.length → Calls Try.prog 83 #[.int .i64 k, .pointer (some ⟨B1, 0, none⟩)] w4 fun e w' => e = .returned (.int .i64 (tot ((sortD xs).take k))) ∧ w4 = w') := by
          have : ∀ k, k ≤ xs.length → Calls Try.prog 83 #[.int .i64 k, .pointer (some ⟨B1, 0, none⟩)] w4 fun e w' => e = .returned (.int .i64 (tot ((sortD xs).take k))) ∧ w4 = w' := fun k hk => by
            refine sums_any B1 v1 (sortD xs) k w4 ((hbl2.cell (p := ⟨B1, 0, none⟩) hB1).trans hc1) ?_ HSX.out (by rw [sortD_length]; omega) (by rw [sortD_length]; exact hk)
            have := HI1.out.below hbl2
            rwa [HSO.out] at this
          exact Lib.hid this
        have HS2 : Hid (∀ k, k ≤ ys.length → Calls Try.prog 83 #[.int .i64 k, .pointer (some ⟨B2, 0, none⟩)] w4 fun e w' => e = .returned (.int .i64 (tot ((sortD ys).take k))) ∧ w4 = w') := by
          have : ∀ k, k ≤ ys.length → Calls Try.prog 83 #[.int .i64 k, .pointer (some ⟨B2, 0, none⟩)] w4 fun e w' => e = .returned (.int .i64 (tot ((sortD ys).take k))) ∧ w4 = w' := fun k hk => by
            refine sums_any B2 v2 (sortD ys) k w4 hc2 ?_ HSY.out (by rw [sortD_length]; omega) (by rw [sortD_length]; exact hk)
            rwa [HSP.out] at hi2
          exact Lib.hid this
        clear hi2 hc2 hc1 hB1 hB2 hbl2 HI1 HB3
        have HT1 := Lib.hid (HS1.out xs.length (Nat.le_refl _))
        have HT2 := Lib.hid (HS2.out ys.length (Nat.le_refl _))
        have e1 : (sortD xs).take xs.length = sortD xs := List.take_of_length_le (by rw [sortD_length]; exact Nat.le_refl _)
        have e2 : (sortD ys).take ys.length = sortD ys := List.take_of_length_le (by rw [sortD_length]; exact Nat.le_refl _)
        rw [e1] at HT1
        rw [e2] at HT2
        clear e1 e2
        go_wp2_with fail
        refine HT1.out.mono ?_
        rintro e w5 ⟨rfl, rfl⟩
        go_wp2_with fail
        refine HT2.out.mono ?_
        rintro e w5 ⟨rfl, rfl⟩
        clear HT1 HT2
        by_cases ht : tot (sortD xs) = tot (sortD ys)
        · have ht' : (tot (sortD xs) != tot (sortD ys)) = false := by simp [ht]
          have HT := Lib.hid ht
          clear ht
          go_wp2
          go_loop [7, 38] (fun _ i => ∃ k : Nat, k ≤ xs.length ∧ i = .int .i64 k ∧ Hid (∀ j, j < k → tot ((sortD xs).take j) ≤ tot ((sortD ys).take j))) (fun _ i => xs.length - (intOf i).toNat)
          case atStart => exact ⟨0, Nat.zero_le _, rfl, Lib.hid (fun j h => absurd h (Nat.not_lt_zero j))⟩
          case round =>
            obtain ⟨k, hk, rfl, HALL⟩ := hrel
            by_cases hlt : k < xs.length
            · have HT1 := Lib.hid (HS1.out k hk)
              have HT2 := Lib.hid (HS2.out k (by rw [← HLL.out]; exact hk))
              by_cases hgt : tot ((sortD ys).take k) < tot ((sortD xs).take k)
              · have HF2 : Hid (fairB xs ys = false) := by
                  have : fairB xs ys = false := by
                    rw [HF.out, ← Bool.not_eq_true]
                    intro hm
                    have := (majB_iff.1 hm).1 k (by rw [sortD_length]; exact hk)
                    omega
                  exact Lib.hid this
                generalize tot ((sortD ys).take k) = ty at hgt HT2
                generalize tot ((sortD xs).take k) = tx at hgt HT1
                go_wp2_with fail
                refine HT1.out.mono ?_
                rintro e w5 ⟨rfl, rfl⟩
                go_wp2_with fail
                refine HT2.out.mono ?_
                rintro e w5 ⟨rfl, rfl⟩
                go_wp2
                go_ret
                exact ⟨ret_bool HF2.out.symm, HB4.out⟩
              · have HN : Hid (∀ j, j < k + 1 → tot ((sortD xs).take j) ≤ tot ((sortD ys).take j)) := by
                  have : ∀ j, j < k + 1 → tot ((sortD xs).take j) ≤ tot ((sortD ys).take j) := fun j hj => by
                    by_cases e : j = k
                    · subst e; omega
                    · exact HALL.out j (by omega)
                  exact Lib.hid this
                generalize tot ((sortD ys).take k) = ty at hgt HT2
                generalize tot ((sortD xs).take k) = tx at hgt HT1
                go_wp2_with fail
                refine HT1.out.mono ?_
                rintro e w5 ⟨rfl, rfl⟩
                go_wp2_with fail
                refine HT2.out.mono ?_
                rintro e w5 ⟨rfl, rfl⟩
                go_wp2
                go_round
                case rel => exact ⟨k + 1, by omega, by go_num, HN⟩
                case measure => simp [intOf]; omega
            · obtain rfl : k = xs.length := by omega
              have HF2 : Hid (fairB xs ys = true) := by
                have : fairB xs ys = true := by
                  rw [HF.out, majB_iff]
                  refine ⟨fun j hj => ?_, HT.out⟩
                  rw [sortD_length] at hj
                  by_cases e : j = xs.length
                  · rw [List.take_of_length_le (by rw [sortD_length]; omega), List.take_of_length_le (by rw [sortD_length, ← HLL.out]; omega), HT.out]
                    exact Int.le_refl _
                  · exact HALL.out j (by omega)
                exact Lib.hid this
              go_wp2
              go_ret
              exact ⟨ret_bool HF2.out.symm, HB4.out⟩
        · have ht' : (tot (sortD xs) != tot (sortD ys)) = true := by simpa using ht
          have HF2 : Hid (fairB xs ys = false) := by
            have : fairB xs ys = false := by
              rw [HF.out, ← Bool.not_eq_true]
              intro hm
              exact ht (majB_iff.1 hm).2
            exact Lib.hid this
          clear ht
          go_wp2
          go_ret
          exact ⟨ret_bool HF2.out.symm, HB4.out⟩
      · have hl' : ((xs.length : Int) != (ys.length : Int)) = true := by simp; omega
        have HF : Hid (fairB xs ys = false) := by
          have : fairB xs ys = false := by simp [fairB, hl]
          exact Lib.hid this
        clear hx hy hl
        go_wp2
        go_ret
        exact ⟨ret_bool HF.out.symm, HB2.out⟩
end Go.Proofs.Ytggohgkjdnnndaa
