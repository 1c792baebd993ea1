/- spec.MostDone: what it returns, for every day. No condition. -/
import Derived.Test.YthihcnlbohhemaaDayMove
import Derived.Test.YthihcnlbohhemaaDayMost
namespace Go.Proofs.Ythihcnlbohhemaa
open Go.RowKit

theorem move_any {n : Nat} {cs : List Nat} (G : Good n cs) {has : List Int} (hH : Has cs n has) : ∀ (f duty tried : Nat) (cv hvv : Value) (w : World), duty < cs.length → untried n tried ≤ f → tried < 2 ^ n → IsNats w cv cs → IsInts w hvv has →
    Calls Try.prog 101 #[.agg #[.int .i64 n, cv], hvv, .int .i64 duty, .int .i64 tried] w (MovePost (mv cs n has f duty tried) w) := by
  intro f
  induction f with
  | zero =>
    intro duty tried cv hvv w hd hu ht h0 h1
    rw [mv_is]
    exact move_loop G hH (recF cs n has 0) 0 (fun d t _ h => absurd h (Nat.not_lt_zero _)) (fun d t cv hvv w _ h _ _ _ => absurd h (Nat.not_lt_zero _)) duty tried cv hvv w hd hu ht h0 h1
  | succ f ih =>
    intro duty tried cv hvv w hd hu ht h0 h1
    rw [mv_is]
    exact move_loop G hH (recF cs n has (f + 1)) (f + 1) (fun d t hd h => mv_moved hH f d t hd (by omega)) (fun d t cv hvv w hd h ht h0 h1 => ih d t cv hvv w hd (by omega) ht h0 h1) duty tried cv hvv w hd hu ht h0 h1
theorem rep_snoc (k : Nat) : (List.replicate k (-1 : Int)).map (Value.int .i64) ++ [Value.int .i64 (-1)] = (List.replicate (k + 1) (-1 : Int)).map (Value.int .i64) := by
  rw [List.replicate_succ', List.map_append]; rfl
theorem one_news (W : World) (x : Value) (t : TypeId) : ∀ j u, [x][j]? = some u → (W.alloc (.cells #[x] t)).cell? ((⟨W.heap.size, 0, none⟩ : Addr).add j) = some u := fun j u hj =>
  World.news_of_block (w := W.alloc (.cells #[x] t)) (B := W.heap.size) (cs := #[x]) (t := t) (fr := (0, 0)) (heap_alloc_new W _) j u hj

set_option maxHeartbeats 1600000 in
theorem specMostDone_any (ppl : Int) (xs : List Int) (cv : Value) (w : World) (h1 : IsInts w cv xs) :
    Calls Try.prog 43 #[.agg #[.int .i64 ppl, cv]] w fun e w' => e = .returned (.int .i64 (D.most ⟨ppl, xs⟩)) ∧ Below w.heap.size w w' := by
  obtain ⟨i0, hi, hz0, hz1, hz2⟩ := info_parts infoIntD
  have HII := Lib.hid (And.intro hi (And.intro hz0 (And.intro hz1 hz2)))
  clear hi hz0 hz1 hz2
  have hB0 : Below w.heap.size w (w.alloc (.cells #[.int .i64 ppl, cv] 44)) := (Below.refl _ _).alloc (Nat.le_refl _) _
  have X0 := Lib.hid (DayBox.new (ppl := ppl) 44 h1)
  have C0 := Lib.hid (specDayOk_any ppl xs cv _ X0.out.ints)
  have Q0 := Lib.hid hB0
  clear hB0
  obtain ⟨a, n0, c0, rfl⟩ := h1.slice
  clear h1
  rcases D.two ppl xs with hok | ⟨hok, n, cs, rfl, rfl, G, hdn, hdc⟩
  · have HS : Hid (D.most ⟨ppl, xs⟩ = -1) := by
      have : D.most ⟨ppl, xs⟩ = -1 := by simp [D.most, hok]
      exact Lib.hid this
    go_enter Try.func43, Try.ntmps43
    go_wp2_with fail
    refine C0.out.mono ?_
    rintro e w1 ⟨rfl, hb1⟩
    have Q1 := Lib.hid (Q0.out.trans (hb1.mono Q0.out.size))
    clear hb1
    go_wp2_with fail
    go_ret
    exact ⟨ret_int HS.out.symm, Q1.out⟩
  · have HS : Hid (D.most ⟨n, cs.map Int.ofNat⟩ = ((most cs n cs.length).2 : Int)) := by
      have : D.most ⟨n, cs.map Int.ofNat⟩ = ((most cs n cs.length).2 : Int) := by simp only [D.most, hok, if_true, hdn, hdc]
      exact Lib.hid this
    have HG := Lib.hid G
    have hl5 := G.l5
    have hn6 := G.n6
    clear hdn hdc G
    go_enter Try.func43, Try.ntmps43
    go_wp2_with fail
    refine C0.out.mono ?_
    rintro e w1 ⟨rfl, hb1⟩
    have X1 := Lib.hid (X0.out.below hb1)
    have Q1 := Lib.hid (Q0.out.trans (hb1.mono Q0.out.size))
    obtain ⟨aa, cap, hsl, hcap1, hcap2, _⟩ := X1.out.ints.nats
    simp only [Value.slice.injEq] at hsl
    obtain ⟨rfl, rfl, rfl⟩ := hsl
    unfold maxLen at hcap2
    have OA := Lib.hid ((Own.nil w1).lit 3 #[] 0 rfl (Nat.zero_le _))
    clear hb1
    go_wp2_with fail
    go_loopw [3, 4] (fun v i wr => ∃ (k : Nat) (ha : Option Addr) (hp : Nat), k ≤ n ∧ v = .slice ha k hp ∧ i = .int .i64 k ∧ Own w1 [rowT 3 1 (.slice ha k hp) k ((List.replicate k (-1 : Int)).map (Value.int .i64))] wr) (fun _ i _ => n - (intOf i).toNat)
    case atStart => exact ⟨0, _, _, Nat.zero_le _, rfl, rfl, OA.out⟩
    case round =>
      obtain ⟨k, ha, hp, hk, rfl, rfl, hO⟩ := hrel
      have O2 := Lib.hid hO
      have X2 := Lib.hid (X1.out.below (hO.keep.mono (Nat.le_refl _)))
      have Q2 := Lib.hid (Q1.out.trans (hO.keep.mono Q1.out.size))
      have x0 := X2.out.c0
      have x1 := X2.out.c1
      clear hO OA
      by_cases hlt : k < n
      · have hlt' : (k : Int) < (n : Int) := by omega
        go_wp2_with (at_builtin; refine wpList_append_lies _ rfl _ _ 23 rfl 0 3 i0 (.int .i64 0) 1 8 Try.underlying23 HII.out.1 HII.out.2.1 HII.out.2.2.1 HII.out.2.2.2 rfl (by decide) (.slice ha k hp) k ((List.replicate k (-1 : Int)).map (Value.int .i64)) rfl ((O2.out.row 0 (by simp) rfl).alloc _) ⟨wr.heap.size, 0, none⟩ 1 1 [.int .i64 (-1)] rfl rfl (one_news _ _ _) (by simp [Value.oneCell']) (by omega) (by unfold maxLen; omega) (by omega) (Nat.zero_le _) _ rfl ?_; intro g9 cp w4 hown hgrow hat hlt3; have O3 := Lib.hid (by have h := O2.out.push (i := 0) (by simp) rfl hgrow hown hat; simp only [List.set_cons_zero, rep_snoc] at h; exact h); clear hown hgrow hat hlt3)
        go_roundw
        case rel => exact ⟨k + 1, _, _, by omega, rfl, by go_num, O3.out⟩
        case measure => simp [intOf]; omega
      · obtain rfl : k = n := by omega
        have I2 := Lib.hid (IsInts.of_ownsN (xs := List.replicate k (-1 : Int)) (by simp) (O2.out.row 0 (by simp) rfl))
        go_wp2_with fail
        clear x0 x1
        go_loopw [3, 5, 6] (fun v c i wr => ∃ (j : Nat) (va : Option Addr) (vp : Nat), j ≤ cs.length ∧ v = .slice va k vp ∧ c = .int .i64 ((most cs k j).2 : Int) ∧ i = .int .i64 j ∧ IsInts wr (.slice va k vp) (most cs k j).1 ∧ DayBox w.heap.size k (.slice a cs.length c0) (cs.map Int.ofNat) wr ∧ Below w.heap.size w wr) (fun _ _ i _ => cs.length - (intOf i).toNat)
        case atStart => exact ⟨0, _, _, Nat.zero_le _, rfl, rfl, rfl, I2.out, X2.out, Q2.out⟩
        case round =>
          obtain ⟨j, va, vp, hj, rfl, rfl, rfl, hI, hX, hQ⟩ := hrel
          have I3 := Lib.hid hI
          have X3 := Lib.hid hX
          have Q3 := Lib.hid hQ
          have x0 := hX.c0
          have x1 := hX.c1
          clear hI hX hQ
          by_cases hjl : j < cs.length
          · have MM := Lib.hid (most_most (cs := cs) (n := k) j hj)
            have HST := Lib.hid (most_step cs k j)
            have HB := Lib.hid (most_cnt cs k j)
            go_wp2_with fail
            refine (move_any HG.out MM.out.has k j 0 _ _ _ hjl untried_le (Nat.two_pow_pos _) X3.out.ints.nats I3.out).mono ?_
            rintro e w5 ⟨vx, rfl, hIx, hb5⟩
            have HM := Lib.hid (mv_moved MM.out.has k j 0 hjl untried_le)
            have X5 := Lib.hid (X3.out.below hb5)
            have I5 := Lib.hid (I3.out.below hb5)
            have Q5 := Lib.hid (Q3.out.trans (hb5.mono Q3.out.size))
            have IX := Lib.hid hIx
            have hcw : (most cs k j).2 ≤ 5 := by have := HB.out; omega
            clear hb5 x0 x1
            rcases Bool.eq_false_or_eq_true (mv cs k (most cs k j).1 k j 0).2.2 with hx | hx
            · have HM2 : Hid (most cs k (j + 1) = ((mv cs k (most cs k j).1 k j 0).1, (most cs k j).2 + 1)) := by
                have : most cs k (j + 1) = ((mv cs k (most cs k j).1 k j 0).1, (most cs k j).2 + 1) := by rw [HST.out, hx]; rfl
                exact Lib.hid this
              obtain ⟨va2, vp2, hvx, _⟩ := hIx
              rw [(HM.out.good hx).len] at hvx
              subst hvx
              rw [hx]
              generalize mv cs k (most cs k j).1 k j 0 = x at *
              generalize (most cs k j).2 = v at *
              go_wp2_with fail
              go_roundw
              case rel => exact ⟨j + 1, _, _, by omega, rfl, by rw [HM2.out]; simp, by go_num, by rw [HM2.out]; exact IX.out, X5.out, Q5.out⟩
              case measure => simp [intOf]; omega
            · have HM2 : Hid (most cs k (j + 1) = most cs k j) := by
                have : most cs k (j + 1) = most cs k j := by rw [HST.out, hx]; rfl
                exact Lib.hid this
              rw [hx]
              clear hIx
              obtain ⟨vxa, vxn, vxc, rfl⟩ := IX.out.slice
              generalize mv cs k (most cs k j).1 k j 0 = x at *
              generalize most cs k j = y at *
              go_wp2_with fail
              go_roundw
              case rel => exact ⟨j + 1, _, _, by omega, rfl, by rw [HM2.out], by go_num, by rw [HM2.out]; exact I5.out, X5.out, Q5.out⟩
              case measure => simp [intOf]; omega
          · obtain rfl : j = cs.length := by omega
            generalize (most cs k cs.length).2 = v at *
            go_wp2_with fail
            go_ret
            exact ⟨ret_int HS.out.symm, Q3.out⟩
end Go.Proofs.Ythihcnlbohhemaa
