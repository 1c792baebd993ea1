/- impl.MostDone: what it returns, for every day. No condition. -/
import Derived.Test.YthihcnlbohhemaaDayMostI
import Derived.Lib.SliceRun
import Derived.BigFrame
namespace Go.Proofs.Ythihcnlbohhemaa
open Go.RowKit

def setL (xs : List Value) : Nat → List Value → List Value
  | _, [] => xs
  | o, v :: r => setL (xs.set o v) (o + 1) r
theorem setL_is : ∀ (vs xs : List Value) (o : Nat), o + vs.length ≤ xs.length → setL xs o vs = xs.take o ++ vs ++ xs.drop (o + vs.length) := by
  intro vs
  induction vs with
  | nil => intro xs o h; simp [setL]
  | cons v r ih =>
    intro xs o h
    simp only [List.length_cons] at h
    simp only [setL]
    rw [ih _ _ (by simp; omega)]
    have ho : o < xs.length := by omega
    rw [List.take_succ_eq_append_getElem (by simpa using ho), List.getElem_set_self, List.take_set_of_le (Nat.le_refl _), List.drop_set_of_lt (by omega)]
    simp only [List.length_cons, List.append_assoc, List.cons_append, List.nil_append]
    rw [show o + 1 + r.length = o + (r.length + 1) by omega]
theorem setL_all {xs vs : List Value} (h : vs.length = xs.length) : setL xs 0 vs = vs := by
  rw [setL_is vs xs 0 (by omega), Nat.zero_add, List.take_zero, List.nil_append, h, List.drop_length, List.append_nil]
theorem Own.setAll {wB : World} {t : Thing} {ts : List Thing} {e : TypeId} {g n cap : Nat} : ∀ (vs : List Value) (o : Nat) (xs : List Value) (w : World), Own wB (t :: rowT e 1 (.slice (some ⟨g, 0, none⟩) n cap) n xs :: ts) w →
    Own wB (t :: rowT e 1 (.slice (some ⟨g, 0, none⟩) n cap) n (setL xs o vs) :: ts) (w.setCells g o vs) := by
  intro vs
  induction vs with
  | nil => intro o xs w h; exact h
  | cons v r ih =>
    intro o xs w h
    have h2 := h.store (i := 1) (by simp) rfl o v
    simp only [List.set_cons_succ, List.set_cons_zero] at h2
    exact ih (o + 1) _ _ h2
theorem zeroB (w : World) : (zeroValue 4).run Try.prog w = .ok (.bool false) w := by kernel_rfl
/-- nobody is asked any longer -/
theorem clear_any {wB w : World} {t : Thing} {ts : List Thing} {g n tr : Nat} (h : Own wB (t :: rowT 4 1 (.slice (some ⟨g, 0, none⟩) n n) n (askL n tr) :: ts) w) :
    ∃ W, (∀ ty, (Builtin.clear_ #[24] ty #[.slice (some ⟨g, 0, none⟩) n n]).run Try.prog w = .ok (.tuple #[]) W) ∧ Own wB (t :: rowT 4 1 (.slice (some ⟨g, 0, none⟩) n n) n (askL n 0) :: ts) W := by
  have ha : askL n 0 = List.replicate n (.bool false) := by
    apply List.ext_getElem
    · simp [askL]
    · intro i h1 h2; simp [askL]
  by_cases hn : n = 0
  · subst hn
    refine ⟨w, fun ty => ?_, by simpa [askL] using h⟩
    simp [Builtin.clear_, run_underlying Try.underlying24]
  · refine ⟨w.setCells g 0 (List.replicate n (.bool false)), fun ty => ?_, ?_⟩
    · refine Lib.run_clear_slice w 24 4 ty (.bool false) Try.underlying24 zeroB rfl rfl g 0 n n (by omega) (fun j hj => ?_) (fun j _ => ?_)
      · rw [Nat.zero_add, (h.row 1 (by simp) rfl).cellAt j (by omega), askL_at hj]; rfl
      · exact (h.row 1 (by simp) rfl).frozenAt _
    · have := h.setAll (List.replicate n (.bool false)) 0 (askL n tr) w
      rw [setL_all (by simp [askL])] at this
      rw [ha]; exact this

theorem most_step (cs : List Nat) (n k : Nat) : most cs n (k + 1) = if (mv cs n (most cs n k).1 n k 0).2.2 then ((mv cs n (most cs n k).1 n k 0).1, (most cs n k).2 + 1) else most cs n k := rfl
theorem most_cnt (cs : List Nat) (n : Nat) : ∀ k, (most cs n k).2 ≤ k := by
  intro k
  induction k with
  | zero => exact Nat.le_refl _
  | succ k ih =>
    rw [most_step]
    split
    · simp only []; omega
    · omega

set_option maxHeartbeats 1600000 in
theorem implMostDone_any (ppl : Int) (xs : List Int) (cv : Value) (w : World) (h1 : IsInts w cv xs) :
    Calls Try.prog 42 #[.agg #[.int .i64 ppl, cv]] w fun e w' => e = .returned (.int .i64 (D.most ⟨ppl, xs⟩)) ∧ Below w.heap.size w w' := by
  have hB0 : Below w.heap.size w (w.alloc (.cells #[.int .i64 ppl, cv] 44)) := (Below.refl _ _).alloc (Nat.le_refl _) _
  have X0 := Lib.hid (DayBox.new (ppl := ppl) 44 h1)
  have C0 := Lib.hid (implDayOk_any ppl xs cv _ X0.out.ints)
  have Q0 := Lib.hid hB0
  clear hB0
  obtain ⟨a, n0, c0, rfl⟩ := h1.slice
  clear h1
  rcases D.two ppl xs with hok | ⟨hok, n, cs, rfl, rfl, G, hdn, hdc⟩
  · have HS : Hid (D.most ⟨ppl, xs⟩ = -1) := by
      have : D.most ⟨ppl, xs⟩ = -1 := by simp [D.most, hok]
      exact Lib.hid this
    go_enter Try.func42, Try.ntmps42
    go_wp2_with fail
    refine C0.out.mono ?_
    rintro e w1 ⟨rfl, hb1⟩
    have Q1 := Lib.hid (Q0.out.trans (hb1.mono Q0.out.size))
    clear hb1
    go_wp2_with fail
    go_ret
    exact ⟨ret_int HS.out.symm, Q1.out⟩
  · have HS : Hid (D.most ⟨n, cs.map Int.ofNat⟩ = ((most cs n cs.length).2 : Int)) := by
      have : D.most ⟨n, cs.map Int.ofNat⟩ = ((most cs n cs.length).2 : Int) := by simp only [D.most, hok, if_true, hdn, hdc]
      exact Lib.hid this
    have HG := Lib.hid G
    have hl5 := G.l5
    have hn6 := G.n6
    clear hdn hdc G
    go_enter Try.func42, Try.ntmps42
    go_wp2_with fail
    refine C0.out.mono ?_
    rintro e w1 ⟨rfl, hb1⟩
    have X1 := Lib.hid (X0.out.below hb1)
    have Q1 := Lib.hid (Q0.out.trans (hb1.mono Q0.out.size))
    have x0 := X1.out.c0
    have x1 := X1.out.c1
    obtain ⟨aa, cap, hsl, hcap1, hcap2, _⟩ := X1.out.ints.nats
    simp only [Value.slice.injEq] at hsl
    obtain ⟨rfl, rfl, rfl⟩ := hsl
    unfold maxLen at hcap2
    clear hb1
    go_wp2_with fail
    clear x0 x1
    refine (newGiving_any hn6 a cs.length c0 w1).mono ?_
    rintro e w2 ⟨gd, ga, rfl, hO⟩
    have O2 := Lib.hid ((hO.box #[.int .i64 n, .slice a cs.length c0, .slice (some ⟨gd, 0, none⟩) n n, .slice (some ⟨ga, 0, none⟩) n n] 96).perm (pm231 _ _ _ []))
    have hbb := DayBox.below X1.out (hO.keep.mono (Nat.le_refl _))
    have x0 := hbb.c0
    have x1 := hbb.c1
    have hlt0 : w.heap.size < w2.heap.size := hbb.hB
    clear hO hbb
    go_wp2_with fail
    clear x0 x1
    generalize w2.heap.size = gB at *
    go_loopw [4, 14] (fun d i wr => ∃ (k tr : Nat), k ≤ cs.length ∧ d = .int .i64 ((most cs n k).2 : Int) ∧ i = .int .i64 k ∧ Own w1 [rowT 3 1 (.slice (some ⟨gd, 0, none⟩) n n) n ((most cs n k).1.map (Value.int .i64)), rowT 4 1 (.slice (some ⟨ga, 0, none⟩) n n) n (askL n tr), cellsT gB #[.int .i64 n, .slice a cs.length c0, .slice (some ⟨gd, 0, none⟩) n n, .slice (some ⟨ga, 0, none⟩) n n] 96] wr) (fun _ i _ => cs.length - (intOf i).toNat)
    case atStart => exact ⟨0, 0, Nat.zero_le _, rfl, rfl, O2.out⟩
    case round =>
      obtain ⟨k, tr, hk, rfl, rfl, hO⟩ := hrel
      have O3 := Lib.hid hO
      have e3 := cellsT_cell (hO.cells 2 (by simp) rfl) 3
      simp only [List.getElem?_toArray, List.getElem?_cons_zero, List.getElem?_cons_succ] at e3
      clear hO O2 hlt0
      by_cases hlt : k < cs.length
      · obtain ⟨W, hcl, hOW⟩ := clear_any O3.out
        have O4 := Lib.hid hOW
        have b0 := cellsT_cell (hOW.cells 2 (by simp) rfl) 0
        have b1 := cellsT_cell (hOW.cells 2 (by simp) rfl) 1
        have b2 := cellsT_cell (hOW.cells 2 (by simp) rfl) 2
        have b3 := cellsT_cell (hOW.cells 2 (by simp) rfl) 3
        simp only [List.getElem?_toArray, List.getElem?_cons_zero, List.getElem?_cons_succ] at b0 b1 b2 b3
        have MM := Lib.hid (most_most (cs := cs) (n := n) k hk)
        have HST := Lib.hid (most_step cs n k)
        have HB := Lib.hid (most_cnt cs n k)
        clear hOW
        go_wp2_with (simp only [hcl])
        refine (give_any HG.out X1.out.ints.nats MM.out.has n k 0 _ W hlt untried_le (Nat.two_pow_pos _) O4.out).mono ?_
        rintro e w3 ⟨rfl, hO5⟩
        have O5 := Lib.hid hO5
        clear hO5 b0 b1 b2 b3 e3
        have hcw : (most cs n k).2 ≤ 5 := by have := HB.out; omega
        rcases Bool.eq_false_or_eq_true (mv cs n (most cs n k).1 n k 0).2.2 with hx | hx
        · have HM2 : Hid (most cs n (k + 1) = ((mv cs n (most cs n k).1 n k 0).1, (most cs n k).2 + 1)) := by
            have : most cs n (k + 1) = ((mv cs n (most cs n k).1 n k 0).1, (most cs n k).2 + 1) := by rw [HST.out, hx]; rfl
            exact Lib.hid this
          rw [hx]
          generalize mv cs n (most cs n k).1 n k 0 = x at *
          generalize (most cs n k).2 = v at *
          go_wp2_with fail
          go_roundw
          case rel => exact ⟨k + 1, x.2.1, by omega, by rw [HM2.out]; simp, by go_num, by rw [HM2.out]; exact O5.out⟩
          case measure => simp [intOf]; omega
        · have HM2 : Hid (most cs n (k + 1) = most cs n k) := by
            have : most cs n (k + 1) = most cs n k := by rw [HST.out, hx]; rfl
            exact Lib.hid this
          have hsame := ((mv_moved MM.out.has n k 0 hlt untried_le).fail hx).1
          rw [hsame] at O5
          rw [hx]
          clear hsame
          generalize mv cs n (most cs n k).1 n k 0 = x at *
          generalize hmk : most cs n k = y at *
          go_wp2_with fail
          go_roundw
          case rel => exact ⟨k + 1, x.2.1, by omega, by rw [HM2.out], by go_num, by rw [HM2.out]; exact O5.out⟩
          case measure => simp [intOf]; omega
      · obtain rfl : k = cs.length := by omega
        have QF := Lib.hid (Q1.out.trans (O3.out.keep.mono Q1.out.size))
        generalize (most cs n cs.length).2 = v at *
        go_wp2_with fail
        go_ret
        exact ⟨ret_int HS.out.symm, QF.out⟩
end Go.Proofs.Ythihcnlbohhemaa
