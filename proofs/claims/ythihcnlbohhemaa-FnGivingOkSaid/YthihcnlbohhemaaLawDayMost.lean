/- The walk of FnMostDone: true at every code. No condition. -/
import Derived.Test.YthihcnlbohhemaaDayDrawn
import Derived.Test.YthihcnlbohhemaaDayShort
import Derived.Test.YthihcnlbohhemaaDayMostS
import Derived.Deep.RegionLaw
namespace Go.Proofs.Ythihcnlbohhemaa
open Go.RowKit

theorem or_pow6 (c n : Nat) (hc : c < 64) (hn : n ≤ 6) : bits BinOp.or IntKind.i64 (c : Int) ((2 ^ n : Nat) : Int) = ((c ||| 2 ^ n : Nat) : Int) := by
  have : ∀ c : Nat, c < 64 → ∀ n : Nat, n < 7 → bits BinOp.or IntKind.i64 (c : Int) ((2 ^ n : Nat) : Int) = ((c ||| 2 ^ n : Nat) : Int) := by decide +kernel
  exact this c hc n (by omega)
/-- the numbers of a day with one more who can do all -/
def moreL (cs : List Nat) (n k : Nat) : List Int := ((cs.take k).map (fun c => c ||| 2 ^ n)).map Int.ofNat
theorem moreL_length {cs : List Nat} {n k : Nat} (h : k ≤ cs.length) : (moreL cs n k).length = k := by simp [moreL]; omega
theorem moreL_snoc {cs : List Nat} {n k : Nat} (h : k < cs.length) : (moreL cs n k).map (Value.int .i64) ++ [Value.int .i64 ((cs[k] ||| 2 ^ n : Nat) : Int)] = (moreL cs n (k + 1)).map (Value.int .i64) := by
  simp only [moreL, List.take_succ_eq_append_getElem h, List.map_append, List.map_cons, List.map_nil]; rfl
theorem more_ok {n : Nat} {cs : List Nat} (G : Good n cs) (h6 : n < 6) : D.ok ⟨(n : Int) + 1, moreL cs n cs.length⟩ = true := by
  have e : ((n : Int) + 1).toNat = n + 1 := by omega
  simp only [D.ok, Bool.and_eq_true, decide_eq_true_eq, List.all_eq_true, moreL_length (Nat.le_refl cs.length)]
  refine ⟨⟨by omega, by omega⟩, G.l5, fun x hx => ?_⟩
  simp only [moreL, List.take_length, List.map_map, List.mem_map, Function.comp] at hx
  obtain ⟨c, hc, rfl⟩ := hx
  have hlt : c ||| 2 ^ n < 2 ^ (n + 1) := Nat.or_lt_two_pow (Nat.lt_of_lt_of_le (G.lt c hc) (Nat.pow_le_pow_right (by omega) (by omega))) (Nat.pow_lt_pow_right (by omega) (by omega))
  have e2 : ((2 ^ (n + 1) : Nat) : Int) = (2 : Int) ^ (n + 1) := by simp
  simp only [canOk, Bool.and_eq_true, decide_eq_true_eq, e, Int.ofNat_eq_natCast]
  omega
theorem more_most {n : Nat} {cs : List Nat} (G : Good n cs) : D.most ⟨(n : Int) + 1, moreL cs n cs.length⟩ = -1 ∨ D.most ⟨(n : Int) + 1, moreL cs n cs.length⟩ = ((min ((most cs n cs.length).2 + 1) cs.length : Nat) : Int) := by
  by_cases h6 : n < 6
  · right
    have hok := more_ok G h6
    have e : D.n ⟨(n : Int) + 1, moreL cs n cs.length⟩ = n + 1 := by simp only [D.n]; omega
    have e2 : D.cs ⟨(n : Int) + 1, moreL cs n cs.length⟩ = cs.map (fun c => c ||| 2 ^ n) := by
      simp only [D.cs, moreL, List.take_length, List.map_map]
      apply List.map_congr_left
      intro c _
      simp
    simp only [D.most, hok, if_true, e, e2, List.length_map]
    rw [most_more G.lt]
  · left
    have hbad : D.ok ⟨(n : Int) + 1, moreL cs n cs.length⟩ = false := by
      simp only [D.ok, Bool.and_eq_false_iff, decide_eq_false_iff_not]
      exact .inl (.inr (by omega))
    simp [D.most, hbad]
theorem most_n {n : Nat} {cs : List Nat} : (most cs n cs.length).2 ≤ n := by
  have M := most_most (cs := cs) (n := n) cs.length (Nat.le_refl _)
  have h := short_le M.has M.one (fun _ => true)
  have h1 : cnt cs.length (fun _ => true) = cs.length := by
    have : cnt cs.length (fun _ => true) = sm cs.length (fun _ => 1) := rfl
    rw [this, sm_one]
  rw [← M.sum, h1] at h
  have := cnt_le n (nb cs (fun _ => true))
  omega

set_option maxRecDepth 20000 in
set_option maxHeartbeats 6400000 in
theorem lawMostDone_walk {w : World} (a : Option Addr) (len cap : Nat) (zs : List Int) (h : IsRow .u8 w a len cap zs) :
    Calls Try.prog 7 #[.slice a len cap] w fun e w' => e = .returned (.bool true) ∧ Below w.heap.size w w' := by
  obtain ⟨i0, hi, hz0, hz1, hz2⟩ := info_parts infoIntD
  have HII := Lib.hid (And.intro hi (And.intro hz0 (And.intro hz1 hz2)))
  clear hi hz0 hz1 hz2
  have HD := Lib.hid (drawMostDone_any a len cap zs w h)
  have hl := rowD_len h
  clear h
  by_cases hbig : 1048576 < len
  · go_enter Try.func7, Try.ntmps7
    go_wp2_with fail
    go_ret
    exact ⟨rfl, Below.refl _ _⟩
  · go_enter Try.func7, Try.ntmps7
    go_wp2_with fail
    refine HD.out.mono ?_
    clear HD
    rintro e w1 ⟨ppl, xs, cv, rfl, hxl, hI, hb⟩
    obtain ⟨va, vn, vc, rfl⟩ := hI.slice
    have hal : Below w1.heap.size w1 (w1.alloc (.cells #[.int .i64 ppl, .slice va vn vc] 44)) := (Below.refl _ _).alloc (Nat.le_refl _) _
    have X1 := Lib.hid (DayBox.new (ppl := ppl) 44 hI)
    have Q1 := Lib.hid (hb.trans (hal.mono hb.size))
    clear hI hb hal
    go_wp2_with fail
    generalize w1.heap.size = b3 at *
    refine (implMostDone_any ppl xs _ _ X1.out.ints).mono ?_
    rintro e w2 ⟨rfl, hb2⟩
    have X2 := Lib.hid (X1.out.below hb2)
    have Q2 := Lib.hid (Q1.out.trans (hb2.mono Q1.out.size))
    have x0 := X2.out.c0
    have x1 := X2.out.c1
    clear hb2 X1 Q1
    go_wp2_with fail
    clear x0 x1
    refine (specMostDone_any ppl xs _ _ X2.out.ints).mono ?_
    rintro e w3 ⟨rfl, hb3⟩
    have X3 := Lib.hid (X2.out.below hb3)
    have Q3 := Lib.hid (Q2.out.trans (hb3.mono Q2.out.size))
    have x0 := X3.out.c0
    have x1 := X3.out.c1
    clear hb3 X2 Q2
    rcases D.two ppl xs with hok | ⟨hok, n, cs, rfl, rfl, G, hdn, hdc⟩
    · have hs : D.most ⟨ppl, xs⟩ = -1 := by simp [D.most, hok]
      rw [hs]
      have CI := Lib.hid (implDayOk_any ppl xs _ _ X3.out.ints)
      rw [hok] at CI
      clear hs hok
      go_wp2_with fail
      refine CI.out.mono ?_
      rintro e w4 ⟨rfl, hb4⟩
      have Q4 := Lib.hid (Q3.out.trans (hb4.mono Q3.out.size))
      clear hb4
      go_wp2_with (go_at_call 23; refine (aliveD_any _).mono ?_; rintro e w' ⟨rfl, rfl⟩)
      go_ret
      exact ⟨rfl, Q4.out⟩
    · obtain ⟨e1, e2⟩ := short_is2 hok hdc (P := 2 ^ cs.length) rfl
      have hm : D.most ⟨n, cs.map Int.ofNat⟩ = ((most cs n cs.length).2 : Int) := by simp only [D.most, hok, if_true, hdn, hdc]
      have hbm := best_most G
      rw [e1] at hbm
      have HMM := Lib.hid (more_most G)
      have hmn := most_n (n := n) (cs := cs)
      have hml := most_cnt cs n cs.length
      have HG := Lib.hid G
      have CS := Lib.hid (implShortOf_any (n : Int) (cs.map Int.ofNat) _ _ X3.out.ints)
      rw [hm]
      have hl5 := G.l5
      have hn6 := G.n6
      obtain ⟨Q, hQ, hQ2, hQ3, hQ4⟩ : ∃ Q : Nat, (2 : Int) ^ n = (Q : Int) ∧ 2 ^ n = Q ∧ 1 ≤ Q ∧ Q ≤ 64 := by
        have : ∀ n : Nat, n ≤ 6 → 1 ≤ 2 ^ n ∧ 2 ^ n ≤ 64 := by decide
        exact ⟨2 ^ n, by simp, rfl, (this n hn6).1, (this n hn6).2⟩
      have hQw : IntKind.i64.wrap (Q : Int) = Q := IntWalk.i64_in _ (by omega)
      have HOR : Hid (∀ k (h : k < cs.length), bits BinOp.or IntKind.i64 (cs[k] : Int) (Q : Int) = ((cs[k] ||| 2 ^ n : Nat) : Int)) := Lib.hid (fun k h => by have := or_pow6 cs[k] n (HG.out.lt64 k h) hn6; rw [hQ2] at this ⊢; exact this)
      have hn64 : n < 64 := by omega
      have hnw : IntKind.i64.wrap ((n : Int) + 1) = (n : Int) + 1 := IntWalk.i64_in _ (by omega)
      obtain ⟨aa, cp, hsl, hcap1, hcap2, _⟩ := X3.out.ints.nats
      simp only [Value.slice.injEq] at hsl
      obtain ⟨rfl, rfl, rfl⟩ := hsl
      unfold maxLen at hcap2
      generalize hmc : (most cs n cs.length).2 = mc at *
      have HMC := Lib.hid hmc
      generalize hsd : (D.short ⟨n, cs.map Int.ofNat⟩).1 = sd at *
      have HSD := Lib.hid hsd
      clear hxl e1 e2 hm hdn hdc G hQ2 hmc hsd
      go_wp2_with fail
      refine CS.out.mono ?_
      rintro e w4 ⟨rfl, hb4⟩
      rw [HSD.out, hok]
      have X4 := Lib.hid (X3.out.below hb4)
      have Q4 := Lib.hid (Q3.out.trans (hb4.mono Q3.out.size))
      have O4 := Lib.hid (((Own.nil w4).box #[.int .i64 ((n : Int) + 1), .slice none 0 0] 44).idle 3)
      have y0 := X4.out.c0
      clear hb4 x0 x1 CS hok
      go_wp2_with fail
      generalize hb8 : w4.heap.size = b8 at *
      have HB8 := Lib.hid hb8
      clear y0 hb8
      go_loopw [9] (fun i wr => ∃ (k : Nat) (ca : Option Addr) (cc : Nat), k ≤ cs.length ∧ i = .int .i64 k ∧ Own w4 [rowT 3 1 (.slice ca k cc) k ((moreL cs n k).map (Value.int .i64)), cellsT b8 #[.int .i64 ((n : Int) + 1), .slice ca k cc] 44] wr) (fun i _ => cs.length - (intOf i).toNat)
      case atStart => exact ⟨0, none, 0, Nat.zero_le _, rfl, O4.out⟩
      case round =>
        obtain ⟨k, ca, cc, hk, rfl, hO⟩ := hrel
        have O5 := Lib.hid hO
        have X5 := Lib.hid (X4.out.below (hO.keep.mono (Nat.le_refl _)))
        have x0 := X5.out.c0
        have x1 := X5.out.c1
        have r0 := cellsT_cell (hO.cells 1 (by simp) rfl) 0
        have r1 := cellsT_cell (hO.cells 1 (by simp) rfl) 1
        simp only [List.getElem?_toArray, List.getElem?_cons_zero, List.getElem?_cons_succ] at r0 r1
        have f1 := cellsT_frozen (hO.cells 1 (by simp) rfl) 1
        have hb8l := ((hO.ap.ltAt 1 (by simp)) b8 rfl).2
        have hb38 : b3 < b8 := by have := X4.out.hB; have := HB8.out; omega
        have hne1 : ¬ b3 = b8 := by omega
        have hne2 : ¬ b8 = b3 := by omega
        clear hO
        by_cases hlt : k < cs.length
        · obtain ⟨ab, cb3, hsl, _, _, HA⟩ := X5.out.ints.nats
          simp only [Value.slice.injEq, true_and] at hsl
          obtain ⟨rfl, rfl⟩ := hsl
          obtain ⟨g2, off2, rfl, hg2, hc2⟩ := HA.resolve_left (fun h => by rw [h] at hlt; exact absurd hlt (Nat.not_lt_zero _))
          have hcell := hc2 k hlt
          have hor := HOR.out k hlt
          have HSN := Lib.hid (moreL_snoc (n := n) hlt)
          have hml2 := moreL_length (n := n) hk
          generalize hov : cs[k] ||| 2 ^ n = ov at *
          generalize cs[k] = c9 at *
          have OD := Lib.hid (O5.out.same (grown_drew wr none))
          have OA := Lib.hid (OD.out.alloc (.cells #[.int .i64 (ov : Int)] 3))
          clear hc2 HA hov
          go_wp2_with fail
          go_region_law (first | (refine step_append_lies _ rfl _ _ 23 rfl 0 3 i0 (.int .i64 0) 1 8 Try.underlying23 HII.out.1 HII.out.2.1 HII.out.2.2.1 HII.out.2.2.2 rfl (by decide) (.slice ca k cc) k ((moreL cs n k).map (Value.int .i64)) rfl (OA.out.row 0 (by simp) rfl) ⟨wr.heap.size, 0, none⟩ 1 1 [.int .i64 (ov : Int)] rfl rfl (one_newsD wr.drew _ _) (by simp [Value.oneCell']) (by omega) (by unfold maxLen; omega) (by omega) (Nat.zero_le _) _ rfl ?_; intro g9 cp9 w9 hown hgrow hat hlt9; have O9 := Lib.hid (by have h := OA.out.turnD (i := 0) (by simp) rfl hgrow hown hat; simp only [List.set_cons_zero, HSN.out] at h; exact h); have z1 := cellsT_cell (O9.out.cells 1 (by simp) rfl) 1; have zf := cellsT_frozen (O9.out.cells 1 (by simp) rfl) 1; simp only [List.getElem?_toArray, List.getElem?_cons_zero, List.getElem?_cons_succ] at z1; have O10 := Lib.hid (by have h := O9.out.put (i := 1) (by simp) rfl 1 (.slice (some ⟨g9, 0, none⟩) (k + 1) cp9); simp at h; exact h); clear hown hgrow hat hlt9))
          all_goals
            go_wp2_with fail
            go_roundw
            case rel => exact ⟨k + 1, _, _, by omega, by go_num, O10.out⟩
            case measure => simp [intOf]; omega
        · obtain rfl : k = cs.length := by omega
          have IX := Lib.hid (IsInts.of_ownsN (moreL_length (Nat.le_refl _)) (O5.out.row 0 (by simp) rfl))
          have CM := Lib.hid (implMostDone_any ((n : Int) + 1) (moreL cs n cs.length) _ _ IX.out)
          have Q5 := Lib.hid (Q4.out.trans (O5.out.keep.mono Q4.out.size))
          go_wp2_with fail
          refine CM.out.mono ?_
          rintro e w6 ⟨rfl, hb6⟩
          have X6 := Lib.hid (X5.out.below hb6)
          have Q6 := Lib.hid (Q5.out.trans (hb6.mono Q5.out.size))
          have y0 := X6.out.c0
          have y1 := X6.out.c1
          have hsum : IntKind.i64.wrap ((mc : Int) + sd) = (cs.length : Int) := by rw [IntWalk.i64_in _ (by omega)]; omega
          have hmcw : IntKind.i64.wrap ((mc : Int) + 1) = (mc : Int) + 1 := IntWalk.i64_in _ (by omega)
          clear hb6 x0 x1 r0 r1 f1
          have HM := HMM.out
          rcases HM with hm | hm
          · rw [hm]
            clear hm
            go_wp2_with (go_at_call 23; refine (aliveD_any _).mono ?_; rintro e w' ⟨rfl, rfl⟩)
            go_ret
            exact ⟨rfl, Q6.out⟩
          · rw [hm]
            have hmin : ((min (mc + 1) cs.length : Nat) : Int) = min ((mc : Int) + 1) (cs.length : Int) := by omega
            rw [hmin]
            have hmneg : ¬ min ((mc : Int) + 1) (cs.length : Int) < 0 := by omega
            clear hm hmin
            go_wp2_with (go_at_call 23; refine (aliveD_any _).mono ?_; rintro e w' ⟨rfl, rfl⟩)
            go_ret
            exact ⟨rfl, Q6.out⟩
end Go.Proofs.Ythihcnlbohhemaa
