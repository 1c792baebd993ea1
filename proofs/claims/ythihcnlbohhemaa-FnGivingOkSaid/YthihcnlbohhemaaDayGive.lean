/- impl.give: a duty is given to somebody, and others are moved on. No condition. -/
import Derived.Test.YthihcnlbohhemaaDayShort
import Derived.Deep.RegionWith
namespace Go.Proofs.Ythihcnlbohhemaa
open Go.RowKit

theorem mvL_at {rec : Nat → Nat → Mv} {c n duty k tr : Nat} {has : List Int} (hl : has.length = n) (hk : k < n) : mvL rec c n duty has (n - k) tr =
    if c.testBit k && !tr.testBit k then
      if hv has k < 0 then (has.set k duty, tr ||| 2 ^ k, true)
      else if (rec (hv has k).toNat (tr ||| 2 ^ k)).2.2 then ((rec (hv has k).toNat (tr ||| 2 ^ k)).1.set k duty, (rec (hv has k).toNat (tr ||| 2 ^ k)).2.1, true) else mvL rec c n duty has (n - (k + 1)) (rec (hv has k).toNat (tr ||| 2 ^ k)).2.1
    else mvL rec c n duty has (n - (k + 1)) tr := by
  obtain ⟨r, hr⟩ : ∃ r, n - k = r + 1 := ⟨n - k - 1, by omega⟩
  have h1 : n - (r + 1) = k := by omega
  have h2 : n - (k + 1) = r := by omega
  rw [hr, h2]
  simp only [mvL, h1, hv_getD hl hk]
theorem mvL_skip {rec : Nat → Nat → Mv} {c n duty k tr : Nat} {has : List Int} (hl : has.length = n) (hk : k < n) (hb : (c.testBit k && !tr.testBit k) = false) : mvL rec c n duty has (n - k) tr = mvL rec c n duty has (n - (k + 1)) tr := by
  rw [mvL_at hl hk, hb]; rfl
theorem mvL_free {rec : Nat → Nat → Mv} {c n duty k tr : Nat} {has : List Int} (hl : has.length = n) (hk : k < n) (hb : (c.testBit k && !tr.testBit k) = true) (h : hv has k = -1) : mvL rec c n duty has (n - k) tr = (has.set k duty, tr ||| 2 ^ k, true) := by
  rw [mvL_at hl hk, hb, h]; rfl
theorem mvL_yes {rec : Nat → Nat → Mv} {c n duty k tr : Nat} {has : List Int} {x : Mv} (hl : has.length = n) (hk : k < n) (hb : (c.testBit k && !tr.testBit k) = true) (h : 0 ≤ hv has k) (hx : rec (hv has k).toNat (tr ||| 2 ^ k) = x) (hy : x.2.2 = true) : mvL rec c n duty has (n - k) tr = (x.1.set k duty, x.2.1, true) := by
  rw [mvL_at hl hk, hb, hx, hy]
  have : ¬ hv has k < 0 := by omega
  simp [this]
theorem mvL_no {rec : Nat → Nat → Mv} {c n duty k tr : Nat} {has : List Int} {x : Mv} (hl : has.length = n) (hk : k < n) (hb : (c.testBit k && !tr.testBit k) = true) (h : 0 ≤ hv has k) (hx : rec (hv has k).toNat (tr ||| 2 ^ k) = x) (hy : x.2.2 = false) : mvL rec c n duty has (n - k) tr = mvL rec c n duty has (n - (k + 1)) x.2.1 := by
  rw [mvL_at hl hk, hb, hx, hy]
  have : ¬ hv has k < 0 := by omega
  simp [this]

/-- who is asked, as truths -/
def askL (n t : Nat) : List Value := (List.range n).map (fun p => Value.bool (t.testBit p))
theorem askL_length (n t : Nat) : (askL n t).length = n := by simp [askL]
theorem askL_at {n t k : Nat} (h : k < n) : (askL n t)[k]? = some (.bool (t.testBit k)) := by simp [askL, h]
theorem askL_set {n t k : Nat} : (askL n t).set k (.bool true) = askL n (t ||| 2 ^ k) := by
  apply List.ext_getElem
  · simp [askL]
  · intro i h1 h2
    have hi : i < n := by simpa [askL] using h2
    rw [List.getElem_set]
    simp only [askL, List.getElem_map, List.getElem_range, testBit_put]
    by_cases hk : k = i
    · subst hk; simp
    · simp [hk]
theorem int_set (has : List Int) (k : Nat) (x : Int) : (has.map (Value.int .i64)).set k (.int .i64 x) = (has.set k x).map (Value.int .i64) := by rw [List.map_set]
/-- what a move leaves -/
def GivePost (wB : World) (gd ga n : Nat) (x : Mv) (ts : List Thing) (e : Ending) (w' : World) : Prop :=
  e = .returned (.bool x.2.2) ∧ Own wB (rowT 3 1 (.slice (some ⟨gd, 0, none⟩) n n) n (x.1.map (Value.int .i64)) :: rowT 4 1 (.slice (some ⟨ga, 0, none⟩) n n) n (askL n x.2.1) :: ts) w'
theorem lt64_of {n t : Nat} (hn : n ≤ 6) (h : t < 2 ^ n) : t < 64 := by
  have h2 : 2 ^ n ≤ 2 ^ 6 := Nat.pow_le_pow_right (by omega) hn
  omega

set_option maxHeartbeats 3200000 in
theorem give_loop {n : Nat} {cs : List Nat} (G : Good n cs) {wB : World} {cv : Value} (h0 : IsNats wB cv cs) {gd ga : Nat} {has : List Int} (hH : Has cs n has) (rec : Nat → Nat → Mv) (B : Nat)
    (hM : ∀ d t, d < cs.length → untried n t < B → Moved cs n has d t (rec d t))
    (IH : ∀ (d t : Nat) (ts : List Thing) (w : World), d < cs.length → untried n t < B → t < 2 ^ n → Own wB (rowT 3 1 (.slice (some ⟨gd, 0, none⟩) n n) n (has.map (Value.int .i64)) :: rowT 4 1 (.slice (some ⟨ga, 0, none⟩) n n) n (askL n t) :: ts) w →
      Calls Try.prog 100 #[.agg #[.int .i64 n, cv, .slice (some ⟨gd, 0, none⟩) n n, .slice (some ⟨ga, 0, none⟩) n n], .int .i64 d] w (GivePost wB gd ga n (rec d t) ts))
    (duty tried : Nat) (ts : List Thing) (w : World) (hd : duty < cs.length) (hu : untried n tried ≤ B) (ht : tried < 2 ^ n)
    (hO : Own wB (rowT 3 1 (.slice (some ⟨gd, 0, none⟩) n n) n (has.map (Value.int .i64)) :: rowT 4 1 (.slice (some ⟨ga, 0, none⟩) n n) n (askL n tried) :: ts) w) :
    Calls Try.prog 100 #[.agg #[.int .i64 n, cv, .slice (some ⟨gd, 0, none⟩) n n, .slice (some ⟨ga, 0, none⟩) n n], .int .i64 duty] w (GivePost wB gd ga n (mvL rec (ca cs duty) n duty has n tried) ts) := by
  obtain ⟨a, n0, c0, rfl⟩ := h0.slice
  have HNB := Lib.hid h0
  have HG := Lib.hid G
  have HHH := Lib.hid hH
  have HM := Lib.hid hM
  have HI := Lib.hid IH
  have OB := Lib.hid ((hO.box #[.int .i64 n, .slice a n0 c0, .slice (some ⟨gd, 0, none⟩) n n, .slice (some ⟨ga, 0, none⟩) n n] 96).perm (us := rowT 3 1 (.slice (some ⟨gd, 0, none⟩) n n) n (has.map (Value.int .i64)) :: rowT 4 1 (.slice (some ⟨ga, 0, none⟩) n n) n (askL n tried) :: cellsT w.heap.size #[.int .i64 n, .slice a n0 c0, .slice (some ⟨gd, 0, none⟩) n n, .slice (some ⟨ga, 0, none⟩) n n] 96 :: ts) (by
    refine (List.Perm.swap _ _ _).trans (List.Perm.cons _ (List.Perm.swap _ _ _))))
  have hn6 := G.n6
  have hl5 := G.l5
  clear G hH hM IH h0 hO
  go_enter Try.func100, Try.ntmps100
  go_wp2_with fail
  go_loopw [9] (fun i wr => ∃ (k tr : Nat), k ≤ n ∧ i = .int .i64 k ∧ Hid (mvL rec (ca cs duty) n duty has n tried = mvL rec (ca cs duty) n duty has (n - k) tr) ∧ Hid (untried n tr ≤ B) ∧ Hid (tr < 2 ^ n) ∧ Own wB (rowT 3 1 (.slice (some ⟨gd, 0, none⟩) n n) n (has.map (Value.int .i64)) :: rowT 4 1 (.slice (some ⟨ga, 0, none⟩) n n) n (askL n tr) :: cellsT w.heap.size #[.int .i64 n, .slice a n0 c0, .slice (some ⟨gd, 0, none⟩) n n, .slice (some ⟨ga, 0, none⟩) n n] 96 :: ts) wr) (fun i _ => n - (intOf i).toNat)
  case atStart => exact ⟨0, tried, Nat.zero_le _, rfl, Lib.hid rfl, Lib.hid hu, Lib.hid ht, OB.out⟩
  case round =>
    obtain ⟨k, tr, hk, rfl, HE, HU, HT, hO⟩ := hrel
    have O1 := Lib.hid hO
    have b0 := cellsT_cell (hO.cells 2 (by simp) rfl) 0
    have b1 := cellsT_cell (hO.cells 2 (by simp) rfl) 1
    have b2 := cellsT_cell (hO.cells 2 (by simp) rfl) 2
    have b3 := cellsT_cell (hO.cells 2 (by simp) rfl) 3
    simp only [List.getElem?_toArray, List.getElem?_cons_zero, List.getElem?_cons_succ] at b0 b1 b2 b3
    clear hu ht
    by_cases hlt : k < n
    · have hlen := HHH.out.len
      have hkl : k < has.length := by omega
      have hd0 : wr.cell? ⟨gd, k, none⟩ = some (.int .i64 (hv has k)) := by
        have := (hO.row 0 (by simp) rfl).cellAt k (by omega)
        rw [this]; simp [hv, List.getD, hkl]
      have ha0 : wr.cell? ⟨ga, k, none⟩ = some (.bool (tr.testBit k)) := by
        have := (hO.row 1 (by simp) rfl).cellAt k (by omega)
        rw [this, askL_at hlt]
      have hfa := (hO.row 1 (by simp) rfl).frozenAt k
      have hlt' : (k : Int) < (n : Int) := by omega
      obtain ⟨aa, cap, hsl, hcap1, hcap2, HA⟩ := HNB.out
      simp only [Value.slice.injEq] at hsl
      obtain ⟨rfl, rfl, rfl⟩ := hsl
      unfold maxLen at hcap2
      obtain ⟨g, off, rfl, hg, hc⟩ := HA.resolve_left (fun h => by rw [h] at hd; exact absurd hd (Nat.not_lt_zero duty))
      have hcell := (hO.keep.cell (p := ⟨g, off + duty, none⟩) hg).trans (hc duty hd)
      have hcd := Lib.hid (ca_at hd)
      have hc64 := HG.out.lt64 duty hd
      have HIS := Lib.hid (fun W => inSet_any cs[duty] k W hc64 (by omega))
      clear hO hc hlen
      have hcd2 : (ca cs duty).testBit k = cs[duty].testBit k := by rw [hcd.out]
      by_cases hb1 : tr.testBit k = true
      · rw [hb1] at ha0
        have HSK := Lib.hid (mvL_skip (rec := rec) (duty := duty) (c := ca cs duty) (tr := tr) HHH.out.len hlt (by rw [hb1]; simp))
        clear hb1 hcd2 hcell HIS
        go_wp2_with fail
        go_roundw
        case rel => exact ⟨k + 1, tr, by omega, by go_num, Lib.hid (HE.out.trans HSK.out), HU, HT, O1.out⟩
        case measure => simp [intOf]; omega
      have hb1' : tr.testBit k = false := by simpa using hb1
      rw [hb1'] at ha0
      clear hb1
      by_cases hb2 : cs[duty].testBit k = true
      · have hbb : ((ca cs duty).testBit k && !tr.testBit k) = true := by rw [hcd2, hb2, hb1']; rfl
        have HBB := Lib.hid hbb
        have HPUT := Lib.hid (untried_put hlt hb1')
        have hlt2 : tr ||| 2 ^ k < 2 ^ n := Nat.or_lt_two_pow HT.out (Nat.pow_lt_pow_right (by omega) hlt)
        have HL2 := Lib.hid hlt2
        have O2 := Lib.hid (by have h := O1.out.store (i := 1) (by simp) rfl k (.bool true); simp only [List.set_cons_succ, List.set_cons_zero, askL_set] at h; exact h)
        clear hbb hb1' hlt2 hcd2
        generalize hc9 : cs[duty] = c9 at hcell hc64 HIS hb2
        have HVAL := Lib.hid (HHH.out.val k hlt)
        by_cases hv1 : hv has k = -1
        · have HFR := Lib.hid (mvL_free (rec := rec) (duty := duty) HHH.out.len hlt HBB.out hv1)
          rw [hv1] at hd0
          have HV0 := Lib.hid hv1
          clear hv1
          go_wp2_with (go_at_call 106; refine (HIS.out _).mono ?_; rintro e w' ⟨rfl, hww⟩; subst w')
          generalize wr.setCell ⟨ga, k, none⟩ (.bool true) = W2 at *
          have hd2 : W2.cell? ⟨gd, k, none⟩ = some (.int .i64 (-1)) := by
            have := (O2.out.row 0 (by simp) rfl).cellAt k (by omega)
            rw [this]; simpa [hv, List.getD, hkl] using HV0.out
          have hfd := (O2.out.row 0 (by simp) rfl).frozenAt k
          have e0 := cellsT_cell (O2.out.cells 2 (by simp) rfl) 0
          have e1 := cellsT_cell (O2.out.cells 2 (by simp) rfl) 1
          have e2 := cellsT_cell (O2.out.cells 2 (by simp) rfl) 2
          have e3 := cellsT_cell (O2.out.cells 2 (by simp) rfl) 3
          simp only [List.getElem?_toArray, List.getElem?_cons_zero, List.getElem?_cons_succ] at e0 e1 e2 e3
          clear b0 b1 b2 b3 hd0 ha0 hfa hcell O1
          have O3 := Lib.hid (by have h := (O2.out.same (grown_drew W2 none)).store (i := 0) (by simp) rfl k (.int .i64 duty); simp only [List.set_cons_zero, int_set] at h; exact h)
          first | (go_region_with (fail)) | fail
          all_goals
            go_wp2_with fail
            go_ret
            refine ⟨?_, ?_⟩
            · rw [HE.out, HFR.out]; rfl
            · rw [HE.out, HFR.out]
              exact O3.out.sub (List.Sublist.cons_cons _ (List.Sublist.cons_cons _ (List.Sublist.cons _ (List.Sublist.refl _))))
        · obtain ⟨h0v, hdl, hbv⟩ := HVAL.out.resolve_left hv1
          obtain ⟨d, hd9⟩ : ∃ d : Nat, hv has k = (d : Int) := ⟨(hv has k).toNat, by omega⟩
          have hdn : (hv has k).toNat = d := by omega
          rw [hdn] at hdl
          have hu2 : untried n (tr ||| 2 ^ k) < B := by have := HPUT.out; have := HU.out; omega
          obtain ⟨x, hx9⟩ : ∃ x, rec d (tr ||| 2 ^ k) = x := ⟨_, rfl⟩
          have MM : Hid (Moved cs n has d (tr ||| 2 ^ k) x) := Lib.hid (hx9 ▸ HM.out d (tr ||| 2 ^ k) hdl hu2)
          have HYES := Lib.hid (fun hy => mvL_yes (rec := rec) (duty := duty) (x := x) HHH.out.len hlt HBB.out h0v (by rw [hdn]; exact hx9) hy)
          have HNO := Lib.hid (fun hy => mvL_no (rec := rec) (duty := duty) (x := x) HHH.out.len hlt HBB.out h0v (by rw [hdn]; exact hx9) hy)
          have HC : Hid (∀ W, Own wB (rowT 3 1 (.slice (some ⟨gd, 0, none⟩) n n) n (has.map (Value.int .i64)) :: rowT 4 1 (.slice (some ⟨ga, 0, none⟩) n n) n (askL n (tr ||| 2 ^ k)) :: cellsT w.heap.size #[.int .i64 n, .slice (some ⟨g, off, none⟩) cs.length c0, .slice (some ⟨gd, 0, none⟩) n n, .slice (some ⟨ga, 0, none⟩) n n] 96 :: ts) W → Calls Try.prog 100 #[.agg #[.int .i64 n, .slice (some ⟨g, off, none⟩) cs.length c0, .slice (some ⟨gd, 0, none⟩) n n, .slice (some ⟨ga, 0, none⟩) n n], .int .i64 d] W (GivePost wB gd ga n x (cellsT w.heap.size #[.int .i64 n, .slice (some ⟨g, off, none⟩) cs.length c0, .slice (some ⟨gd, 0, none⟩) n n, .slice (some ⟨ga, 0, none⟩) n n] 96 :: ts))) := Lib.hid (fun W h => hx9 ▸ HI.out d (tr ||| 2 ^ k) _ W hdl hu2 HL2.out h)
          have hdne : ((d : Int) == -1) = false := by rw [beq_eq_false_iff_ne]; omega
          rw [hd9] at hd0
          have HV0 := Lib.hid hd9
          clear hv1 h0v hbv hd9 hdn hu2 hdl hx9
          go_wp2_with (go_at_call 106; refine (HIS.out _).mono ?_; rintro e w' ⟨rfl, hww⟩; subst w')
          generalize wr.setCell ⟨ga, k, none⟩ (.bool true) = W2 at *
          have hd2 : W2.cell? ⟨gd, k, none⟩ = some (.int .i64 (d : Int)) := by
            have := (O2.out.row 0 (by simp) rfl).cellAt k (by omega)
            rw [this]; simpa [hv, List.getD, hkl] using HV0.out
          have hfd := (O2.out.row 0 (by simp) rfl).frozenAt k
          have e0 := cellsT_cell (O2.out.cells 2 (by simp) rfl) 0
          have e1 := cellsT_cell (O2.out.cells 2 (by simp) rfl) 1
          have e2 := cellsT_cell (O2.out.cells 2 (by simp) rfl) 2
          have e3 := cellsT_cell (O2.out.cells 2 (by simp) rfl) 3
          simp only [List.getElem?_toArray, List.getElem?_cons_zero, List.getElem?_cons_succ] at e0 e1 e2 e3
          clear b0 b1 b2 b3 hd0 ha0 hfa hcell O1
          have OD := Lib.hid (O2.out.same (grown_drew W2 none))
          go_region_with (go_at_call 100; refine (HC.out W2.drew OD.out).mono ?_; rintro e w3 ⟨rfl, hO3⟩)
          all_goals
            have O3 := Lib.hid hO3
            clear hO3 hd2 hfd e0 e1 e2 e3 OD
            rcases Bool.eq_false_or_eq_true x.2.2 with hx | hx
            · have hxl : x.1.length = n := (MM.out.good hx).len
              obtain ⟨z3, hd3⟩ : ∃ z : Int, w3.cell? ⟨gd, k, none⟩ = some (.int .i64 z) := by
                refine ⟨x.1[k]'(by omega), ?_⟩
                have := (O3.out.row 0 (by simp) rfl).cellAt k (by omega)
                rw [this]; simp [hxl, hlt]
              have hfd := (O3.out.row 0 (by simp) rfl).frozenAt k
              have e2 := cellsT_cell (O3.out.cells 2 (by simp) rfl) 2
              simp only [List.getElem?_toArray, List.getElem?_cons_zero, List.getElem?_cons_succ] at e2
              have O4 := Lib.hid (by have h := O3.out.store (i := 0) (by simp) rfl k (.int .i64 duty); simp only [List.set_cons_zero, int_set] at h; exact h)
              have HY := Lib.hid (HYES.out hx)
              clear hxl
              rw [hx]
              go_wp2_with fail
              go_ret
              refine ⟨?_, ?_⟩
              · rw [HE.out, HY.out]; rfl
              · rw [HE.out, HY.out]
                exact O4.out.sub (List.Sublist.cons_cons _ (List.Sublist.cons_cons _ (List.Sublist.cons _ (List.Sublist.refl _))))
            · have HN := Lib.hid (HNO.out hx)
              have hsame := (MM.out.fail hx).1
              have HU2 : Hid (untried n x.2.1 ≤ B) := Lib.hid (Nat.le_trans (untried_mono (fun q hq => MM.out.grow q (by rw [testBit_put, hq]; rfl))) HU.out)
              have HT2 : Hid (x.2.1 < 2 ^ n) := Lib.hid (MM.out.lt HL2.out)
              rw [hsame] at O3
              clear hsame
              rw [hx]
              go_wp2_with fail
              go_roundw
              case rel => exact ⟨k + 1, x.2.1, by omega, by go_num, Lib.hid (HE.out.trans HN.out), HU2, HT2, O3.out⟩
              case measure => simp [intOf]; omega
      · have hb2' : cs[duty].testBit k = false := by simpa using hb2
        have HSK := Lib.hid (mvL_skip (rec := rec) (duty := duty) (c := ca cs duty) (tr := tr) HHH.out.len hlt (by rw [hcd2, hb2']; rfl))
        clear hb1' hcd2 hb2
        generalize cs[duty] = c9 at *
        go_wp2_with (go_at_call 106; refine (HIS.out _).mono ?_; rintro e w' ⟨rfl, hww⟩; subst w')
        go_roundw
        case rel => exact ⟨k + 1, tr, by omega, by go_num, Lib.hid (HE.out.trans HSK.out), HU, HT, O1.out⟩
        case measure => simp [intOf]; omega
    · obtain rfl : k = n := by omega
      have HF : Hid (mvL rec (ca cs duty) k duty has (k - k) tr = (has, tr, false)) := by
        have : mvL rec (ca cs duty) k duty has (k - k) tr = (has, tr, false) := by rw [Nat.sub_self]; rfl
        exact Lib.hid this
      go_wp2_with fail
      go_ret
      refine ⟨?_, ?_⟩
      · rw [HE.out, HF.out]; rfl
      · rw [HE.out, HF.out]
        exact O1.out.sub (List.Sublist.cons_cons _ (List.Sublist.cons_cons _ (List.Sublist.cons _ (List.Sublist.refl _))))
end Go.Proofs.Ythihcnlbohhemaa
