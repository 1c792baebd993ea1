/- spec.TrimmedMachine. No condition. -/
import Derived.Test.YtlbblfbiiceofaaTrimmed2
namespace Go.Proofs.Ytlbblfbiiceofaa
open Go.RowKit

/-- each state for itself -/
def idc (n : Nat) : List Int := (List.range n).map (fun (i : Nat) => (i : Int))
theorem idc_length (n : Nat) : (idc n).length = n := by simp [idc]
theorem idc_at (n k : Nat) (h : k < (idc n).length) : (idc n)[k] = (k : Int) := by simp [idc]
theorem idc_succ (n : Nat) : idc (n + 1) = idc n ++ [(n : Int)] := by
  unfold idc
  rw [List.range_succ, List.map_append]; rfl
theorem idc_rep {n : Nat} {x : Int} (h0 : 0 ≤ x) (h1 : x < n) : (ordRep (idc n) x : Int) = x := by
  have hk : x.toNat < (idc n).length := by rw [idc_length]; omega
  have hnd : (idc n).Nodup := List.pairwise_map.2 (List.nodup_range.imp (fun h => by omega))
  have h := idxOf_nodup hnd hk
  rw [idc_at n x.toNat hk] at h
  unfold ordRep
  rw [Int.toNat_of_nonneg h0] at h
  omega
theorem ord_trim {m : M} (hg : m.good) (X : List Bool) (x : Int) (hx : inM m x) (l : Nat) (hl : l < 3) : ordOn m (idc m.ends.length) X x l = trimOn m X x l := by
  have hs := M.good_shape hg
  unfold ordOn trimOn
  rw [idc_rep hx.1 (by have := hx.2; omega)]
  have hb := M.gnx_bd hg x (l : Int) hx.2 (by omega) (by omega)
  by_cases h : 0 ≤ m.nx x (l : Int) ∧ X.getD (m.nx x (l : Int)).toNat false = true
  · rw [if_pos h, if_pos h]
    have hk : (m.nx x (l : Int)).toNat < (idc m.ends.length).length := by rw [idc_length]; omega
    rw [List.getD_eq_getElem?_getD, List.getElem?_eq_getElem hk, idc_at]
    simp only [Option.getD_some, Option.some.injEq]
    exact Int.toNat_of_nonneg h.1
  · rw [if_neg h, if_neg h]
theorem ord_bfs {m : M} (hg : m.good) (X : List Bool) (n : Nat) (s0 : Int) (h0 : s0 = 0) : bfsTo (ordOn m (idc m.ends.length) X) s0 n = bfsTo (trimOn m X) 0 n := by
  subst h0
  have h := bfsTo_map (f := id) (P := inM m) (on := trimOn m X) (on' := ordOn m (idc m.ends.length) X) (s0 := 0) (inM_zero hg) (fun x hx l b hl h => trimOn_in hg X x hx l b hl h) (fun _ _ _ _ h => h)
    (fun x hx l hl => by rw [id, ord_trim hg X x hx l hl, Option.map_id]; rfl) n
  rw [id, List.map_id] at h
  exact h
theorem ord_tm {m : M} (hg : m.good) (X : List Bool) (s0 : Int) (h0 : s0 = 0) :
    (⟨((trimN m X : Nat) : Int), (bfsTo (ordOn m (idc m.ends.length) X) s0 (trimN m X)).2, (bfsTo (ordOn m (idc m.ends.length) X) s0 (trimN m X)).1.map (ordEnds m (idc m.ends.length))⟩ : M) = trimM m X := by
  rw [ord_bfs hg X _ _ h0, trimM]
  congr 1
  refine List.map_congr_left fun x hx => ?_
  have hin := bfsTo_all (inM_zero hg) (fun x hx l b hl h => trimOn_in hg X x hx l b hl h) _ x hx
  have hs := M.good_shape hg
  unfold ordEnds
  rw [idc_rep hin.1 (by have := hin.2; omega)]

set_option maxHeartbeats 2000000 in
theorem specTrimmed_any (m : M) (nv ev : Value) (w : World) (h1 : IsInts w nv m.next) (h2 : IsBools w ev m.ends) (hst : (Lit.int .i64 m.st).wf = true) :
    Calls Try.prog 125 #[.agg #[.int .i64 m.st, nv, ev]] w (MachNew (tmz m) w) := by
  obtain ⟨i0, hi, hz0, hz1, hz2⟩ := info_parts infoIntF
  have HI := Lib.hid (And.intro hi (And.intro hz0 (And.intro hz1 hz2)))
  clear hi hz0 hz1 hz2
  have hM : MachBox w.heap.size m.st nv m.next ev m.ends (w.alloc (.cells #[.int .i64 m.st, nv, ev] 115)) := MachBox.new _ h1 h2
  have hb2 := (Below.refl _ (w.alloc (.cells #[.int .i64 m.st, nv, ev] 115))).alloc (Nat.le_refl _) (.cells #[.int .i64 0, .slice none 0 0, .slice none 0 0] 115)
  have M2 := Lib.hid (hM.below hb2)
  have q2 := Lib.hid (((Below.refl w.heap.size w).alloc (Nat.le_refl _) (.cells #[.int .i64 m.st, nv, ev] 115)).trans (hb2.mono (by simp)))
  have c0 := fun i => World.cell?_alloc_new (w.alloc (.cells #[.int .i64 m.st, nv, ev] 115)) #[.int .i64 0, .slice none 0 0, .slice none 0 0] 115 i
  have f0 := fun i => World.frozen?_alloc_new (w.alloc (.cells #[.int .i64 m.st, nv, ev] 115)) #[.int .i64 0, .slice none 0 0, .slice none 0 0] 115 i
  simp only [World.size_alloc] at c0 f0
  have hs2 : ((w.alloc (.cells #[.int .i64 m.st, nv, ev] 115)).alloc (.cells #[.int .i64 0, .slice none 0 0, .slice none 0 0] 115)).heap.size = w.heap.size + 1 + 1 := by simp
  have HS2 := Lib.hid hs2
  have HC0 := Lib.hid c0
  have HF0 := Lib.hid f0
  have y0 := M2.out.c0
  have y1 := M2.out.c1
  have y2 := M2.out.c2
  clear hs2 c0 f0 hM hb2 h1 h2
  go_enter Try.func125, Try.ntmps125
  go_wp2_with fail
  refine (specMachineOk_any m nv ev _ M2.out.ints M2.out.bools hst).mono ?_
  rintro e w3 ⟨rfl, hb3⟩
  have M3 := Lib.hid (M2.out.below hb3)
  have q3 := Lib.hid (q2.out.trans (hb3.mono (by rw [HS2.out]; omega)))
  have d0 : ∀ i, w3.cell? ⟨w.heap.size + 1, i, none⟩ = (#[.int .i64 0, .slice none 0 0, .slice none 0 0] : Array Value)[i]? := fun i => (hb3.cell (p := ⟨w.heap.size + 1, i, none⟩) (by rw [HS2.out]; show w.heap.size + 1 < _; omega)).trans (HC0.out i)
  have g0 : ∀ i, w3.frozen? ⟨w.heap.size + 1, i, none⟩ = false := fun i => (hb3.frozen (p := ⟨w.heap.size + 1, i, none⟩) (by rw [HS2.out]; show w.heap.size + 1 < _; omega)).trans (HF0.out i)
  have hs3 : w.heap.size + 1 + 1 ≤ w3.heap.size := by have := hb3.size; rw [HS2.out] at this; exact this
  have D0 := Lib.hid d0
  have G0 := Lib.hid g0
  have y0 := M3.out.c0
  have y1 := M3.out.c1
  have y2 := M3.out.c2
  clear hb3 d0 g0
  cases hk : m.ok with
  | false =>
    have HZ : Hid (tmz m = ⟨0, [], []⟩) := by
      have : tmz m = ⟨0, [], []⟩ := by rw [tmz, hk]; rfl
      exact Lib.hid this
    clear hk
    have h0 : w3.cell? ⟨w.heap.size + 1, 0, none⟩ = some (.int .i64 0) := D0.out 0
    have h1 : w3.cell? ⟨w.heap.size + 1, 1, none⟩ = some (.slice none 0 0) := D0.out 1
    have h2 : w3.cell? ⟨w.heap.size + 1, 2, none⟩ = some (.slice none 0 0) := D0.out 2
    have k0 := G0.out 0
    have k1 := G0.out 1
    have k2 := G0.out 2
    have FI := Lib.hid (fin_cells (x := .int .i64 0) (y := .slice none 0 0) (z := .slice none 0 0) (apart_nils (w.heap.size + 2) w3) q3.out (Nat.le_succ _) (by omega) (some3 h0 h1 h2) (by omega))
    go_wp2
    obtain ⟨r1, r2, r3, r4, r5⟩ := FI.out _ rfl
    refine bodyPost_ret (v := .agg #[.int .i64 0, .slice none 0 0, .slice none 0 0]) ?_ rfl (by rw [HZ.out]; exact ⟨none, none, 0, 0, rfl, r1, r2⟩)
    simp [results, Try.results125, go_sem, r3, r4, r5]
  | true =>
    have HZ : Hid (tmz m = tm m) := by
      have : tmz m = tm m := by rw [tmz, hk]; rfl
      exact Lib.hid this
    have HG := Lib.hid (M.ok_good hk)
    clear hk
    have hcls : Apart w3.heap.size [rowT 3 1 (.slice (some ⟨w3.heap.size, 0, none⟩) 0 0) (idc 0).length ((idc 0).map (Value.int .i64))] (w3.alloc (.cells #[] 3)) :=
      (Apart.nil w3.heap.size w3).more (World.grownBy_alloc w3 _ none) (rowT 3 1 (.slice (some ⟨w3.heap.size, 0, none⟩) 0 0) 0 []) (World.ownsRow_lit (base := 0) (e := 3) (size := 1) w3 #[] 0 (Nat.zero_le _) (Nat.zero_le _) rfl) (Nat.le_refl _) (fun k e => by cases e; simp)
    have HCLS := Lib.hid hcls
    have hbc := Lib.hid ((Below.refl w3.heap.size w3).alloc (Nat.le_refl _) (.cells #[] 3))
    clear hcls y1 y2
    go_wp2_with fail
    clear y0
    go_loopw [3, 4] (fun cv i wr => ∃ k : Nat, k ≤ m.ends.length ∧ i = .int .i64 k ∧ Apart w3.heap.size [rowT 3 1 cv (idc k).length ((idc k).map (Value.int .i64))] wr ∧ Below w3.heap.size w3 wr) (fun _ i _ => m.ends.length - (intOf i).toNat)
    case atStart => exact ⟨0, Nat.zero_le _, rfl, HCLS.out, hbc.out⟩
    case round =>
      obtain ⟨k, hkk, rfl, hA, hB⟩ := hrel
      obtain ⟨ac, cc, rfl⟩ := ownsRow_slice hA.head
      have A1 := Lib.hid hA
      have B1 := Lib.hid hB
      clear hA hB
      have M4 := Lib.hid (M3.out.below B1.out)
      have y0 := M4.out.c0
      have hsh := M.good_shape HG.out
      by_cases hlt : k < m.ends.length
      · have hlt' : (k : Int) < m.st := by omega
        have hkl : (idc k).length ≤ 4000 := by rw [idc_length]; omega
        have hk4 : k ≤ 4000 := by omega
        have HSU := Lib.hid (idc_succ k)
        generalize idc k = Q at *
        clear hsh
        go_wp2_with (at_builtin; refine wpList_append_lies _ rfl _ _ 113 rfl 0 3 i0 (.int .i64 0) 1 8 Try.underlying113 HI.out.1 HI.out.2.1 HI.out.2.2.1 HI.out.2.2.2 rfl (by decide) (.slice ac Q.length cc) Q.length (Q.map (Value.int .i64)) rfl (World.ownsRow.alloc A1.out.head _) ⟨wr.heap.size, 0, none⟩ 1 1 [.int .i64 (k : Int)] rfl rfl (cell_one_new _ _ _) (by simp [Value.oneCell']) (by omega) (by unfold maxLen; omega) (by omega) (Nat.zero_le _) _ rfl ?_; intro g9 cp w4 hown hgrow hat hlt3)
        go_roundw
        case rel =>
          have a1 := A1.out.same (World.grownBy_alloc wr (.cells #[.int .i64 (k : Int)] 3) none)
          have hsz : w3.heap.size ≤ (wr.alloc (.cells #[.int .i64 (k : Int)] 3)).heap.size := by have := B1.out.size; simp; omega
          refine ⟨k + 1, by omega, by go_num, ?_, (B1.out.alloc B1.out.size _).grown hgrow hsz (fun j e => (a1.lt j e).1)⟩
          rw [HSU.out]
          exact a1.turn hgrow (rowT 3 1 (.slice (some ⟨g9, 0, none⟩) (Q.length + 1) cp) (Q ++ [(k : Int)]).length ((Q ++ [(k : Int)]).map (Value.int .i64))) (by show World.ownsRow _ _ _ _ _ _ _; rw [List.length_append, List.map_append]; exact hown) hsz
            (fun j e => ⟨by cases e; exact hat.imp id (fun e => Nat.le_of_eq e.symm), (World.ownsRow.lt hown j e).2⟩)
        case measure => simp [intOf]; omega
      · obtain rfl : k = m.ends.length := by omega
        have hlt' : ¬ ((m.ends.length : Int) < m.st) := by omega
        clear hsh
        have hn0 : 0 < (idc m.ends.length).length := by rw [idc_length]; have := HG.out.st0; have := HG.out.le; omega
        have HXe := Lib.hid (lrounds_live HG.out).1
        have HO := Lib.hid (idc_length m.ends.length)
        go_wp2_with fail
        have Md := Lib.hid (M4.below (Below.refl _ wr).drew)
        have v0 := Md.out.c0
        have v1 := Md.out.c1
        have v2 := Md.out.c2
        have Ad := Lib.hid (A1.out.same (grown_drew wr none))
        have Bd := Lib.hid B1.out.drew
        have h00 := idc_at m.ends.length 0 hn0
        have HNB := Lib.hid (trimN_is HG.out (lrounds m m.ends.length))
        have HN4 : trimN m (lrounds m m.ends.length) ≤ 4000 := by have h1 := trimN_le HG.out (lrounds m m.ends.length); have h2 := HG.out.st1; omega
        have HFA : Hid (∀ W, Below w3.heap.size w3 W → W.cell? ⟨w.heap.size + 1, 0, none⟩ = some (.int .i64 0) ∧ W.cell? ⟨w.heap.size + 1, 1, none⟩ = some (.slice none 0 0) ∧ W.cell? ⟨w.heap.size + 1, 2, none⟩ = some (.slice none 0 0) ∧
            W.frozen? ⟨w.heap.size + 1, 0, none⟩ = false ∧ W.frozen? ⟨w.heap.size + 1, 1, none⟩ = false ∧ W.frozen? ⟨w.heap.size + 1, 2, none⟩ = false) := by
          have : ∀ W, Below w3.heap.size w3 W → W.cell? ⟨w.heap.size + 1, 0, none⟩ = some (.int .i64 0) ∧ W.cell? ⟨w.heap.size + 1, 1, none⟩ = some (.slice none 0 0) ∧ W.cell? ⟨w.heap.size + 1, 2, none⟩ = some (.slice none 0 0) ∧
            W.frozen? ⟨w.heap.size + 1, 0, none⟩ = false ∧ W.frozen? ⟨w.heap.size + 1, 1, none⟩ = false ∧ W.frozen? ⟨w.heap.size + 1, 2, none⟩ = false := by
            intro W hW
            have hc : ∀ i, W.cell? ⟨w.heap.size + 1, i, none⟩ = (#[.int .i64 0, .slice none 0 0, .slice none 0 0] : Array Value)[i]? := fun i => (hW.cell (p := ⟨w.heap.size + 1, i, none⟩) (by show w.heap.size + 1 < _; omega)).trans (D0.out i)
            have hf : ∀ i, W.frozen? ⟨w.heap.size + 1, i, none⟩ = false := fun i => (hW.frozen (p := ⟨w.heap.size + 1, i, none⟩) (by show w.heap.size + 1 < _; omega)).trans (G0.out i)
            exact ⟨hc 0, hc 1, hc 2, hf 0, hf 1, hf 2⟩
          exact Lib.hid this
        clear y0 M4
        go_region_law (first | (go_simp; go_at_call 128; refine (specL2Live_any m nv ev _ Md.out.ints Md.out.bools HG.out).mono ?_; rintro e w5 ⟨al, cl, rfl, hA5, hb5⟩; have M5 := Lib.hid (Md.out.below hb5); have v10 := M5.out.c0; have v11 := M5.out.c1; have v12 := M5.out.c2; have A5 := Lib.hid hA5; have B5 := Lib.hid hb5; clear hA5 hb5) | (go_simp; go_at_call 126; refine (specL2Order_any m (idc m.ends.length) (lrounds m m.ends.length) nv ev _ _ _ (trimN m (lrounds m m.ends.length)) M5.out.ints M5.out.bools ((IsInts.of_owns Ad.out.head).below B5.out) (IsBools.of_owns A5.out.head) HG.out HO.out HXe.out hn0 (by rw [ord_bfs HG.out _ _ _ h00]; exact HNB.out) HN4).mono ?_; rintro e w6 ⟨a1, a2, c1, c2, rfl, hA6, hb6⟩; rw [ord_tm HG.out _ _ h00] at hA6 ⊢; have A6 := Lib.hid hA6; have Q5 := Bd.out.trans (B5.out.mono Bd.out.size); have Q6 := Lib.hid (Q5.trans (hb6.mono Q5.size)); obtain ⟨e0, e1, e2, e3, e4, e5⟩ := HFA.out w6 Q6.out; clear hA6 hb6 Q5))
        all_goals
          have hT : trimM m (lrounds m m.ends.length) = tm m := rfl
          rw [hT] at A6 ⊢
          clear hT
          generalize tm m = T at *
          have hs5 : w.heap.size + 1 < w5.heap.size := by have h1 := Bd.out.size; have h2 := B5.out.size; omega
          have FI := Lib.hid (fin_cells (x := .int .i64 T.st) (y := .slice a1 T.next.length c1) (z := .slice a2 T.ends.length c2) A6.out (q3.out.trans (Q6.out.mono (by omega))) (Nat.le_succ _) hs5 (some3 e0 e1 e2) (by omega))
          go_wp2
          obtain ⟨r1, r2, r3, r4, r5⟩ := FI.out _ rfl
          refine bodyPost_ret (v := .agg #[.int .i64 T.st, .slice a1 T.next.length c1, .slice a2 T.ends.length c2]) ?_ rfl (by rw [HZ.out]; exact ⟨a1, a2, c1, c2, rfl, r1, r2⟩)
          simp [results, Try.results125, go_sem, r3, r4, r5]
end Go.Proofs.Ytlbblfbiiceofaa
