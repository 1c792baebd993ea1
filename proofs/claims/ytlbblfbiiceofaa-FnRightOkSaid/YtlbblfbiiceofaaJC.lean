/- The model's l2Pairs, kind 2: the machine of a search over pairs. No condition. -/
import Derived.Test.YtlbblfbiiceofaaKP
import Derived.Deep.CutRange
import Derived.Deep.CutBlock

namespace Go.Proofs.Ytlbblfbiiceofaa
open Go.RowKit

theorem cell_one_new2 (w : World) (o : Obj) (x : Value) (t : TypeId) : ∀ j u, [x][j]? = some u → ((w.alloc o).alloc (.cells #[x] t)).cell? ((⟨w.heap.size + 1, 0, none⟩ : Addr).add j) = some u := by
  have h := cell_one_new (w.alloc o) x t
  rw [World.size_alloc] at h
  exact h
set_option maxHeartbeats 8000000 in
set_option maxRecDepth 100000 in
theorem specPairs2_any (A B : M) (an ae bn be : Value) (w : World) (N : Nat) (h1 : IsInts w an A.next) (h2 : IsBools w ae A.ends) (h3 : IsInts w bn B.next) (h4 : IsBools w be B.ends) (hA : A.good) (hB : B.good) (hB4 : B.st ≤ 48)
    (hN : (bfsTo (sOn 2 A B) (pc 0 0) N).1.length = N) (hN4 : N ≤ 4000) :
    Calls Try.prog 133 #[.agg #[.int .i64 A.st, an, ae], .agg #[.int .i64 B.st, bn, be], .int .i64 2] w (PairNew (bM (sOn 2 A B) (pc 0 0) N (pEnds A B (gk 2))) w) := by
  obtain ⟨i0, hi, hz0, hz1, hz2⟩ := info_parts infoIntF
  obtain ⟨j0, hj, hy0, hy1, hy2⟩ := info_parts infoBoolF
  obtain ⟨s0, hs, hx0, hx1, hx2⟩ := info_parts infoSlF
  have HI := Lib.hid (And.intro hi (And.intro hz0 (And.intro hz1 hz2)))
  have HJ := Lib.hid (And.intro hj (And.intro hy0 (And.intro hy1 hy2)))
  have HS := Lib.hid (And.intro hs (And.intro hx0 (And.intro hx1 hx2)))
  clear hi hz0 hz1 hz2 hj hy0 hy1 hy2 hs hx0 hx1 hx2
  have hshA := M.good_shape hA
  have hshB := M.good_shape hB
  obtain ⟨a1, n1, c1, rfl⟩ := h1.slice
  obtain ⟨g1, off1, rfl, rfl, hc1, hc1m, hg1, hcell1⟩ := ints_cells h1 (by omega)
  obtain ⟨a2, n2, c2, rfl⟩ := h2.slice
  obtain ⟨g2, off2, rfl, rfl, hc2, hc2m, hg2, hcell2⟩ := bools_cells2 h2 (by omega)
  obtain ⟨a3, n3, c3, rfl⟩ := h3.slice
  obtain ⟨g3, off3, rfl, rfl, hc3, hc3m, hg3, hcell3⟩ := ints_cells h3 (by omega)
  obtain ⟨a4, n4, c4, rfl⟩ := h4.slice
  obtain ⟨g4, off4, rfl, rfl, hc4, hc4m, hg4, hcell4⟩ := bools_cells2 h4 (by omega)
  unfold maxLen at hc1m hc2m hc3m hc4m
  have hAT : ∀ W, Below (w.heap.size + 1 + 1) ((w.alloc (.cells #[.int .i64 A.st, .slice (some ⟨g1, off1, none⟩) A.next.length c1, .slice (some ⟨g2, off2, none⟩) A.ends.length c2] 115)).alloc (.cells #[.int .i64 B.st, .slice (some ⟨g3, off3, none⟩) B.next.length c3, .slice (some ⟨g4, off4, none⟩) B.ends.length c4] 115)) W →
      W.cell? ⟨w.heap.size, 1, none⟩ = some (.slice (some ⟨g1, off1, none⟩) A.next.length c1) ∧ W.cell? ⟨w.heap.size, 2, none⟩ = some (.slice (some ⟨g2, off2, none⟩) A.ends.length c2) ∧
      W.cell? ⟨w.heap.size + 1, 1, none⟩ = some (.slice (some ⟨g3, off3, none⟩) B.next.length c3) ∧ W.cell? ⟨w.heap.size + 1, 2, none⟩ = some (.slice (some ⟨g4, off4, none⟩) B.ends.length c4) ∧
      (∀ k (h : k < A.next.length), W.cell? ⟨g1, off1 + k, none⟩ = some (.int .i64 A.next[k])) ∧ (∀ k (h : k < A.ends.length), W.cell? ⟨g2, off2 + k, none⟩ = some (.bool A.ends[k])) ∧
      (∀ k (h : k < B.next.length), W.cell? ⟨g3, off3 + k, none⟩ = some (.int .i64 B.next[k])) ∧ (∀ k (h : k < B.ends.length), W.cell? ⟨g4, off4 + k, none⟩ = some (.bool B.ends[k])) := by
    intro W hW
    obtain ⟨T0, T1⟩ := Two.new (m := A) (k := B) 115 h1 h2 h3 h4
    have hw := T1.trans (hW.mono (by omega))
    exact ⟨(hW.cell (p := ⟨w.heap.size, 1, none⟩) (by show w.heap.size < _; omega)).trans T0.a.c1, (hW.cell (p := ⟨w.heap.size, 2, none⟩) (by show w.heap.size < _; omega)).trans T0.a.c2,
      (hW.cell (p := ⟨w.heap.size + 1, 1, none⟩) (by show w.heap.size + 1 < _; omega)).trans T0.b.c1, (hW.cell (p := ⟨w.heap.size + 1, 2, none⟩) (by show w.heap.size + 1 < _; omega)).trans T0.b.c2,
      fun k h => (hw.cell (p := ⟨g1, off1 + k, none⟩) hg1).trans (hcell1 k h), fun k h => (hw.cell (p := ⟨g2, off2 + k, none⟩) hg2).trans (hcell2 k h),
      fun k h => (hw.cell (p := ⟨g3, off3 + k, none⟩) hg3).trans (hcell3 k h), fun k h => (hw.cell (p := ⟨g4, off4 + k, none⟩) hg4).trans (hcell4 k h)⟩
  have AT := Lib.hid hAT
  have HA := Lib.hid hA
  have HB := Lib.hid hB
  have HB4 := Lib.hid hB4
  have HSA := Lib.hid hshA
  have HSB := Lib.hid hshB
  have hall := Lib.hid (bfsTo_all (P := inP A B) (on := sOn 2 A B) (inP_zero hA.st0 hB4 hB.st0) (fun x hx l b hl h => sOn_in (k := 2) hA hB hB4 x hx l b hl h))
  have HINS := Lib.hid (fun x (hx : inP A B x) l b hl h => sOn_in (k := 2) hA hB hB4 x hx l b hl h)
  have HNN := Lib.hid hN
  have hle := Lib.hid (bfsTo_le hN)
  clear hcell1 hcell2 hcell3 hcell4 hA hB hN h1 h2 h3 h4 hAT hshA hshB
  have F0 := prs_start ((w.alloc (.cells #[.int .i64 A.st, .slice (some ⟨g1, off1, none⟩) A.next.length c1, .slice (some ⟨g2, off2, none⟩) A.ends.length c2] 115)).alloc (.cells #[.int .i64 B.st, .slice (some ⟨g3, off3, none⟩) B.next.length c3, .slice (some ⟨g4, off4, none⟩) B.ends.length c4] 115))
  simp only [World.size_alloc] at F0
  have FF := Lib.hid F0
  have hbw0 : Below w.heap.size w ((w.alloc (.cells #[.int .i64 A.st, .slice (some ⟨g1, off1, none⟩) A.next.length c1, .slice (some ⟨g2, off2, none⟩) A.ends.length c2] 115)).alloc (.cells #[.int .i64 B.st, .slice (some ⟨g3, off3, none⟩) B.next.length c3, .slice (some ⟨g4, off4, none⟩) B.ends.length c4] 115)) := ((Below.refl _ _).alloc (Nat.le_refl _) _).alloc (by simp) _
  have HBW := Lib.hid hbw0
  have hS0 : ((w.alloc (.cells #[.int .i64 A.st, .slice (some ⟨g1, off1, none⟩) A.next.length c1, .slice (some ⟨g2, off2, none⟩) A.ends.length c2] 115)).alloc (.cells #[.int .i64 B.st, .slice (some ⟨g3, off3, none⟩) B.next.length c3, .slice (some ⟨g4, off4, none⟩) B.ends.length c4] 115)).heap.size = w.heap.size + 1 + 1 := by simp
  have HS0 := Lib.hid hS0
  clear F0 hbw0 hS0
  go_enter Try.func133, Try.ntmps133
  go_wp2_with fail
  generalize hW0 : (w.alloc (.cells #[.int .i64 A.st, .slice (some ⟨g1, off1, none⟩) A.next.length c1, .slice (some ⟨g2, off2, none⟩) A.ends.length c2] 115)).alloc (.cells #[.int .i64 B.st, .slice (some ⟨g3, off3, none⟩) B.next.length c3, .slice (some ⟨g4, off4, none⟩) B.ends.length c4] 115) = W0 at *
  clear hW0
  rw [← HS0.out] at AT FF ⊢
  generalize hR3 : w.heap.size = R3 at *
  generalize hR6 : W0.heap.size = R6 at *
  generalize R6 + 1 = R7 at *
  generalize (((W0.alloc (.cells #[.int .i64 0, .slice none 0 0, .slice none 0 0] 115)).alloc (.cells #[.int .i64 0, .slice none 0 0, .slice none 0 0] 115)).alloc (.cells #[.int .i64 0, .int .i64 0] 3)).alloc (.cells #[.slice (some ⟨R7 + 1, 0, none⟩) 2 2] 113) = W1 at *
  have HR6 := Lib.hid hR6
  clear hR6
  generalize hon : sOn 2 A B = on at *
  have HON := Lib.hid hon
  clear hon
  go_loopw [9, 10] (fun qv i wr => ∃ (n : Nat) (ps : List (Value × Int)) (nx : List Int) (nv ev : Value), n ≤ N ∧ n ≤ ps.length ∧ i = .int .i64 n ∧ bfsTo on (pc 0 0) n = (cds ps, nx) ∧ Prs W0 R6 R7 ps qv nx nv (((cds ps).take n).map (pEnds A B (gk 2))) ev wr) (fun _ i _ => N - (intOf i).toNat)
  case atStart => exact ⟨0, _, [], _, _, Nat.zero_le _, Nat.zero_le _, rfl, rfl, FF.out⟩
  case round =>
    obtain ⟨n, ps, nx, nv, ev, hn, hnq, rfl, hq, hF⟩ := hrel
    have F1 := Lib.hid hF
    obtain ⟨a8, c8, rfl⟩ := ownsRow_slice hF.rowQ
    clear hF
    have HQ := Lib.hid hq
    have hqN : ps.length ≤ N := by have := hle.out n; rw [hq] at this; rw [← cds_len]; exact this
    have hPq : Hid (∀ y ∈ cds ps, inP A B y) := by have := hall.out n; rw [hq] at this; exact Lib.hid this
    by_cases hlt : n < ps.length
    · have hlc : n < (cds ps).length := by rw [cds_len]; exact hlt
      have hxe : (cds ps)[n] = ps[n].2 := by simp [cds]
      have hx := Lib.hid (hPq.out _ (List.getElem_mem hlc))
      obtain ⟨g8, c8', hs8, -, -⟩ := World.ownsRow.form F1.out.rowQ (by omega)
      cases hs8
      have hcq := F1.out.outer rfl n hlt
      obtain ⟨gi, ci, hgi, hi1, hi2⟩ := F1.out.pair n hlt
      rw [hgi] at hcq
      rw [hxe] at hx
      generalize ps[n].2 = x at *
      have HX := Lib.hid hxe
      clear hq hxe hgi
      have hii : -1 ≤ p1 x ∧ p1 x < A.st := ⟨hx.out.1, hx.out.2.1⟩
      have hjj : -1 ≤ p2 x ∧ p2 x < B.st := ⟨hx.out.2.2.1, hx.out.2.2.2⟩
      generalize hXI : p1 x = xi at *
      generalize hXJ : p2 x = xj at *
      have HXI := Lib.hid hXI
      have HXJ := Lib.hid hXJ
      clear hXI hXJ
      have hkeep : Below R6 W0 wr := by rw [← HR6.out]; exact F1.out.keep
      obtain ⟨t1, t2, t3, t4, tA, tE, tB, tF⟩ := AT.out wr hkeep
      have HTT := Lib.hid (And.intro tA (And.intro tE (And.intro tB tF)))
      clear tA tE tB tF hkeep
      go_upto_region 8 with fail
      clear hcq hi1 hi2
      go_cut [13] from 23 to 184 (fun c wx => c = .bool (A.endAt xi) ∧ wx = wr)
      case first =>
        as_aux_lemma =>
          by_cases hneg : xi < 0
          · have he := endAt_neg A hneg
            have HE := Lib.hid he
            clear he
            go_wp2
            go_meet
            case rel => exact ⟨congrArg Value.bool HE.out.symm, rfl⟩
          · obtain ⟨kk, hk1, hk2, hk3⟩ := M.gendAt_at HA.out xi (by omega) hii.2
            have hcell := HTT.out.2.1 kk hk2
            have HE := Lib.hid hk3
            subst hk1
            have hkl : (kk : Int) < A.ends.length := by omega
            clear hk3
            generalize A.ends[kk] = eb at *
            go_wp2
            go_meet
            case rel => exact ⟨congrArg Value.bool HE.out.symm, rfl⟩
      case rest =>
        obtain ⟨rfl, rfl⟩ := hcut
        go_upto_region 9 with fail
        go_cut [14] from 23 to 184 (fun c wx => c = .bool (B.endAt xj) ∧ wx = wc)
        case first =>
          as_aux_lemma =>
            by_cases hneg : xj < 0
            · have he := endAt_neg B hneg
              have HE := Lib.hid he
              clear he
              go_wp2
              go_meet
              case rel => exact ⟨congrArg Value.bool HE.out.symm, rfl⟩
            · obtain ⟨kk, hk1, hk2, hk3⟩ := M.gendAt_at HB.out xj (by omega) hjj.2
              have hcell := HTT.out.2.2.2 kk hk2
              have HE := Lib.hid hk3
              subst hk1
              have hkl : (kk : Int) < B.ends.length := by omega
              clear hk3
              generalize B.ends[kk] = eb at *
              go_wp2
              go_meet
              case rel => exact ⟨congrArg Value.bool HE.out.symm, rfl⟩
        case rest =>
          obtain ⟨rfl, rfl⟩ := hcut
          have HPE : Hid (pEnds A B (gk 2) x = gk 2 (A.endAt xi) (B.endAt xj)) := Lib.hid (by unfold pEnds; rw [HXI.out, HXJ.out])
          have hes : (((cds ps).take n).map (pEnds A B (gk 2))).length ≤ 4000 := by rw [List.length_map, List.length_take, cds_len]; omega
          have HT0 : Hid (((cds ps).take (n + 1)).map (pEnds A B (gk 2)) = ((cds ps).take n).map (pEnds A B (gk 2)) ++ [pEnds A B (gk 2) x]) := by
            have : ((cds ps).take (n + 1)).map (pEnds A B (gk 2)) = ((cds ps).take n).map (pEnds A B (gk 2)) ++ [pEnds A B (gk 2) x] := by
              rw [List.take_succ_eq_append_getElem hlc, List.map_append, HX.out]; rfl
            exact Lib.hid this
          generalize ((cds ps).take n).map (pEnds A B (gk 2)) = es at *
          generalize pEnds A B (gk 2) x = en at *
          have z2 := F1.out.cell.2.2
          go_upto_region 10 with fail
          go_cut [] from 23 to 184 (fun wx => ∃ ev' : Value, Prs W0 R6 R7 ps (.slice (some ⟨g8, 0, none⟩) ps.length c8) nx nv (es ++ [en]) ev' wx)
          case first =>
            as_aux_lemma =>
              have HEN : Hid (en = gk 2 (A.endAt xi) (B.endAt xj)) := HPE
              clear HPE
              generalize A.endAt xi = e1 at *
              generalize B.endAt xj = e2 at *
              clear HON
              cases e1 <;> cases e2 <;> (have hen := HEN.out; simp only [gk] at hen; simp at hen; subst hen; clear HEN; go_wp2_with (at_builtin; refine wpList_append_lies _ rfl _ _ 84 rfl 0 4 j0 (.bool false) 1 1 Try.underlying84 HJ.out.1 HJ.out.2.1 HJ.out.2.2.1 HJ.out.2.2.2 rfl (by decide) ev es.length (es.map Value.bool) rfl (F1.out.rowE.alloc _) ⟨wc.heap.size, 0, none⟩ 1 1 [.bool _] rfl rfl (cell_one_new _ _ _) (by simp [Value.oneCell']) (by omega) (by unfold maxLen; omega) (by omega) (Nat.zero_le _) _ rfl ?_; intro g9 cp w4 hown hgrow hat hlt3; obtain ⟨F4, x31, f31⟩ := F1.out.nextE hgrow hown hat); go_meet; exact ⟨_, F4⟩)
          case rest =>
            obtain ⟨ev2, hF5⟩ := hcut
            have F5 := Lib.hid hF5
            clear hF5 F1 z2 t1 t2 t3 t4
            have hg8e : es.length ≤ 4000 := hes
            go_wp2_with fail
            go_loopw [9, 15] (fun qv' li wr => ∃ (l : Nat) (ps' : List (Value × Int)) (nx' : List Int) (nv' : Value), l ≤ 3 ∧ li = .int .i64 l ∧ bfsL on x (cds ps, nx) l = (cds ps', nx') ∧ Prs W0 R6 R7 ps' qv' nx' nv' (es ++ [en]) ev2 wr) (fun _ li _ => 3 - (intOf li).toNat)
            case atStart => exact ⟨0, ps, nx, nv, by omega, rfl, rfl, F5.out⟩
            case round =>
              obtain ⟨l, ps', nx', nv', hl, rfl, hq', hF'⟩ := hrel
              have F6 := Lib.hid hF'
              have HQ' := Lib.hid hq'
              have hn' : n < ps'.length := by obtain ⟨h1, _⟩ := bfsL_at hq' hlc; rw [cds_len] at h1; exact h1
              obtain ⟨g7, c7, rfl, -, -⟩ := World.ownsRow.form hF'.rowQ (by omega)
              have hq'N : ps'.length ≤ N := by
                have h1 := (bfsL_mono on x (cds ps, nx) hl).length_le
                have h2 := hle.out (n + 1)
                rw [bfsTo_step (by rw [HQ.out]; exact hlc)] at h2
                simp only [HQ.out, HX.out] at h2
                rw [HQ'.out] at h1
                simp only at h1
                rw [cds_len] at h1
                omega
              have hnl : nx'.length ≤ 13000 := by
                have h1 := bfsL_len on x (cds ps, nx) l
                have h2 := bfsTo_len (on := on) (s0 := pc 0 0) n (by rw [HQ.out]; show n ≤ (cds ps).length; omega)
                rw [HQ'.out] at h1
                rw [HQ.out] at h2
                simp only at h1 h2
                omega
              have hnd : Hid ((cds ps').Nodup) := by
                have h1 := bfsL_nodup on x (p := (cds ps, nx)) (by have := bfsTo_nodup on (pc 0 0) n; rw [HQ.out] at this; exact this) l
                rw [HQ'.out] at h1
                exact Lib.hid h1
              have hall' : Hid (∀ y ∈ cds ps', inP A B y) := by
                have h1 := bfsL_all (P := inP A B) on x (p := (cds ps, nx)) hPq.out (fun l b hl h => HINS.out x hx.out l b hl h) l hl
                rw [HQ'.out] at h1
                exact Lib.hid h1
              clear hF' hq'
              by_cases hl3 : l < 3
              · have HB1 : Hid (bfsL on x (cds ps, nx) (l + 1) = bfs1 (cds ps', nx') (on x l)) := by
                  have : bfsL on x (cds ps, nx) (l + 1) = bfs1 (cds ps', nx') (on x l) := by rw [bfsL, HQ'.out]
                  exact Lib.hid this
                have hk6 : Below R6 W0 wr := by rw [← HR6.out]; exact F6.out.keep
                obtain ⟨t1, t2, t3, t4, tA, tE, tB, tF⟩ := AT.out _ hk6
                have HTB := Lib.hid (And.intro tA tB)
                clear tA tE tB tF t2 t4 hk6
                have hAx := Lib.hid (M.gnx_bd HA.out xi (l : Int) hii.2 (by omega) (by omega))
                have hBx := Lib.hid (M.gnx_bd HB.out xj (l : Int) hjj.2 (by omega) (by omega))
                have HOX : Hid (on x l = if kStop 2 (A.nx xi (l : Int)) (B.nx xj (l : Int)) = true then none else some (pc (A.nx xi (l : Int)) (B.nx xj (l : Int)))) := by
                  have : on x l = if kStop 2 (A.nx xi (l : Int)) (B.nx xj (l : Int)) = true then none else some (pc (A.nx xi (l : Int)) (B.nx xj (l : Int))) := by
                    rw [← HON.out]; unfold sOn pOn; rw [HXI.out, HXJ.out]
                  exact Lib.hid this
                go_upto_if 98 with fail
                go_cut [16] from 93 to 184 (fun c wx => c = .int .i64 (A.nx xi (l : Int)) ∧ wx = wr)
                case first =>
                  as_aux_lemma =>
                    by_cases hneg : xi < 0
                    · have HE := Lib.hid (M.nx_neg A xi (l : Int) hneg)
                      have hge : ¬ (0 ≤ xi) := by omega
                      go_wp2
                      go_meet
                      case rel => exact ⟨congrArg (Value.int .i64) HE.out.symm, rfl⟩
                    · obtain ⟨kk, hk1, hk2, hk3⟩ := M.gnx_at HA.out xi (l : Int) (by omega) hii.2 (by omega) (by omega)
                      have hcell := HTB.out.1 kk hk2
                      have HE := Lib.hid hk3
                      have hq1 : IntKind.i64.wrap (3 * xi) = 3 * xi := IntWalk.i64_in _ (by have := HSA.out; omega)
                      have hq2 : IntKind.i64.wrap (3 * xi + (l : Int)) = 3 * xi + (l : Int) := IntWalk.i64_in _ (by have := HSA.out; omega)
                      have hq3 : 3 * xi + (l : Int) = kk := by omega
                      have hge : 0 ≤ xi := by omega
                      clear hk1 hk3
                      generalize A.next[kk] = c at *
                      go_wp2
                      go_meet
                      case rel => exact ⟨congrArg (Value.int .i64) HE.out.symm, rfl⟩
                case rest =>
                  obtain ⟨rfl, rfl⟩ := hcut
                  go_upto_if 108 with fail
                  go_cut [17] from 93 to 184 (fun c wx => c = .int .i64 (B.nx xj (l : Int)) ∧ wx = wc)
                  case first =>
                    as_aux_lemma =>
                      by_cases hneg : xj < 0
                      · have HE := Lib.hid (M.nx_neg B xj (l : Int) hneg)
                        have hge : ¬ (0 ≤ xj) := by omega
                        go_wp2
                        go_meet
                        case rel => exact ⟨congrArg (Value.int .i64) HE.out.symm, rfl⟩
                      · obtain ⟨kk, hk1, hk2, hk3⟩ := M.gnx_at HB.out xj (l : Int) (by omega) hjj.2 (by omega) (by omega)
                        have hcell := HTB.out.2 kk hk2
                        have HE := Lib.hid hk3
                        have hq1 : IntKind.i64.wrap (3 * xj) = 3 * xj := IntWalk.i64_in _ (by have := HSB.out; omega)
                        have hq2 : IntKind.i64.wrap (3 * xj + (l : Int)) = 3 * xj + (l : Int) := IntWalk.i64_in _ (by have := HSB.out; omega)
                        have hq3 : 3 * xj + (l : Int) = kk := by omega
                        have hge : 0 ≤ xj := by omega
                        clear hk1 hk3
                        generalize B.next[kk] = c at *
                        go_wp2
                        go_meet
                        case rel => exact ⟨congrArg (Value.int .i64) HE.out.symm, rfl⟩
                  case rest =>
                    obtain ⟨rfl, rfl⟩ := hcut
                    clear t1 t3
                    generalize A.nx xi (l : Int) = ii at *
                    generalize B.nx xj (l : Int) = jj at *
                    go_upto_region 20 with fail
                    go_cut [138] from 93 to 184 (fun c wx => c = .bool (kStop 2 ii jj) ∧ wx = wc)
                    case first =>
                      as_aux_lemma =>
                        clear HOX
                        by_cases hi : ii < 0 <;> by_cases hj : jj < 0 <;> (have hks : kStop 2 ii jj = _ := by { simp only [kStop, hi, hj]; rfl }; have HKS := Lib.hid hks; clear hks; go_wp2; go_meet; exact ⟨congrArg Value.bool HKS.out.symm, rfl⟩)
                    case rest =>
                      obtain ⟨rfl, rfl⟩ := hcut
                      have y0 := F6.out.cell.2.1
                      generalize kStop 2 ii jj = sb at *
                      cases sb with
                      | true =>
                        have HO1 : Hid (on x l = none) := Lib.hid (HOX.out.trans (if_pos rfl))
                        clear HOX
                        go_wp2_with (at_builtin; refine wpList_append_lies _ rfl _ _ 113 rfl 0 3 i0 (.int .i64 0) 1 8 Try.underlying113 HI.out.1 HI.out.2.1 HI.out.2.2.1 HI.out.2.2.2 rfl (by decide) nv' nx'.length (nx'.map (Value.int .i64)) rfl (F6.out.rowN.alloc _) ⟨wc.heap.size, 0, none⟩ 1 1 [.int .i64 (-1)] rfl rfl (cell_one_new _ _ _) (by simp [Value.oneCell']) (by omega) (by unfold maxLen; omega) (by omega) (Nat.zero_le _) _ rfl ?_; intro g9 cp w4 hown hgrow hat hlt; obtain ⟨F7, x31, f31⟩ := F6.out.nextN hgrow hown hat)
                        go_roundw
                        case rel => exact ⟨l + 1, ps', nx' ++ [-1], _, by omega, by go_num, by rw [HB1.out, HO1.out, bfs1_none], F7⟩
                        case measure => simp [intOf]; omega
                      | false =>
                        have HO1 : Hid (on x l = some (pc ii jj)) := Lib.hid (HOX.out.trans (if_neg (by simp)))
                        clear HOX
                        have hj48 : jj < 48 := by have := HB4.out; have := hBx.out; omega
                        have HPC := Lib.hid (And.intro (p1_pc (i := ii) hBx.out.1 hj48) (p2_pc (i := ii) hBx.out.1 hj48))
                        clear y0
                        generalize WRN : wc = wr0 at *
                        clear WRN
                        go_wp2_with fail
                        go_loopw [18, 19] (fun f i wr' => ∃ k : Nat, k ≤ ps'.length ∧ i = .int .i64 k ∧ f = .int .i64 (fnd (cds ps') (pc ii jj) k) ∧ wr' = wr0) (fun _ i _ => ps'.length - (intOf i).toNat)
                        case atStart => exact ⟨0, Nat.zero_le _, rfl, by rw [fnd_zero], (by first | rfl | trivial)⟩
                        case round =>
                          obtain ⟨kk, hkk, rfl, rfl, hww⟩ := hrel
                          rw [hww]
                          clear hww
                          by_cases hkq : kk < ps'.length
                          · have hkc : kk < (cds ps').length := by rw [cds_len]; exact hkq
                            have hke : (cds ps')[kk] = ps'[kk].2 := by simp [cds]
                            have hcq3 := F6.out.outer rfl kk hkq
                            obtain ⟨gz, cz, hgz, hz1, hz2⟩ := F6.out.pair kk hkq
                            rw [hgz] at hcq3
                            have HFh := Lib.hid (fnd_hit (b := pc ii jj) hnd.out hkc)
                            have HFm := Lib.hid (fnd_miss (b := pc ii jj) hkc)
                            rw [hke] at HFh HFm
                            generalize ps'[kk].2 = z at *
                            generalize hfv : fnd (cds ps') (pc ii jj) kk = fv at HFm ⊢
                            have HZ := Lib.hid (pc_p z)
                            generalize hza0 : p1 z = za at *
                            generalize hzb0 : p2 z = zb at *
                            have HZA := Lib.hid hza0
                            have HZB := Lib.hid hzb0
                            clear hgz hke hza0 hzb0
                            by_cases hza : za = ii
                            · by_cases hzb : zb = jj
                              · subst hza hzb
                                have HFv := Lib.hid (HFh.out HZ.out.symm)
                                clear HFm HFh
                                go_wp2
                                go_roundw
                                case rel => exact ⟨kk + 1, by omega, by go_num, by rw [HFv.out], (by first | rfl | trivial)⟩
                                case measure => simp [intOf]; omega
                              · have hzb' : (zb == jj) = false := by simpa using hzb
                                have HFv := Lib.hid (HFm.out (fun e => hzb (by rw [← HZB.out, e, HPC.out.2])))
                                subst hza
                                clear hzb HFm HFh
                                go_wp2
                                go_roundw
                                case rel => exact ⟨kk + 1, by omega, by go_num, by rw [HFv.out], (by first | rfl | trivial)⟩
                                case measure => simp [intOf]; omega
                            · have hza' : (za == ii) = false := by simpa using hza
                              have HFv := Lib.hid (HFm.out (fun e => hza (by rw [← HZA.out, e, HPC.out.1])))
                              clear hza HFm HFh
                              go_wp2
                              go_roundw
                              case rel => exact ⟨kk + 1, by omega, by go_num, by rw [HFv.out], (by first | rfl | trivial)⟩
                              case measure => simp [intOf]; omega
                          · obtain rfl : kk = ps'.length := by omega
                            have HFA := Lib.hid (fnd_all (cds ps') (pc ii jj))
                            rw [cds_len] at HFA
                            have y0 := F6.out.cell.2.1
                            by_cases hbm : pc ii jj ∈ cds ps'
                            · have HBM := Lib.hid hbm
                              have HF1 : Hid (fnd (cds ps') (pc ii jj) ps'.length = ((cds ps').idxOf (pc ii jj) : Int)) := Lib.hid (HFA.out.trans (if_pos hbm))
                              clear hbm HFA
                              rw [HF1.out]
                              generalize hix : (cds ps').idxOf (pc ii jj) = ix at *
                              have HIX := Lib.hid hix
                              clear hix
                              have hge : ¬ ((ix : Int) < 0) := by omega
                              go_wp2_with (at_builtin; refine wpList_append_lies _ rfl _ _ 113 rfl 0 3 i0 (.int .i64 0) 1 8 Try.underlying113 HI.out.1 HI.out.2.1 HI.out.2.2.1 HI.out.2.2.2 rfl (by decide) nv' nx'.length (nx'.map (Value.int .i64)) rfl (F6.out.rowN.alloc _) ⟨wr0.heap.size, 0, none⟩ 1 1 [.int .i64 (ix : Int)] rfl rfl (cell_one_new _ _ _) (by simp [Value.oneCell']) (by omega) (by unfold maxLen; omega) (by omega) (Nat.zero_le _) _ rfl ?_; intro g9 cp w4 hown hgrow hat hlt; obtain ⟨F9, x31, f31⟩ := F6.out.nextN hgrow hown hat)
                              go_roundw
                              case rel => exact ⟨l + 1, ps', nx' ++ [(ix : Int)], _, by omega, by go_num, by rw [HB1.out, HO1.out, bfs1_old HBM.out]; simp only [HIX.out], F9⟩
                              case measure => simp [intOf]; omega
                            · have HBM := Lib.hid hbm
                              have HF1 : Hid (fnd (cds ps') (pc ii jj) ps'.length = -1) := Lib.hid (HFA.out.trans (if_neg hbm))
                              clear hbm HFA
                              rw [HF1.out]
                              have HPU : Hid (∀ {g9 cp : Nat} {w4 : World}, ((wr0.alloc (.cells #[.int .i64 ii, .int .i64 jj] 3)).alloc (.cells #[.slice (some ⟨wr0.heap.size, 0, none⟩) 2 2] 113)).grownBy w4 (some g7) → w4.ownsRow 0 113 1 (.slice (some ⟨g9, 0, none⟩) (ps'.length + 1) cp) (ps'.length + 1) (ps'.map Prod.fst ++ [.slice (some ⟨wr0.heap.size, 0, none⟩) 2 2]) → (some g7 = some g9 ∨ g9 = ((wr0.alloc (.cells #[.int .i64 ii, .int .i64 jj] 3)).alloc (.cells #[.slice (some ⟨wr0.heap.size, 0, none⟩) 2 2] 113)).heap.size) → Prs W0 R6 R7 (ps' ++ [(.slice (some ⟨wr0.heap.size, 0, none⟩) 2 2, pc ii jj)]) (.slice (some ⟨g9, 0, none⟩) (ps'.length + 1) cp) nx' nv' (es ++ [en]) ev2 w4) :=
                                Lib.hid (fun h1 h2 h3 => F6.out.push (c := pc ii jj) (by rw [HPC.out.1, HPC.out.2]) rfl h1 h2 h3)
                              go_wp2_with (first | (at_builtin; refine wpList_append_lies _ rfl _ _ 146 rfl 0 113 s0 (.slice none 0 0) 1 24 Try.underlying146 HS.out.1 HS.out.2.1 HS.out.2.2.1 HS.out.2.2.2 rfl (by decide) (.slice (some ⟨g7, 0, none⟩) ps'.length c7) ps'.length (ps'.map Prod.fst) rfl ((F6.out.rowQ.alloc _).alloc _) ⟨wr0.heap.size + 1, 0, none⟩ 1 1 [.slice (some ⟨wr0.heap.size, 0, none⟩) 2 2] rfl rfl (cell_one_new2 _ _ _ _) (by simp [Value.oneCell']) (by omega) (by unfold maxLen; omega) (by omega) (Nat.zero_le _) _ rfl ?_; intro g9 cp w4 hown hgrow hat hlt3; have F9 := Lib.hid (HPU.out hgrow hown hat); have z1 := F9.out.cell.2.1) | (at_builtin; refine wpList_append_lies _ rfl _ _ 113 rfl 0 3 i0 (.int .i64 0) 1 8 Try.underlying113 HI.out.1 HI.out.2.1 HI.out.2.2.1 HI.out.2.2.2 rfl (by decide) nv' nx'.length (nx'.map (Value.int .i64)) rfl (F9.out.rowN.alloc _) ⟨w4.heap.size, 0, none⟩ 1 1 [.int .i64 _] rfl rfl (cell_one_new _ _ _) (by simp [Value.oneCell']) (by omega) (by unfold maxLen; omega) (by omega) (Nat.zero_le _) _ rfl ?_; intro g10 cp10 w5 hown5 hgrow5 hat5 hlt5; obtain ⟨F10, x31, f31⟩ := F9.out.nextN hgrow5 hown5 hat5))
                              go_roundw
                              case rel => exact ⟨l + 1, ps' ++ [(.slice (some ⟨wr0.heap.size, 0, none⟩) 2 2, pc ii jj)], nx' ++ [(ps'.length : Int)], _, by omega, by go_num, by rw [HB1.out, HO1.out, bfs1_new HBM.out, cds_snoc, cds_len], F10⟩
                              case measure => simp [intOf]; omega
              · obtain rfl : l = 3 := by omega
                have HB3 : Hid (bfsTo on (pc 0 0) (n + 1) = (cds ps', nx')) := by
                  have : bfsTo on (pc 0 0) (n + 1) = (cds ps', nx') := by
                    rw [bfsTo_step (by rw [HQ.out]; exact hlc)]
                    simp only [HQ.out, HX.out]
                    exact HQ'.out
                  exact Lib.hid this
                have hn1 : n < N := by omega
                have HT : Hid (((cds ps').take (n + 1)).map (pEnds A B (gk 2)) = es ++ [en]) := by
                  have h1 := bfsL_take (ends := pEnds A B (gk 2)) HQ'.out hlc HX.out
                  have : ((cds ps').take (n + 1)).map (pEnds A B (gk 2)) = es ++ [en] := by
                    rw [h1, ← HT0.out, List.take_succ_eq_append_getElem hlc, List.map_append, HX.out]; rfl
                  exact Lib.hid this
                go_wp2_with fail
                go_roundw
                case rel => exact ⟨n + 1, ps', nx', nv', _, hn1, hn', by go_num, HB3.out, by rw [HT.out]; exact F6.out⟩
                case measure => simp [intOf]; omega
    · have hqn : ps.length = n := by omega
      have hnN : n = N := bfsTo_one (by rw [HQ.out]; exact (cds_len ps).trans hqn) HNN.out
      subst hnN
      have F5 := F1.out
      rw [List.take_of_length_le (by rw [cds_len]; omega)] at F5
      clear F1
      obtain ⟨a1, c1', rfl⟩ := ownsRow_slice F5.rowN
      obtain ⟨a2, c2', rfl⟩ := ownsRow_slice F5.rowE
      have F1 := Lib.hid F5
      clear F5
      have y0 := F1.out.cell.1
      have y0f := F1.out.froz 0
      obtain ⟨x0, x1, x2, x6⟩ := F1.out.len (n : Int) rfl
      have g00 : (wr.setCell ⟨R7, 0, none⟩ (.int .i64 (n : Int))).cell? ⟨R6, 0, none⟩ = some (.int .i64 0) := cellsT_cell x6 0
      have g01 : (wr.setCell ⟨R7, 0, none⟩ (.int .i64 (n : Int))).cell? ⟨R6, 1, none⟩ = some (.slice none 0 0) := cellsT_cell x6 1
      have g02 : (wr.setCell ⟨R7, 0, none⟩ (.int .i64 (n : Int))).cell? ⟨R6, 2, none⟩ = some (.slice none 0 0) := cellsT_cell x6 2
      have f00 := cellsT_frozen x6 0
      have f01 := cellsT_frozen x6 1
      have f02 := cellsT_frozen x6 2
      clear x6
      have hn4 : (n : Int) ≤ 4000 := by omega
      have hTO : Hid (∀ W, W = (((wr.setCell ⟨R7, 0, none⟩ (.int .i64 (n : Int))).setCell ⟨R6, 0, none⟩ (.int .i64 (n : Int))).setCell ⟨R6, 1, none⟩ (.slice a1 nx.length c1')).setCell ⟨R6, 2, none⟩ (.slice a2 ((cds ps).map (pEnds A B (gk 2))).length c2') →
          Apart R6 [rowT 3 1 (.slice a1 nx.length c1') nx.length (nx.map (Value.int .i64)), rowT 4 1 (.slice a2 ((cds ps).map (pEnds A B (gk 2))).length c2') ((cds ps).map (pEnds A B (gk 2))).length (((cds ps).map (pEnds A B (gk 2))).map Value.bool)] W ∧ Below R6 W0 W ∧ W.cell? ⟨R6, 0, none⟩ = some (.int .i64 (n : Int)) ∧ W.cell? ⟨R6, 1, none⟩ = some (.slice a1 nx.length c1') ∧ W.cell? ⟨R6, 2, none⟩ = some (.slice a2 ((cds ps).map (pEnds A B (gk 2))).length c2')) := Lib.hid (fun W hW => by
        have h := F1.out.done (n : Int) hW
        rw [HR6.out] at h
        exact h)
      have HM : Hid ((bM on (pc 0 0) n (pEnds A B (gk 2))) = ⟨(n : Int), nx, (cds ps).map (pEnds A B (gk 2))⟩) := Lib.hid (by rw [bM, HQ.out])
      have HLE : Hid (w.heap.size ≤ R6 ∧ Below w.heap.size w W0) := Lib.hid ⟨by have := HS0.out; omega, by rw [hR3]; exact HBW.out⟩
      go_upto_region 33 with fail
      generalize hED : (cds ps).map (pEnds A B (gk 2)) = EE at *
      clear hED
      have hne1 : ¬ (R6 = R7) := fun e => (List.pairwise_iff_getElem.1 F1.out.ap.two 0 4 (by simp) (by simp) (by omega)) R7 rfl (congrArg some e)
      have hne2 : ¬ (R7 = R6) := fun e => hne1 e.symm
      go_region
      all_goals
        clear hne1 hne2 g00 g01 g02 f00 f01 f02 x0 x1 x2 y0 y0f
        obtain ⟨r1, r2, r3, r4, r5⟩ := hTO.out _ rfl
        have HR := Lib.hid (And.intro (r1.same (grown_drew _ none)) r2.drew)
        clear r1 r2
        go_wp2
        refine bodyPost_ret (v := .tuple #[.agg #[.int .i64 (n : Int), .slice a1 nx.length c1', .slice a2 EE.length c2'], .bool true]) ?_ rfl (by rw [HM.out]; exact ⟨a1, a2, c1', c2', rfl, HR.out.1.mono HLE.out.1, HLE.out.2.trans (HR.out.2.mono HLE.out.1)⟩)
        simp [results, Try.results133, go_sem, r3, r4, r5]
end Go.Proofs.Ytlbblfbiiceofaa
