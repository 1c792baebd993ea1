/- spec.l2Order: the walk. No condition. -/
import Derived.Test.YtlbblfbiiceofaaOrder
import Derived.Deep.CutRange
namespace Go.Proofs.Ytlbblfbiiceofaa
open Go.RowKit

theorem ordOn_in {m : M} (hg : m.good) {cls : List Int} (hc : cls.length = m.ends.length) (X : List Bool) (x : Int) (hx : x ∈ cls) (l : Nat) (b : Int) (hl : l < 3) (h : ordOn m cls X x l = some b) : b ∈ cls := by
  unfold ordOn at h
  split at h
  · rename_i hcnd
    cases h
    have hs := M.good_shape hg
    obtain ⟨hr, _⟩ := idxOf_at hx
    have := M.gnx_bd hg (ordRep cls x : Int) (l : Int) (by unfold ordRep; omega) (by omega) (by omega)
    rw [List.getD_eq_getElem?_getD, List.getElem?_eq_getElem (by omega)]
    exact List.getElem_mem _
  · cases h

theorem bools_cells2 {w : World} {a : Option Addr} {n c : Nat} {xs : List Bool} (h : IsBools w (.slice a n c) xs) (h0 : 0 < xs.length) : ∃ g off : Nat, a = some ⟨g, off, none⟩ ∧ n = xs.length ∧ n ≤ c ∧ c ≤ maxLen ∧ g < w.heap.size ∧ ∀ k (h : k < xs.length), w.cell? ⟨g, off + k, none⟩ = some (.bool xs[k]) := by
  obtain ⟨a', c', he, e1, e2, h2⟩ := h
  simp only [Value.slice.injEq] at he
  obtain ⟨rfl, rfl, rfl⟩ := he
  obtain ⟨g, off, rfl, hg, hc⟩ := h2.resolve_left (fun e => by rw [e] at h0; exact absurd h0 (Nat.lt_irrefl 0))
  exact ⟨g, off, rfl, rfl, e1, e2, hg, hc⟩

set_option maxHeartbeats 4000000 in
set_option maxRecDepth 100000 in
theorem specL2Order_any (m : M) (cls : List Int) (X : List Bool) (nv ev cv lv : Value) (w : World) (N : Nat) (h1 : IsInts w nv m.next) (h2 : IsBools w ev m.ends) (h3 : IsInts w cv cls) (h4 : IsBools w lv X) (hg : m.good)
    (hc : cls.length = m.ends.length) (hX : X.length = m.ends.length) (h0 : 0 < cls.length)
    (hN : (bfsTo (ordOn m cls X) cls[0] N).1.length = N) (hN4 : N ≤ 4000) :
    Calls Try.prog 126 #[.agg #[.int .i64 m.st, nv, ev], cv, lv] w (MachNew ⟨N, (bfsTo (ordOn m cls X) cls[0] N).2, (bfsTo (ordOn m cls X) cls[0] N).1.map (ordEnds m cls)⟩ w) := by
  obtain ⟨i0, hi, hz0, hz1, hz2⟩ := info_parts infoIntF
  obtain ⟨j0, hj, hy0, hy1, hy2⟩ := info_parts infoBoolF
  have HI := Lib.hid (And.intro hi (And.intro hz0 (And.intro hz1 hz2)))
  have HJ := Lib.hid (And.intro hj (And.intro hy0 (And.intro hy1 hy2)))
  clear hi hz0 hz1 hz2 hj hy0 hy1 hy2
  have hsh := M.good_shape hg
  obtain ⟨av, nn, cn, rfl⟩ := h1.slice
  obtain ⟨g1, off1, rfl, rfl, hcn, hcnm, hg1, hcellN⟩ := ints_cells h1 (by omega)
  obtain ⟨ae, ne, ce, rfl⟩ := h2.slice
  obtain ⟨g2, off2, rfl, rfl, hce, hcem, hg2, hcellE⟩ := bools_cells2 h2 (by omega)
  obtain ⟨ac, nc, cc, rfl⟩ := h3.slice
  obtain ⟨g3, off3, rfl, rfl, hcc, hccm, hg3, hcellC⟩ := ints_cells h3 (by omega)
  obtain ⟨al, nl, cl, rfl⟩ := h4.slice
  obtain ⟨g4, off4, rfl, rfl, hcl, hclm, hg4, hcellL⟩ := bools_cells2 h4 (by omega)
  unfold maxLen at hcnm hccm hcem hclm
  have AT : Hid (∀ W, Below (w.heap.size + 1) (w.alloc (.cells #[.int .i64 m.st, .slice (some ⟨g1, off1, none⟩) m.next.length cn, .slice (some ⟨g2, off2, none⟩) m.ends.length ce] 115)) W → W.cell? ⟨w.heap.size, 1, none⟩ = some (.slice (some ⟨g1, off1, none⟩) m.next.length cn) ∧ W.cell? ⟨w.heap.size, 2, none⟩ = some (.slice (some ⟨g2, off2, none⟩) m.ends.length ce) ∧
      (∀ k (h : k < m.next.length), W.cell? ⟨g1, off1 + k, none⟩ = some (.int .i64 m.next[k])) ∧ (∀ k (h : k < m.ends.length), W.cell? ⟨g2, off2 + k, none⟩ = some (.bool m.ends[k])) ∧
      (∀ k (h : k < cls.length), W.cell? ⟨g3, off3 + k, none⟩ = some (.int .i64 cls[k])) ∧ (∀ k (h : k < X.length), W.cell? ⟨g4, off4 + k, none⟩ = some (.bool X[k]))) := by
    have : ∀ W, Below (w.heap.size + 1) (w.alloc (.cells #[.int .i64 m.st, .slice (some ⟨g1, off1, none⟩) m.next.length cn, .slice (some ⟨g2, off2, none⟩) m.ends.length ce] 115)) W → W.cell? ⟨w.heap.size, 1, none⟩ = some (.slice (some ⟨g1, off1, none⟩) m.next.length cn) ∧ W.cell? ⟨w.heap.size, 2, none⟩ = some (.slice (some ⟨g2, off2, none⟩) m.ends.length ce) ∧
      (∀ k (h : k < m.next.length), W.cell? ⟨g1, off1 + k, none⟩ = some (.int .i64 m.next[k])) ∧ (∀ k (h : k < m.ends.length), W.cell? ⟨g2, off2 + k, none⟩ = some (.bool m.ends[k])) ∧
      (∀ k (h : k < cls.length), W.cell? ⟨g3, off3 + k, none⟩ = some (.int .i64 cls[k])) ∧ (∀ k (h : k < X.length), W.cell? ⟨g4, off4 + k, none⟩ = some (.bool X[k])) := by
      intro W hW
      have hw := (((Below.refl w.heap.size w).alloc (Nat.le_refl _) (.cells #[.int .i64 m.st, .slice (some ⟨g1, off1, none⟩) m.next.length cn, .slice (some ⟨g2, off2, none⟩) m.ends.length ce] 115)).trans (hW.mono (Nat.le_succ _)))
      exact ⟨(hW.cell (p := ⟨w.heap.size, 1, none⟩) (Nat.lt_succ_self _)).trans (World.cell?_alloc_new w _ _ 1), (hW.cell (p := ⟨w.heap.size, 2, none⟩) (Nat.lt_succ_self _)).trans (World.cell?_alloc_new w _ _ 2),
        fun k h => (hw.cell (p := ⟨g1, off1 + k, none⟩) hg1).trans (hcellN k h), fun k h => (hw.cell (p := ⟨g2, off2 + k, none⟩) hg2).trans (hcellE k h),
        fun k h => (hw.cell (p := ⟨g3, off3 + k, none⟩) hg3).trans (hcellC k h), fun k h => (hw.cell (p := ⟨g4, off4 + k, none⟩) hg4).trans (hcellL k h)⟩
    exact Lib.hid this
  have HG := Lib.hid hg
  have HIN := Lib.hid (fun x hx l b hl h => ordOn_in hg hc X x hx l b hl h)
  have hall := Lib.hid (bfsTo_all (P := fun x => x ∈ cls) (List.getElem_mem h0) HIN.out)
  have HNN := Lib.hid hN
  have hle := Lib.hid (bfsTo_le hN)
  have hc0 := hcellC 0 h0
  clear hcellN hcellE hcellC hcellL hg hN h1 h2 h3 h4
  have F0 := ord_start (w.alloc (.cells #[.int .i64 m.st, .slice (some ⟨g1, off1, none⟩) m.next.length cn, .slice (some ⟨g2, off2, none⟩) m.ends.length ce] 115)) cls[0]
  simp only [World.size_alloc] at F0
  have y1 := (AT.out _ (Below.refl _ _)).1
  have hcls0 : ∀ c1 c2 : Obj, (((w.alloc (.cells #[.int .i64 m.st, .slice (some ⟨g1, off1, none⟩) m.next.length cn, .slice (some ⟨g2, off2, none⟩) m.ends.length ce] 115)).alloc c1).alloc c2).cell? ⟨g3, off3, none⟩ = some (.int .i64 cls[0]) := fun c1 c2 => (AT.out _ (((Below.refl (w.heap.size + 1) (w.alloc (.cells #[.int .i64 m.st, .slice (some ⟨g1, off1, none⟩) m.next.length cn, .slice (some ⟨g2, off2, none⟩) m.ends.length ce] 115))).alloc (by simp) c1).alloc (by simp) c2)).2.2.2.2.1 0 h0
  have FF := Lib.hid F0
  clear F0 hc0
  have hc0' : (0 : Int) < cls.length := by omega
  go_enter Try.func126, Try.ntmps126
  go_wp2_with fail
  clear y1 hcls0 hc0'
  have HSH := Lib.hid hsh
  have HCL := Lib.hid hc
  have HXL := Lib.hid hX
  clear hsh hc hX
  generalize hW0 : w.alloc (.cells #[.int .i64 m.st, .slice (some ⟨g1, off1, none⟩) m.next.length cn, .slice (some ⟨g2, off2, none⟩) m.ends.length ce] 115) = W0 at *
  have hs0 : W0.heap.size = w.heap.size + 1 := by rw [← hW0]; simp
  have hbw0 : Hid (Below w.heap.size w W0) := by rw [← hW0]; exact Lib.hid ((Below.refl _ _).alloc (Nat.le_refl _) _)
  clear hW0
  rw [← hs0] at AT FF ⊢
  generalize hR3 : w.heap.size = R3 at *
  generalize hR6 : W0.heap.size = R6 at *
  generalize R6 + 1 = R7 at *
  generalize (((W0.alloc (.cells #[.int .i64 0, .slice none 0 0, .slice none 0 0] 115)).alloc (.cells #[.int .i64 0, .slice none 0 0, .slice none 0 0] 115)).alloc (.cells #[.int .i64 cls[0]] 3)) = W1 at *
  have HS0 := Lib.hid hs0
  have HR6 := Lib.hid hR6
  clear hs0 hR6
  generalize hon : ordOn m cls X = on at *
  have HON := Lib.hid hon
  clear hon
  go_loopw [8, 9] (fun qv i wr => ∃ (n : Nat) (q : List Int) (nx : List Int) (nv ev : Value), n ≤ N ∧ n ≤ q.length ∧ i = .int .i64 n ∧ bfsTo on cls[0] n = (q, nx) ∧ Ord W0 R6 R7 q qv nx nv ((q.take n).map (ordEnds m cls)) ev wr) (fun _ i _ => N - (intOf i).toNat)
  case atStart => exact ⟨0, [cls[0]], [], _, _, Nat.zero_le _, Nat.zero_le _, rfl, rfl, FF.out⟩
  case round =>
    obtain ⟨n, q, nx, nv, ev, hn, hnq, rfl, hq, hF⟩ := hrel
    have F1 := Lib.hid hF
    obtain ⟨a8, c8, rfl⟩ := ownsRow_slice hF.rowQ
    clear hF
    have HQ := Lib.hid hq
    have hqN : q.length ≤ N := by have := hle.out n; rw [hq] at this; exact this
    have hPq : Hid (∀ y ∈ q, y ∈ cls) := by have := hall.out n; rw [hq] at this; exact Lib.hid this
    by_cases hlt : n < q.length
    · have hx := Lib.hid (hPq.out _ (List.getElem_mem hlt))
      generalize hxe : q[n] = x at hx
      have HX := Lib.hid hxe
      obtain ⟨hsl, hse⟩ := idxOf_at hx.out
      have HSE := Lib.hid hse
      obtain ⟨g8, c8', hs8, -, -⟩ := World.ownsRow.form F1.out.rowQ (by omega)
      cases hs8
      have hcq := World.ownsRow.cellAt F1.out.rowQ n (by omega)
      rw [List.getElem?_map, List.getElem?_eq_getElem hlt, hxe] at hcq
      simp only [Option.map_some] at hcq
      clear hq hxe hse
      go_wp2_with fail
      generalize hrep : cls.idxOf x = rep at *
      go_loopw [10] (fun s wr' => ∃ j d : Nat, j ≤ rep ∧ s = .int .i64 j ∧ wr' = wr.drewN d) (fun s _ => rep - (intOf s).toNat)
      case atStart => exact ⟨0, 0, Nat.zero_le _, rfl, rfl⟩
      case round =>
        obtain ⟨j, d, hj, rfl, rfl⟩ := hrel
        have hjl : j < cls.length := by omega
        have hkeep : Below R6 W0 wr := by rw [← HR6.out]; exact F1.out.keep
        have hcc1 : (wr.drewN d).cell? ⟨g3, off3 + j, none⟩ = some (.int .i64 cls[j]) := (AT.out wr hkeep).2.2.2.2.1 j hjl
        have hcq2 : (wr.drewN d).cell? ⟨g8, n, none⟩ = some (.int .i64 x) := hcq
        by_cases hje : j < rep
        · have hne : Hid ((cls[j] != x) = true) := by
            have : (cls[j] != x) = true := by
              have := idxOf_not (l := cls) (a := x) (j := j) (by rw [hrep]; exact hje) hjl
              simpa using this
            exact Lib.hid this
          have HW : Hid (∀ k, ∃ d', (wr.drewN d).drewN k = wr.drewN d') := by
            have : ∀ k, ∃ d', (wr.drewN d).drewN k = wr.drewN d' := fun k => ⟨d + k, by rw [World.drewN_drewN]⟩
            exact Lib.hid this
          generalize wr.drewN d = WW at hcc1 hcq2 HW ⊢
          have hne' := hne.out
          generalize cls[j] = y at hcc1 hne'
          clear hne hcq
          go_wp2
          go_quiet (fail)
          go_wp2
          go_roundw
          case rel => exact ⟨j + 1, _, by omega, by go_num, (HW.out _).choose_spec⟩
          case measure => simp [intOf]; omega
        · obtain rfl : j = rep := by omega
          have hcc2 : (wr.drewN d).cell? ⟨g3, off3 + j, none⟩ = some (.int .i64 x) := by
            rw [hcc1, HSE.out]
          have F2 := Lib.hid (F1.out.same (grown_drewN wr d none))
          generalize wr.drewN d = WW at hcc2 hcq2 F2 ⊢
          clear hcc1 hcq
          go_wp2
          go_quiet (fail)
          have F3 := Lib.hid (F2.out.same (grown_drewN WW nq none))
          clear F2 hcc2 hcq2
          generalize WW.drewN nq = WV at F3 ⊢
          clear WW
          go_wp2_with fail
          have hje : j < m.ends.length := by have := HCL.out; omega
          have hjei : (j : Int) < m.ends.length := by omega
          have HEJ : Hid (ordEnds m cls x = m.ends[j]) := by
            have : ordEnds m cls x = m.ends[j] := by
              unfold ordEnds ordRep
              rw [hrep, M.endAt, if_neg (by omega), List.getD_eq_getElem?_getD, Int.toNat_natCast, List.getElem?_eq_getElem hje]; rfl
            exact Lib.hid this
          have HT0 : Hid ((q.take (n + 1)).map (ordEnds m cls) = (q.take n).map (ordEnds m cls) ++ [ordEnds m cls x]) := by
            have : (q.take (n + 1)).map (ordEnds m cls) = (q.take n).map (ordEnds m cls) ++ [ordEnds m cls x] := by
              rw [List.take_succ_eq_append_getElem hlt, List.map_append, HX.out]; rfl
            exact Lib.hid this
          have hes : ((q.take n).map (ordEnds m cls)).length ≤ 4000 := by rw [List.length_map, List.length_take]; omega
          have Fd := Lib.hid (F3.out.same (grown_drew WV none))
          have hkd : Below R6 W0 WV.drew := by rw [← HR6.out]; exact Fd.out.keep
          have z2 := (AT.out _ hkd).2.1
          have hce1 := (AT.out _ hkd).2.2.2.1 j hje
          have z12 := Fd.out.cell.2.2
          have x13 := fun b => (F3.out.same (World.grownBy_alloc WV (.cells #[.bool b] 4) none)).cell.2.2
          clear hkd
          generalize (q.take n).map (ordEnds m cls) = es at *
          rw [← HEJ.out] at hce1
          go_cut [] from 20 to 105 (fun wx => ∃ ev' : Value, Ord W0 R6 R7 q (.slice (some ⟨g8, 0, none⟩) q.length c8) nx nv (es ++ [ordEnds m cls x]) ev' wx)
          case first =>
            go_region_law (first | (refine step_append_lies _ rfl _ _ 84 rfl 0 4 j0 (.bool false) 1 1 Try.underlying84 HJ.out.1 HJ.out.2.1 HJ.out.2.2.1 HJ.out.2.2.2 rfl (by decide) ev es.length (es.map Value.bool) rfl (Fd.out.rowE.alloc _) ⟨WV.drew.heap.size, 0, none⟩ 1 1 [.bool (ordEnds m cls x)] rfl rfl (cell_one_new _ _ _) (by simp [Value.oneCell']) (by omega) (by unfold maxLen; omega) (by omega) (Nat.zero_le _) _ rfl ?_; intro g9 cp w4 hown hgrow hat hlt3; obtain ⟨F4, x31, f31⟩ := Fd.out.nextE hgrow hown hat))
            all_goals
              clear z12 x13
              go_wp2
              go_meet
              case rel => exact ⟨_, F4⟩
          case rest =>
            obtain ⟨ev2, hF5⟩ := hcut
            have F5 := Lib.hid hF5
            clear hF5 Fd F3 z2 z12 x13 hce1
            have hg8e : es.length ≤ 4000 := hes
            go_wp2_with fail
            go_loopw [8, 11] (fun qv' li wr => ∃ (l : Nat) (q' nx' : List Int) (nv' : Value), l ≤ 3 ∧ li = .int .i64 l ∧ bfsL on x (q, nx) l = (q', nx') ∧ Ord W0 R6 R7 q' qv' nx' nv' (es ++ [ordEnds m cls x]) ev2 wr) (fun _ li _ => 3 - (intOf li).toNat)
            case atStart => exact ⟨0, q, nx, nv, by omega, rfl, rfl, F5.out⟩
            case round =>
              obtain ⟨l, q', nx', nv', hl, rfl, hq', hF'⟩ := hrel
              have F6 := Lib.hid hF'
              have HQ' := Lib.hid hq'
              obtain ⟨g7, c7, rfl, -, -⟩ := World.ownsRow.form hF'.rowQ (by obtain ⟨h1, _⟩ := bfsL_at hq' hlt; omega)
              have hq'N : q'.length ≤ N := by
                have h1 := (bfsL_mono on x (q, nx) hl).length_le
                have h2 := hle.out (n + 1)
                rw [bfsTo_step (by rw [HQ.out]; exact hlt)] at h2
                simp only [HQ.out, HX.out] at h2
                rw [HQ'.out] at h1
                simp only at h1
                omega
              have hnl : nx'.length ≤ 13000 := by
                have h1 := bfsL_len on x (q, nx) l
                have h2 := bfsTo_len (on := on) (s0 := cls[0]) n (by rw [HQ.out]; show n ≤ q.length; omega)
                rw [HQ'.out] at h1
                rw [HQ.out] at h2
                simp only at h1 h2
                omega
              have hnd : Hid (q'.Nodup) := by
                have h1 := bfsL_nodup on x (p := (q, nx)) (by have := bfsTo_nodup on cls[0] n; rw [HQ.out] at this; exact this) l
                rw [HQ'.out] at h1
                exact Lib.hid h1
              clear hF' hq'
              have hk6 : Below R6 W0 wr := by rw [← HR6.out]; exact F6.out.keep
              have y1 := (AT.out _ hk6).1
              have y0 := F6.out.cell.2.1
              by_cases hl3 : l < 3
              · have HB1 : Hid (bfsL on x (q, nx) (l + 1) = bfs1 (q', nx') (on x l)) := by
                  have : bfsL on x (q, nx) (l + 1) = bfs1 (q', nx') (on x l) := by rw [bfsL, HQ'.out]
                  exact Lib.hid this
                obtain ⟨k, hk1, hk2, hk3⟩ := M.gnx_at HG.out (j : Int) (l : Int) (by omega) (by have := HSH.out; have := HCL.out; omega) (by omega) (by omega)
                have hkb := HG.out.nxt k hk2
                have hcell := (AT.out _ hk6).2.2.1 k hk2
                have HOX : Hid (on x l = (if 0 ≤ m.next[k] ∧ X.getD (m.next[k]).toNat false = true then some (cls.getD (m.next[k]).toNat 0) else none)) := by
                  have : on x l = (if 0 ≤ m.next[k] ∧ X.getD (m.next[k]).toNat false = true then some (cls.getD (m.next[k]).toNat 0) else none) := by
                    rw [← HON.out]; unfold ordOn ordRep; rw [hrep, hk3]
                  exact Lib.hid this
                have hq1 : IntKind.i64.wrap (3 * (j : Int)) = 3 * (j : Int) := IntWalk.i64_in _ (by omega)
                have hq2 : IntKind.i64.wrap (3 * (j : Int) + (l : Int)) = 3 * (j : Int) + (l : Int) := IntWalk.i64_in _ (by omega)
                have hq3 : 3 * (j : Int) + (l : Int) = k := by omega
                have hkl : k < m.next.length := hk2
                have hkst : m.next[k] ≤ m.ends.length - 1 := by have := HSH.out; omega
                have hk0 : -1 ≤ m.next[k] := hkb.1
                clear hk1 hk3 hkb
                generalize m.next[k] = c at hcell HOX hkst hk0
                by_cases hc0 : c < 0
                · have HO1 : Hid (on x l = none) := Lib.hid (HOX.out.trans (if_neg (by omega)))
                  clear HOX
                  go_wp2_with (at_builtin; refine wpList_append_lies _ rfl _ _ 113 rfl 0 3 i0 (.int .i64 0) 1 8 Try.underlying113 HI.out.1 HI.out.2.1 HI.out.2.2.1 HI.out.2.2.2 rfl (by decide) nv' nx'.length (nx'.map (Value.int .i64)) rfl (F6.out.rowN.alloc _) ⟨wr.heap.size, 0, none⟩ 1 1 [.int .i64 (-1)] rfl rfl (cell_one_new _ _ _) (by simp [Value.oneCell']) (by omega) (by unfold maxLen; omega) (by omega) (Nat.zero_le _) _ rfl ?_; intro g9 cp w4 hown hgrow hat hlt3; obtain ⟨F7, x31, f31⟩ := F6.out.nextN hgrow hown hat)
                  go_roundw
                  case rel => exact ⟨l + 1, q', nx' ++ [-1], _, by omega, by go_num, by rw [HB1.out, HO1.out, bfs1_none], F7⟩
                  case measure => simp [intOf]; omega
                · obtain ⟨t, rfl⟩ : ∃ t : Nat, c = (t : Int) := ⟨c.toNat, by omega⟩
                  have htX : t < X.length := by have := HXL.out; omega
                  have htc : t < cls.length := by have := HCL.out; omega
                  have hcx := (AT.out _ hk6).2.2.2.2.2 t htX
                  have hcl2 := (AT.out _ hk6).2.2.2.2.1 t htc
                  rw [Int.toNat_natCast, List.getD_eq_getElem?_getD, List.getElem?_eq_getElem htX, List.getD_eq_getElem?_getD, List.getElem?_eq_getElem htc] at HOX
                  simp only [Option.getD_some] at HOX
                  generalize X[t] = xb at hcx HOX
                  generalize cls[t] = b at hcl2 HOX
                  cases xb with
                  | false =>
                    have HO1 : Hid (on x l = none) := Lib.hid (HOX.out.trans (if_neg (by simp)))
                    clear HOX
                    go_wp2_with (at_builtin; refine wpList_append_lies _ rfl _ _ 113 rfl 0 3 i0 (.int .i64 0) 1 8 Try.underlying113 HI.out.1 HI.out.2.1 HI.out.2.2.1 HI.out.2.2.2 rfl (by decide) nv' nx'.length (nx'.map (Value.int .i64)) rfl (F6.out.rowN.alloc _) ⟨wr.heap.size, 0, none⟩ 1 1 [.int .i64 (-1)] rfl rfl (cell_one_new _ _ _) (by simp [Value.oneCell']) (by omega) (by unfold maxLen; omega) (by omega) (Nat.zero_le _) _ rfl ?_; intro g9 cp w4 hown hgrow hat hlt3; obtain ⟨F7, x31, f31⟩ := F6.out.nextN hgrow hown hat)
                    go_roundw
                    case rel => exact ⟨l + 1, q', nx' ++ [-1], _, by omega, by go_num, by rw [HB1.out, HO1.out, bfs1_none], F7⟩
                    case measure => simp [intOf]; omega
                  | true =>
                    have HO1 : Hid (on x l = some b) := Lib.hid (HOX.out.trans (if_pos ⟨by omega, rfl⟩))
                    clear HOX
                    go_wp2_with fail
                    generalize WRN : wr = wr0 at *
                    go_loopw [13, 14] (fun f i wr' => ∃ k d : Nat, k ≤ q'.length ∧ i = .int .i64 k ∧ f = .int .i64 (fnd q' b k) ∧ wr' = wr0.drewN d) (fun _ i _ => q'.length - (intOf i).toNat)
                    case atStart => exact ⟨0, 0, Nat.zero_le _, rfl, by rw [fnd_zero], rfl⟩
                    case round =>
                      obtain ⟨kk, d, hkk, rfl, rfl, rfl⟩ := hrel
                      have F8 := Lib.hid (F6.out.same (grown_drewN wr0 d none))
                      have hcl3 : (wr0.drewN d).cell? ⟨g3, off3 + t, none⟩ = some (.int .i64 b) := hcl2
                      by_cases hkq : kk < q'.length
                      · have hcq3 := World.ownsRow.cellAt F8.out.rowQ kk (by omega)
                        rw [List.getElem?_map, List.getElem?_eq_getElem hkq] at hcq3
                        simp only [Option.map_some] at hcq3
                        have HFh := Lib.hid (fnd_hit (b := b) hnd.out hkq)
                        have HFm := Lib.hid (fnd_miss (b := b) hkq)
                        have HW : Hid (∀ k, ∃ d', (wr0.drewN d).drewN k = wr0.drewN d') := by
                          have : ∀ k, ∃ d', (wr0.drewN d).drewN k = wr0.drewN d' := fun k => ⟨d + k, by rw [World.drewN_drewN]⟩
                          exact Lib.hid this
                        generalize wr0.drewN d = WW at hcl3 hcq3 HW ⊢
                        generalize q'[kk] = z at hcq3 HFh HFm
                        generalize hfv : fnd q' b kk = fv at HFm ⊢
                        clear F8 hcl2 hcx hcell y1 y0
                        by_cases hzb : z = b
                        · have hzb' : (z == b) = true := by simp [hzb]
                          have HFv := Lib.hid (HFh.out hzb)
                          clear hzb HFm HFh
                          go_wp2
                          go_quiet (fail)
                          go_wp2
                          go_roundw
                          case rel => exact ⟨kk + 1, _, by omega, by go_num, by rw [HFv.out], (HW.out _).choose_spec⟩
                          case measure => simp [intOf]; omega
                        · have hzb' : (z == b) = false := by simpa using hzb
                          have HFv := Lib.hid (HFm.out hzb)
                          clear hzb HFm HFh
                          go_wp2
                          go_quiet (fail)
                          go_wp2
                          go_roundw
                          case rel => exact ⟨kk + 1, _, by omega, by go_num, by rw [HFv.out], (HW.out _).choose_spec⟩
                          case measure => simp [intOf]; omega
                      · obtain rfl : kk = q'.length := by omega
                        have HFA := Lib.hid (fnd_all q' b)
                        have y0 := F8.out.cell.2.1
                        have hcl4 : ∀ d', ((wr0.drewN d).drewN d').cell? ⟨g3, off3 + t, none⟩ = some (.int .i64 b) := fun _ => hcl2
                        generalize wr0.drewN d = WW at F8 hcl3 hcl4 y0 ⊢
                        clear F6 hcl2 hcx hcell y1
                        by_cases hbm : b ∈ q'
                        · have HBM := Lib.hid hbm
                          have HF1 : Hid (fnd q' b q'.length = (q'.idxOf b : Int)) := Lib.hid (HFA.out.trans (if_pos hbm))
                          clear hbm HFA
                          rw [HF1.out]
                          have hge : ¬ ((q'.idxOf b : Int) < 0) := by omega
                          generalize hix : q'.idxOf b = ix at *
                          go_wp2_with (at_builtin; refine wpList_append_lies _ rfl _ _ 113 rfl 0 3 i0 (.int .i64 0) 1 8 Try.underlying113 HI.out.1 HI.out.2.1 HI.out.2.2.1 HI.out.2.2.2 rfl (by decide) nv' nx'.length (nx'.map (Value.int .i64)) rfl (F8.out.rowN.alloc _) ⟨WW.heap.size, 0, none⟩ 1 1 [.int .i64 (ix : Int)] rfl rfl (cell_one_new _ _ _) (by simp [Value.oneCell']) (by omega) (by unfold maxLen; omega) (by omega) (Nat.zero_le _) _ rfl ?_; intro g9 cp w4 hown hgrow hat hlt3; obtain ⟨F9, x31, f31⟩ := F8.out.nextN hgrow hown hat)
                          go_roundw
                          case rel => exact ⟨l + 1, q', nx' ++ [(ix : Int)], _, by omega, by go_num, by rw [HB1.out, HO1.out, bfs1_old HBM.out, hix], F9⟩
                          case measure => simp [intOf]; omega
                        · have HBM := Lib.hid hbm
                          have HF1 : Hid (fnd q' b q'.length = -1) := Lib.hid (HFA.out.trans (if_neg hbm))
                          clear hbm HFA
                          rw [HF1.out]
                          go_wp2_with (first | (at_builtin; refine wpList_append_lies _ rfl _ _ 113 rfl 0 3 i0 (.int .i64 0) 1 8 Try.underlying113 HI.out.1 HI.out.2.1 HI.out.2.2.1 HI.out.2.2.2 rfl (by decide) (.slice (some ⟨g7, 0, none⟩) q'.length c7) q'.length (q'.map (Value.int .i64)) rfl (F8.out.rowQ.alloc _) ⟨WW.heap.size, 0, none⟩ 1 1 [.int .i64 b] rfl rfl (cell_one_new _ _ _) (by simp [Value.oneCell']) (by omega) (by unfold maxLen; omega) (by omega) (Nat.zero_le _) _ rfl ?_; intro g9 cp w4 hown hgrow hat hlt3; have F9 := Lib.hid (F8.out.push hgrow hown hat); have z1 := F9.out.cell.2.1) | (at_builtin; refine wpList_append_lies _ rfl _ _ 113 rfl 0 3 i0 (.int .i64 0) 1 8 Try.underlying113 HI.out.1 HI.out.2.1 HI.out.2.2.1 HI.out.2.2.2 rfl (by decide) nv' nx'.length (nx'.map (Value.int .i64)) rfl (F9.out.rowN.alloc _) ⟨w4.heap.size, 0, none⟩ 1 1 [.int .i64 _] rfl rfl (cell_one_new _ _ _) (by simp [Value.oneCell']) (by omega) (by unfold maxLen; omega) (by omega) (Nat.zero_le _) _ rfl ?_; intro g10 cp10 w5 hown5 hgrow5 hat5 hlt5; obtain ⟨F10, x31, f31⟩ := F9.out.nextN hgrow5 hown5 hat5))
                          go_roundw
                          case rel => exact ⟨l + 1, q' ++ [b], nx' ++ [(q'.length : Int)], _, by omega, by go_num, by rw [HB1.out, HO1.out, bfs1_new HBM.out], F10⟩
                          case measure => simp [intOf]; omega
              · obtain rfl : l = 3 := by omega
                have HB3 : Hid (bfsTo on cls[0] (n + 1) = (q', nx')) := by
                  have : bfsTo on cls[0] (n + 1) = (q', nx') := by
                    rw [bfsTo_step (by rw [HQ.out]; exact hlt)]
                    simp only [HQ.out, HX.out]
                    exact HQ'.out
                  exact Lib.hid this
                have hn1 : n < N := by omega
                have hn' : n + 1 ≤ q'.length := by obtain ⟨h1, _⟩ := bfsL_at HQ'.out hlt; omega
                have HT : Hid ((q'.take (n + 1)).map (ordEnds m cls) = es ++ [ordEnds m cls x]) := by
                  have h1 := bfsL_take (ends := ordEnds m cls) HQ'.out hlt HX.out
                  have : (q'.take (n + 1)).map (ordEnds m cls) = es ++ [ordEnds m cls x] := by
                    rw [h1, ← HT0.out, List.take_succ_eq_append_getElem hlt, List.map_append, HX.out]; rfl
                  exact Lib.hid this
                go_wp2_with fail
                go_roundw
                case rel => exact ⟨n + 1, q', nx', nv', _, hn1, hn', by go_num, HB3.out, by rw [HT.out]; exact F6.out⟩
                case measure => simp [intOf]; omega
    · have hqn : q.length = n := by omega
      have hnN : n = N := bfsTo_one (by rw [HQ.out]; exact hqn) HNN.out
      subst hnN
      have F5 := F1.out
      rw [List.take_of_length_le (by omega)] at F5
      clear F1
      obtain ⟨a1, c1, rfl⟩ := ownsRow_slice F5.rowN
      obtain ⟨a2, c2, rfl⟩ := ownsRow_slice F5.rowE
      have F1 := Lib.hid F5
      clear F5
      have y0 := F1.out.cell.1
      have y0f := F1.out.froz 0
      obtain ⟨x0, x1, x2, x6⟩ := F1.out.len (n : Int) rfl
      have g00 : (wr.setCell ⟨R7, 0, none⟩ (.int .i64 (n : Int))).cell? ⟨R6, 0, none⟩ = some (.int .i64 0) := cellsT_cell x6 0
      have g01 : (wr.setCell ⟨R7, 0, none⟩ (.int .i64 (n : Int))).cell? ⟨R6, 1, none⟩ = some (.slice none 0 0) := cellsT_cell x6 1
      have g02 : (wr.setCell ⟨R7, 0, none⟩ (.int .i64 (n : Int))).cell? ⟨R6, 2, none⟩ = some (.slice none 0 0) := cellsT_cell x6 2
      have f00 := cellsT_frozen x6 0
      have f01 := cellsT_frozen x6 1
      have f02 := cellsT_frozen x6 2
      clear x6
      go_wp2_with fail
      obtain ⟨r1, r2, r3, r4, r5⟩ := F1.out.done (n : Int) rfl
      have hM : (⟨(n : Int), (bfsTo (ordOn m cls X) cls[0] n).2, (bfsTo (ordOn m cls X) cls[0] n).1.map (ordEnds m cls)⟩ : M) = ⟨(n : Int), nx, q.map (ordEnds m cls)⟩ := by rw [HON.out, HQ.out]
      have hle3 : w.heap.size ≤ W0.heap.size := by rw [HR6.out, HS0.out, hR3]; omega
      refine bodyPost_ret (v := .agg #[.int .i64 (n : Int), .slice a1 nx.length c1, .slice a2 n c2]) ?_ rfl (by rw [hM]; exact ⟨a1, a2, c1, c2, by simp only [List.length_map, hqn], r1.mono hle3, (by rw [hR3]; exact hbw0.out.trans (r2.mono (by rw [← hR3]; exact hle3)))⟩)
      simp [results, Try.results126, go_sem, r3, r4, r5]
end Go.Proofs.Ytlbblfbiiceofaa
