/- The walk of machineFrom over numbers, for one pair of functions. No condition. The program's NotMachine. No condition. -/
import Derived.Test.YthknpbefdejbkaaFromWalk
import Derived.Test.YthknpbefdejbkaaPairClos
import Derived.Test.YthknpbefdejbkaaPairBase

namespace Go.Proofs.Ythknpbefdejbkaa
open Go.RowKit Go.Maps

set_option maxHeartbeats 4000000 in
theorem machineFromNot_any (on : Int → Nat → Option Int) (ends : Int → Bool) (s0 : Int) (N : Nat) (P : Int → Prop) (p1 : Value) (w : World)
    (hN : (bfsTo on s0 N).1.length = N) (hN4 : N ≤ 4000) (h0 : P s0) (hs : ∀ x, P x → ∀ l b, l < 3 → on x l = some b → P b) (hw : ∀ x, P x → (Lit.int .i64 x).wf = true)
    (HOn : ∀ W, Below w.heap.size w W → ∀ x, P x → ∀ l : Nat, l < 3 → Calls Try.prog 51 #[.int .i64 x, .int .i64 (l : Int), p1] W fun e W' => ∃ v b, e = .returned (.tuple #[.int .i64 v, .bool b]) ∧ on x l = (if b = true then some v else none) ∧ Below W.heap.size W W')
    (HEnds : ∀ W, Below w.heap.size w W → ∀ x, P x → Calls Try.prog 53 #[.int .i64 x, p1] W fun e W' => e = .returned (.bool (ends x)) ∧ Below W.heap.size W W') :
    Calls Try.prog 50 #[.int .i64 s0, .func (.func 51) #[] #[p1], .func (.func 53) #[] #[p1]] w (MachNew ⟨N, (bfsTo on s0 N).2, (bfsTo on s0 N).1.map ends⟩ w) := by
  have hmm := @run_makeMap Try.prog
  obtain ⟨i0, hi, hz0, hz1, hz2⟩ := info_parts infoIntF
  obtain ⟨j0, hj, hy0, hy1, hy2⟩ := info_parts infoBoolF
  have HI := Lib.hid (And.intro hi (And.intro hz0 (And.intro hz1 hz2)))
  have HJ := Lib.hid (And.intro hj (And.intro hy0 (And.intro hy1 hy2)))
  clear hi hz0 hz1 hz2 hj hy0 hy1 hy2
  have HON := Lib.hid HOn
  have HENDS := Lib.hid HEnds
  have hall := Lib.hid (bfsTo_all h0 hs)
  have HNN := Lib.hid hN
  have HS := Lib.hid hs
  have HWF := Lib.hid hw
  have hle := Lib.hid (bfsTo_le hN)
  have wf0 := hw s0 h0
  clear HOn HEnds hN hs hw
  obtain ⟨w1, hrun, hown1, hg1⟩ : ∃ w', (Instr.mapUpdate 80 (.map (some (w.heap.size + 1 + 1 + 1))) (.int .i64 s0) (.int .i64 0)).run Try.prog ((((w.alloc (.cells #[.int .i64 0, .slice none 0 0, .slice none 0 0] 27)).alloc (.cells #[.int .i64 0, .slice none 0 0, .slice none 0 0] 27)).alloc (.cells #[.int .i64 s0] 3)).alloc (.map #[] 0)) = .ok () w' ∧ w'.ownsMap (H := Unit) Try.prog 3 (plainElem Try.prog 3) (w.heap.size + 1 + 1 + 1) 1 ((DataW.map []).put (intKey s0) (.lit (.int .i64 0))) ∧ World.grownBy ((((w.alloc (.cells #[.int .i64 0, .slice none 0 0, .slice none 0 0] 27)).alloc (.cells #[.int .i64 0, .slice none 0 0, .slice none 0 0] 27)).alloc (.cells #[.int .i64 s0] 3)).alloc (.map #[] 0)) w' (some (w.heap.size + 1 + 1 + 1)) := by
    have hm := World.ownsMap_made (H := Unit) (((w.alloc (.cells #[.int .i64 0, .slice none 0 0, .slice none 0 0] 27)).alloc (.cells #[.int .i64 0, .slice none 0 0, .slice none 0 0] 27)).alloc (.cells #[.int .i64 s0] 3)) Try.prog 3 (plainElem Try.prog 3)
    rw [World.size_alloc, World.size_alloc, World.size_alloc] at hm
    exact hm.update lawIntF Try.underlying80 (by unfold maxLen; omega) (keyOf_int_mk Try.underlying3 wf0) (plainElem_int Try.underlying3 (by decide))
  have F0 := Lib.hid (from_start w s0 3 rfl hown1 hg1 rfl)
  clear hown1 hg1
  go_enter Try.func50, Try.ntmps50
  go_wp2_with fail
  generalize hR6 : w.heap.size = R6 at *
  generalize R6 + 1 + 1 + 1 = MB at *
  generalize hR7 : R6 + 1 = R7 at *
  generalize (.slice (some ⟨R7 + 1, 0, none⟩) 1 1 : Value) = qv0 at *
  clear hrun
  go_loopw [8, 10] (fun qv i wr => ∃ (n : Nat) (q : List Int) (nx : List Int) (nv ev : Value), n ≤ N ∧ n ≤ q.length ∧ i = .int .i64 n ∧ bfsTo on s0 n = (q, nx) ∧ From w R6 R7 MB q qv nx nv ((q.take n).map ends) ev wr) (fun _ i _ => N - (intOf i).toNat)
  case atStart => exact ⟨0, [s0], [], _, _, Nat.zero_le _, Nat.zero_le _, rfl, rfl, F0.out⟩
  case round =>
    obtain ⟨n, q, nx, nv, ev, hn, hnq, rfl, hq, hF⟩ := hrel
    have F1 := Lib.hid hF
    obtain ⟨a8, c8, rfl⟩ := ownsRow_slice hF.rowQ
    clear hF
    have HQ := Lib.hid hq
    have hqN : q.length ≤ N := by have := hle.out n; rw [hq] at this; exact this
    have hPq : Hid (∀ y ∈ q, P y) := by have := hall.out n; rw [hq] at this; exact Lib.hid this
    by_cases hlt : n < q.length
    · have hx := Lib.hid (hPq.out _ (List.getElem_mem hlt))
      generalize hxe : q[n] = x at hx
      have HX := Lib.hid hxe
      clear hq hxe
      go_wp2_with fail
      go_loopw [8, 27] (fun qv' li wr => ∃ (l : Nat) (q' nx' : List Int) (nv' : Value), l ≤ 3 ∧ li = .int .i64 l ∧ bfsL on x (q, nx) l = (q', nx') ∧ From w R6 R7 MB q' qv' nx' nv' ((q.take n).map ends) ev wr) (fun _ li _ => 3 - (intOf li).toNat)
      case atStart => exact ⟨0, q, nx, nv, by omega, rfl, rfl, F1.out⟩
      case round =>
        obtain ⟨l, q', nx', nv', hl, rfl, hq', hF'⟩ := hrel
        have F2 := Lib.hid hF'
        have HQ' := Lib.hid hq'
        obtain ⟨hn', hxn⟩ := bfsL_at hq' hlt
        rw [HX.out] at hxn
        obtain ⟨g, c8', rfl, -, -⟩ := World.ownsRow.form hF'.rowQ (by omega)
        have hcell := World.ownsRow.cellAt hF'.rowQ n (by omega)
        rw [List.getElem?_map, List.getElem?_eq_getElem hn', hxn] at hcell
        simp only [Option.map_some] at hcell
        clear hF' hq' hxn
        by_cases hl3 : l < 3
        · go_wp2_with fail
          refine (HON.out _ (by rw [← hR6]; exact F2.out.keep) x hx.out l hl3).mono ?_
          rintro e w2 ⟨v, b, rfl, hon, hb⟩
          have F3 := Lib.hid (F2.out.below hb)
          have HB1 : Hid (bfsL on x (q, nx) (l + 1) = bfs1 (q', nx') (on x l)) := by
            have : bfsL on x (q, nx) (l + 1) = bfs1 (q', nx') (on x l) := by rw [bfsL, HQ'.out]
            exact Lib.hid this
          have hq'N : q'.length ≤ N := by
            have h1 := (bfsL_mono on x (q, nx) hl).length_le
            have h2 := hle.out (n + 1)
            rw [bfsTo_step (by rw [HQ.out]; exact hlt)] at h2
            simp only [HQ.out, HX.out] at h2
            rw [HQ'.out] at h1
            simp only at h1
            omega
          clear F2 hb hcell
          have y0 := F3.out.cell.1
          have y1 := F3.out.cell.2.1
          have y2 := F3.out.cell.2.2
          have hnl : nx'.length ≤ 13000 := by
            have h1 := bfsL_len on x (q, nx) l
            have h2 := bfsTo_len (on := on) (s0 := s0) n (by rw [HQ.out]; show n ≤ q.length; omega)
            rw [HQ'.out] at h1
            rw [HQ.out] at h2
            simp only at h1 h2
            omega
          cases b with
          | false =>
            have HON1 : Hid (on x l = none) := Lib.hid hon
            clear hon
            go_wp2_with (at_builtin; refine wpList_append_lies _ rfl _ _ 22 rfl 0 3 i0 (.int .i64 0) 1 8 Try.underlying22 HI.out.1 HI.out.2.1 HI.out.2.2.1 HI.out.2.2.2 rfl (by decide) nv' nx'.length (nx'.map (Value.int .i64)) rfl (F3.out.rowN.alloc _) ⟨w2.heap.size, 0, none⟩ 1 1 [.int .i64 (-1)] rfl rfl (cell_one_new _ _ _) (by simp [Value.oneCell']) (by omega) (by unfold maxLen; omega) (by omega) (Nat.zero_le _) _ rfl ?_; intro g3 cp w4 hown hgrow hat hlt3; obtain ⟨F4, x31, f31⟩ := F3.out.nextN hgrow hown hat)
            go_roundw
            case rel => exact ⟨l + 1, q', nx' ++ [-1], _, by omega, by go_num, by rw [HB1.out, HON1.out, bfs1_none], F4⟩
            case measure => simp [intOf]; omega
          | true =>
            have HON1 : Hid (on x l = some v) := Lib.hid hon
            have hPv := HS.out x hx.out l v hl3 hon
            have wfv := HWF.out v hPv
            have HH := Lib.hid (has_int (q := q') v)
            have hnd : Hid (q'.Nodup) := by
              have h1 := bfsL_nodup on x (p := (q, nx)) (by have := bfsTo_nodup on s0 n; rw [HQ.out] at this; exact this) l
              rw [HQ'.out] at h1
              exact Lib.hid h1
            clear hon
            by_cases hm : v ∈ q'
            · have HM := Lib.hid hm
              have HHt : Hid (Maps.has (qD (H := Unit) intKey q') (.int .i64 v) = true) := Lib.hid (HH.out.trans (by simp [hm]))
              clear hm
              go_wp2_with (first | (at_lookup; refine wpList_lookup_own_ok_int _ rfl _ _ 80 rfl 3 3 .i64 lawIntF Try.underlying80 Try.underlying3 (zeroIntF _) MB q'.length (qD (H := Unit) intKey q') rfl F3.out.map _ _ rfl (keyOf_int_mk Try.underlying3 wfv) ?_; intro c hat0 hwc; rw [HHt.out]) | (at_builtin; refine wpList_append_lies _ rfl _ _ 22 rfl 0 3 i0 (.int .i64 0) 1 8 Try.underlying22 HI.out.1 HI.out.2.1 HI.out.2.2.1 HI.out.2.2.2 rfl (by decide) nv' nx'.length (nx'.map (Value.int .i64)) rfl (F3.out.rowN.alloc _) ⟨w2.heap.size, 0, none⟩ 1 1 [.int .i64 _] rfl rfl (cell_one_new _ _ _) (by simp [Value.oneCell']) (by omega) (by unfold maxLen; omega) (by omega) (Nat.zero_le _) _ rfl ?_; intro g3 cp w4 hown hgrow hat hlt3; obtain ⟨F4, x31, f31⟩ := F3.out.nextN hgrow hown hat))
              go_roundw
              case rel =>
                have hc := at_int v c hnd.out HM.out hat0
                subst hc
                exact ⟨l + 1, q', nx' ++ [(q'.idxOf v : Int)], _, by omega, by go_num, by rw [HB1.out, HON1.out, bfs1_old HM.out], F4⟩
              case measure => simp [intOf]; omega
            · have HM := Lib.hid hm
              have HHf : Hid (Maps.has (qD (H := Unit) intKey q') (.int .i64 v) = false) := Lib.hid (HH.out.trans (by simp [hm]))
              clear hm
              go_wp2_with (first | (at_lookup; refine wpList_lookup_own_ok_int _ rfl _ _ 80 rfl 3 3 .i64 lawIntF Try.underlying80 Try.underlying3 (zeroIntF _) MB q'.length (qD (H := Unit) intKey q') rfl F3.out.map _ _ rfl (keyOf_int_mk Try.underlying3 wfv) ?_; intro c hat0 hwc; rw [HHf.out]) | (at_mapUpdate; refine wpList_mapUpdate_own _ rfl _ _ _ 80 rfl 3 3 lawIntF Try.underlying80 _ MB q'.length (qD (H := Unit) intKey q') rfl F3.out.map (by unfold maxLen; omega) _ _ (intKey v) rfl rfl (keyOf_int_mk Try.underlying3 wfv) (.lit (.int .i64 (q'.length : Int))) [] (plainElem_int Try.underlying3 (WalkArith.wf_i64 (by omega))) ?_; intro w3 hown3 hgrow3) | (at_builtin; refine wpList_append_lies _ rfl _ _ 22 rfl 0 3 i0 (.int .i64 0) 1 8 Try.underlying22 HI.out.1 HI.out.2.1 HI.out.2.2.1 HI.out.2.2.2 rfl (by decide) (.slice (some ⟨g, 0, none⟩) q'.length c8') q'.length (q'.map (Value.int .i64)) rfl ((F3.out.rowQ_kept hgrow3).alloc _) ⟨w3.heap.size, 0, none⟩ 1 1 [.int .i64 v] rfl rfl (cell_one_new _ _ _) (by simp [Value.oneCell']) (by omega) (by unfold maxLen; omega) (by omega) (Nat.zero_le _) _ rfl ?_; intro g3 cp w4 hown hgrow hat hlt3; have F4 := Lib.hid (F3.out.push hgrow3 hown3 hgrow hown hat); have y0 := F4.out.cell.1; have y1 := F4.out.cell.2.1; have y2 := F4.out.cell.2.2) | (at_builtin; refine wpList_append_lies _ rfl _ _ 22 rfl 0 3 i0 (.int .i64 0) 1 8 Try.underlying22 HI.out.1 HI.out.2.1 HI.out.2.2.1 HI.out.2.2.2 rfl (by decide) nv' nx'.length (nx'.map (Value.int .i64)) rfl (F4.out.rowN.alloc _) ⟨w4.heap.size, 0, none⟩ 1 1 [.int .i64 _] rfl rfl (cell_one_new _ _ _) (by simp [Value.oneCell']) (by omega) (by unfold maxLen; omega) (by omega) (Nat.zero_le _) _ rfl ?_; intro g5 cp5 w5 hown5 hgrow5 hat5 hlt5; obtain ⟨F5, x31, f31⟩ := F4.out.nextN hgrow5 hown5 hat5))
              go_roundw
              case rel => exact ⟨l + 1, q' ++ [v], nx' ++ [(q'.length : Int)], _, by omega, by go_num, by rw [HB1.out, HON1.out, bfs1_new HM.out], F5⟩
              case measure => simp [intOf]; omega
        · obtain rfl : l = 3 := by omega
          have HB3 : Hid (bfsTo on s0 (n + 1) = (q', nx')) := by
            have : bfsTo on s0 (n + 1) = (q', nx') := by
              rw [bfsTo_step (by rw [HQ.out]; exact hlt)]
              simp only [HQ.out, HX.out]
              exact HQ'.out
            exact Lib.hid this
          have hn1 : n < N := by omega
          have HT : Hid ((q'.take (n + 1)).map ends = (q.take n).map ends ++ [ends x]) := Lib.hid (bfsL_take HQ'.out hlt HX.out)
          have hes : ((q.take n).map ends).length ≤ 4000 := by rw [List.length_map, List.length_take]; omega
          generalize (q.take n).map ends = es at *
          go_wp2_with fail
          have Fd := Lib.hid (F2.out.same (grown_drew _ none))
          have z12 := Fd.out.cell.2.2
          have hcell2 : wr.drew.cell? ⟨g, n, none⟩ = some (.int .i64 x) := hcell
          have hkd : Below R6 w wr.drew := by rw [← hR6]; exact Fd.out.keep
          have HK := Lib.hid hkd
          clear hkd
          go_region_law (first | (go_simp; go_at_call 53; refine (HENDS.out _ HK.out x hx.out).mono ?_; rintro e w2 ⟨rfl, hb⟩; have F3 := Lib.hid (Fd.out.below hb); have x12 := F3.out.cell.2.2; have x13 := fun b => (F3.out.same (World.grownBy_alloc w2 (.cells #[.bool b] 4) none)).cell.2.2) | (refine step_append_lies _ rfl _ _ 23 rfl 0 4 j0 (.bool false) 1 1 Try.underlying23 HJ.out.1 HJ.out.2.1 HJ.out.2.2.1 HJ.out.2.2.2 rfl (by decide) ev es.length (es.map Value.bool) rfl (F3.out.rowE.alloc _) ⟨w2.heap.size, 0, none⟩ 1 1 [.bool (ends x)] rfl rfl (cell_one_new _ _ _) (by simp [Value.oneCell']) (by omega) (by unfold maxLen; omega) (by omega) (Nat.zero_le _) _ rfl ?_; intro g3 cp w4 hown hgrow hat hlt3; obtain ⟨F4, x31, f31⟩ := F3.out.nextE hgrow hown hat))
          all_goals
            clear z12 x12 x13
            go_wp2
            go_roundw
            case rel => exact ⟨n + 1, q', nx', nv', _, hn1, hn', by go_num, HB3.out, by rw [HT.out]; exact F4⟩
            case measure => simp [intOf]; omega
    · have hqn : q.length = n := by omega
      have hnN : n = N := bfsTo_one (by rw [HQ.out]; exact hqn) HNN.out
      subst hnN
      have F5 := F1.out
      rw [List.take_of_length_le (by omega)] at F5
      clear F1
      obtain ⟨a1, c1, rfl⟩ := ownsRow_slice F5.rowN
      obtain ⟨a2, c2, rfl⟩ := ownsRow_slice F5.rowE
      have F1 := Lib.hid F5
      clear F5
      have y0 := F1.out.cell.1
      have y0f := F1.out.froz 0
      obtain ⟨x0, x1, x2, x6⟩ := F1.out.len (n : Int) rfl
      have g00 : (wr.setCell ⟨R7, 0, none⟩ (.int .i64 (n : Int))).cell? ⟨R6, 0, none⟩ = some (.int .i64 0) := cellsT_cell x6 0
      have g01 : (wr.setCell ⟨R7, 0, none⟩ (.int .i64 (n : Int))).cell? ⟨R6, 1, none⟩ = some (.slice none 0 0) := cellsT_cell x6 1
      have g02 : (wr.setCell ⟨R7, 0, none⟩ (.int .i64 (n : Int))).cell? ⟨R6, 2, none⟩ = some (.slice none 0 0) := cellsT_cell x6 2
      have f00 := cellsT_frozen x6 0
      have f01 := cellsT_frozen x6 1
      have f02 := cellsT_frozen x6 2
      clear x6
      go_wp2_with fail
      obtain ⟨r1, r2, r3, r4, r5⟩ := F1.out.done (n : Int) rfl
      have hM : (⟨(n : Int), (bfsTo on s0 n).2, (bfsTo on s0 n).1.map ends⟩ : M) = ⟨(n : Int), nx, q.map ends⟩ := by rw [HQ.out]
      refine bodyPost_ret (v := .agg #[.int .i64 (n : Int), .slice a1 nx.length c1, .slice a2 n c2]) ?_ rfl (by rw [hM]; exact ⟨a1, a2, c1, c2, by simp only [List.length_map, hqn], r1, r2⟩)
      simp [results, Try.results50, go_sem, r3, r4, r5]
end Go.Proofs.Ythknpbefdejbkaa

namespace Go.Proofs.Ythknpbefdejbkaa
open Go.RowKit

theorem notOn_any (m : M) (nv ev : Value) (B : Nat) (W : World) (hM : MachBox B m.st nv m.next ev m.ends W) (hg : m.good) (s : Int) (hs : inN m s) (l : Nat) (hl : l < 3) :
    Calls Try.prog 51 #[.int .i64 s, .int .i64 (l : Int), .pointer (some ⟨B, 0, none⟩)] W
      fun e W' => ∃ v b, e = .returned (.tuple #[.int .i64 v, .bool b]) ∧ nOn m s l = (if b = true then some v else none) ∧ Below W.heap.size W W' := by
  have y0 := hM.c0
  have y1 := hM.c1
  have y2 := hM.c2
  have HI := Lib.hid hM.ints
  have HG := Lib.hid hg
  have HS := Lib.hid hs
  clear hM hg hs
  go_enter Try.func51, Try.ntmps51
  go_wp2_with fail
  refine (implNextOfG_any m s (l : Int) nv ev _ HI.out HG.out HS.out.1 HS.out.2 (by omega) (by omega)).mono ?_
  rintro e w2 ⟨rfl, hb⟩
  have HB := Lib.hid hb
  clear hb y0 y1 y2
  go_wp2
  go_ret2
  exact ⟨_, true, rfl, rfl, HB.out⟩
theorem notEnds_any (m : M) (nv ev : Value) (B : Nat) (W : World) (hM : MachBox B m.st nv m.next ev m.ends W) (hg : m.good) (s : Int) (hs : inN m s) :
    Calls Try.prog 53 #[.int .i64 s, .pointer (some ⟨B, 0, none⟩)] W fun e W' => e = .returned (.bool (!m.endAt s)) ∧ Below W.heap.size W W' := by
  have y0 := hM.c0
  have y1 := hM.c1
  have y2 := hM.c2
  have HI := Lib.hid hM.bools
  have HG := Lib.hid hg
  have HS := Lib.hid hs
  clear hM hg hs
  go_enter Try.func53, Try.ntmps53
  go_wp2_with fail
  refine (implEndOk_any m s nv ev _ HI.out HG.out HS.out.1 HS.out.2).mono ?_
  rintro e w2 ⟨rfl, hb⟩
  have HB := Lib.hid hb
  clear hb y0 y1 y2
  cases he : m.endAt s <;> (go_wp2; go_ret; exact ⟨by rw [he]; rfl, HB.out⟩)

set_option maxHeartbeats 1600000 in
theorem implNot_any (m : M) (nv ev : Value) (w : World) (h1 : IsInts w nv m.next) (h2 : IsBools w ev m.ends) (hst : (Lit.int .i64 m.st).wf = true) :
    Calls Try.prog 15 #[.agg #[.int .i64 m.st, nv, ev]] w (JoinNew m.ok (fun u => !m.lang 0 u) w) := by
  have hM : MachBox w.heap.size m.st nv m.next ev m.ends (w.alloc (.cells #[.int .i64 m.st, nv, ev] 27)) := MachBox.new _ h1 h2
  have hb2 := (Below.refl _ (w.alloc (.cells #[.int .i64 m.st, nv, ev] 27))).alloc (Nat.le_refl _) (.cells #[.int .i64 0, .slice none 0 0, .slice none 0 0] 27)
  have M2 := Lib.hid (hM.below hb2)
  have q2 := Lib.hid (((Below.refl w.heap.size w).alloc (Nat.le_refl _) (.cells #[.int .i64 m.st, nv, ev] 27)).trans (hb2.mono (by simp)))
  have hz := Z0.new (w.alloc (.cells #[.int .i64 m.st, nv, ev] 27))
  rw [World.size_alloc] at hz
  have Z2 := Lib.hid hz
  have y0 := M2.out.c0
  have y1 := M2.out.c1
  have y2 := M2.out.c2
  clear hz hM hb2 h1 h2
  go_enter Try.func15, Try.ntmps15
  go_wp2_with fail
  refine (implMachineOk_any m nv ev _ M2.out.ints M2.out.bools hst).mono ?_
  rintro e w3 ⟨rfl, hb3⟩
  have M3 := Lib.hid (M2.out.below hb3)
  have q3 := Lib.hid (q2.out.trans (hb3.mono q2.out.size))
  have Z3 := Lib.hid (Z2.out.below hb3)
  clear hb3 y0 y1 y2 M2 q2 Z2
  cases hk : m.ok with
  | false =>
    have HJ : Hid (IsJoin m.ok (fun u => !m.lang 0 u) ⟨0, [], []⟩ false) := Lib.hid (.inr ⟨rfl, rfl, fun h => by rw [hk] at h; cases h⟩)
    have z0 := Z3.out.c0
    have z1 := Z3.out.c1
    have z2 := Z3.out.c2
    have f0 := Z3.out.f0
    have f1 := Z3.out.f1
    have f2 := Z3.out.f2
    have FI := Lib.hid (fin_cells (x := .int .i64 0) (y := .slice none 0 0) (z := .slice none 0 0) (apart_nils w3.heap.size w3) q3.out (Nat.le_succ _) Z3.out.lt (some3 z0 z1 z2) q3.out.size)
    rw [← hk]
    go_wp2
    obtain ⟨r1, r2, r3, r4, r5⟩ := FI.out _ rfl
    refine bodyPost_ret (v := .tuple #[.agg #[.int .i64 0, .slice none 0 0, .slice none 0 0], .bool false]) ?_ rfl ⟨⟨0, [], []⟩, false, none, none, 0, 0, HJ.out, rfl, r1, r2⟩
    simp [results, Try.results15, go_sem, r3, r4, r5]
  | true =>
    have HG := M.ok_good hk
    have s1 := M.ok_shape hk
    obtain ⟨N, hN49, hN⟩ := not_n HG s1.2.1
    obtain ⟨Mx, hMx⟩ : ∃ Mx, Mx = bM (nOn m) 0 N (fun x => !m.endAt x) := ⟨_, rfl⟩
    have HF : Calls Try.prog 50 #[.int .i64 0, .func (.func 51) #[] #[.pointer (some ⟨w.heap.size, 0, none⟩)], .func (.func 53) #[] #[.pointer (some ⟨w.heap.size, 0, none⟩)]] w3 (MachNew Mx w3) := by
      have h := machineFromNot_any (nOn m) (fun x => !m.endAt x) 0 N (inN m) (.pointer (some ⟨w.heap.size, 0, none⟩)) w3 hN (by omega) (inN_zero HG)
        (fun x hx l b hl h => nOn_in HG x hx l b hl h)
        (fun x hx => WalkArith.wf_i64 (by have := hx.1; have := hx.2; omega))
        (fun W hW x hx l hl => notOn_any m nv ev _ W (M3.out.below hW) HG x hx l hl)
        (fun W hW x hx => notEnds_any m nv ev _ W (M3.out.below hW) HG x hx)
      rw [hMx]
      exact h
    have HMG := Lib.hid (show Mx.good by rw [hMx]; exact bM_good hN (by omega))
    have HML := Lib.hid (show Mx.lang 0 = fun u => !m.lang 0 u by rw [hMx]; exact not_lang HG hN)
    have HFH := Lib.hid HF
    have HKK := Lib.hid hk
    clear HG s1 hN49 hN hMx HF hk
    go_wp2_with fail
    refine HFH.out.mono ?_
    rintro e w5 ⟨a1, a2, c1, c2, rfl, hA5, hb5⟩
    have Z5 := Lib.hid (Z3.out.below hb5)
    have Q5 := Lib.hid (q3.out.trans (hb5.mono q3.out.size))
    have HI := Lib.hid (And.intro (IsInts.of_owns hA5.head) (IsBools.of_owns hA5.tail.head))
    clear hA5 hb5
    go_wp2_with fail
    refine (implLeastOf_any Mx _ _ w5 HI.out.1 HI.out.2 HMG.out).mono ?_
    intro e w6 hL
    obtain ⟨K, r, d1, d2, e1, e2, hJ, rfl, hA6, hb6⟩ := hL.join HMG.out
    rw [HML.out] at hJ
    have HJ : Hid (IsJoin m.ok (fun u => !m.lang 0 u) K r) := Lib.hid (by rw [HKK.out]; exact hJ)
    have Z6 := Lib.hid (Z5.out.below hb6)
    have Q6 := Lib.hid (Q5.out.trans (hb6.mono Q5.out.size))
    have z0 := Z6.out.c0
    have z1 := Z6.out.c1
    have z2 := Z6.out.c2
    have f0 := Z6.out.f0
    have f1 := Z6.out.f1
    have f2 := Z6.out.f2
    have FI := Lib.hid (fin_cells (x := .int .i64 K.st) (y := .slice d1 K.next.length e1) (z := .slice d2 K.ends.length e2) hA6 Q6.out (Nat.le_succ _) Z5.out.lt (some3 z0 z1 z2) Q5.out.size)
    clear hL hJ hA6 hb6
    go_wp2
    obtain ⟨r1, r2, r3, r4, r5⟩ := FI.out _ rfl
    refine bodyPost_ret (v := .tuple #[.agg #[.int .i64 K.st, .slice d1 K.next.length e1, .slice d2 K.ends.length e2], .bool r]) ?_ rfl ⟨K, r, d1, d2, e1, e2, HJ.out, rfl, r1, r2⟩
    simp [results, Try.results15, go_sem, r3, r4, r5]
end Go.Proofs.Ythknpbefdejbkaa
