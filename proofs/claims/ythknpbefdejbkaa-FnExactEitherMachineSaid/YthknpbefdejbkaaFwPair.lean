/- The walk of machineFrom over pairs, for the functions of pairMachine. No condition. -/
import Derived.Test.YthknpbefdejbkaaFromP
namespace Go.Proofs.Ythknpbefdejbkaa
open Go.RowKit Go.Maps

theorem cell_two_new (w : World) (x y : Value) (t : TypeId) : ∀ j u, [x, y][j]? = some u → (w.alloc (.cells #[x, y] t)).cell? ((⟨w.heap.size, 0, none⟩ : Addr).add j) = some u := by
  intro j u hj
  match j, hj with
  | 0, hj =>
    simp at hj
    subst hj
    simp [Addr.add]
  | 1, hj =>
    simp at hj
    subst hj
    simp [Addr.add]
theorem cellsT_mono {w w' : World} {T M : Nat} {cs : Array Value} {t : TypeId} (h : (cellsT T cs t).says w) (hg : w.grownBy w' (some M)) (hlt : T < w.heap.size) (hne : ¬ (T = M)) : (cellsT T cs t).says w' :=
  (hg.block T hlt (fun e => hne (Option.some.inj e))).trans h
set_option maxHeartbeats 4000000 in
set_option maxRecDepth 100000 in
theorem machineFromPair_any (on : Int → Nat → Option Int) (ends : Int → Bool) (s0 : Int) (N : Nat) (P : Int → Prop) (v1 v2 v3 : Value) (w : World)
    (hN : (bfsTo on s0 N).1.length = N) (hN4 : N ≤ 4000) (h0 : P s0) (hs : ∀ x, P x → ∀ l b, l < 3 → on x l = some b → P b) (hw : ∀ x, P x → wf2 x)
    (HOn : ∀ W, Below w.heap.size w W → ∀ x, P x → ∀ l : Nat, l < 3 → Calls Try.prog 86 #[.agg #[.int .i64 (p1 x), .int .i64 (p2 x)], .int .i64 (l : Int), v1, v2] W fun e W' => ∃ v, e = .returned (.tuple #[.agg #[.int .i64 (p1 v), .int .i64 (p2 v)], .bool true]) ∧ on x l = some v ∧ Below W.heap.size W W')
    (HEnds : ∀ W, Below w.heap.size w W → ∀ x, P x → Calls Try.prog 87 #[.agg #[.int .i64 (p1 x), .int .i64 (p2 x)], v3, v1, v2] W fun e W' => e = .returned (.bool (ends x)) ∧ Below W.heap.size W W') :
    Calls Try.prog 85 #[.agg #[.int .i64 (p1 s0), .int .i64 (p2 s0)], .func (.func 86) #[] #[v1, v2], .func (.func 87) #[] #[v3, v1, v2]] w (MachNew ⟨N, (bfsTo on s0 N).2, (bfsTo on s0 N).1.map ends⟩ w) := by
  have hmm := @run_makeMap Try.prog
  obtain ⟨i0, hi, hz0, hz1, hz2⟩ := info_parts infoIntF
  obtain ⟨j0, hj, hy0, hy1, hy2⟩ := info_parts infoBoolF
  obtain ⟨k0, hkp, hx0, hx1, hx2⟩ := info_parts infoPairF
  have HKP := Lib.hid (And.intro hkp (And.intro hx0 (And.intro hx1 hx2)))
  clear hkp hx0 hx1 hx2
  have HI := Lib.hid (And.intro hi (And.intro hz0 (And.intro hz1 hz2)))
  have HJ := Lib.hid (And.intro hj (And.intro hy0 (And.intro hy1 hy2)))
  clear hi hz0 hz1 hz2 hj hy0 hy1 hy2
  have hbw : Below w.heap.size w (w.alloc (.cells #[.int .i64 (p1 s0), .int .i64 (p2 s0)] 84)) := (Below.refl _ _).alloc (Nat.le_refl _) _
  have HBW := Lib.hid hbw
  have HON := Lib.hid (fun W (hW : Below (w.alloc (.cells #[.int .i64 (p1 s0), .int .i64 (p2 s0)] 84)).heap.size (w.alloc (.cells #[.int .i64 (p1 s0), .int .i64 (p2 s0)] 84)) W) => HOn W (hbw.trans (hW.mono hbw.size)))
  have HENDS := Lib.hid (fun W (hW : Below (w.alloc (.cells #[.int .i64 (p1 s0), .int .i64 (p2 s0)] 84)).heap.size (w.alloc (.cells #[.int .i64 (p1 s0), .int .i64 (p2 s0)] 84)) W) => HEnds W (hbw.trans (hW.mono hbw.size)))
  have hall := Lib.hid (bfsTo_all h0 hs)
  have HNN := Lib.hid hN
  have HS := Lib.hid hs
  have HWF := Lib.hid hw
  have hle := Lib.hid (bfsTo_le hN)
  have wf0 := hw s0 h0
  clear HOn HEnds hN hs hw hbw
  obtain ⟨w1, hrun, hown1, hg1⟩ : ∃ w', (Instr.mapUpdate 96 (.map (some (w.heap.size + 1 + 1 + 1 + 1))) (.agg #[.int .i64 (p1 s0), .int .i64 (p2 s0)]) (.int .i64 0)).run Try.prog (((((w.alloc (.cells #[.int .i64 (p1 s0), .int .i64 (p2 s0)] 84)).alloc (.cells #[.int .i64 0, .slice none 0 0, .slice none 0 0] 27)).alloc (.cells #[.int .i64 0, .slice none 0 0, .slice none 0 0] 27)).alloc (.cells #[.int .i64 (p1 s0), .int .i64 (p2 s0)] 84)).alloc (.map #[] 0)) = .ok () w' ∧ w'.ownsMap (H := Unit) Try.prog 84 (plainElem Try.prog 3) (w.heap.size + 1 + 1 + 1 + 1) 1 ((DataW.map []).put (key2 s0) (.lit (.int .i64 0))) ∧ World.grownBy (((((w.alloc (.cells #[.int .i64 (p1 s0), .int .i64 (p2 s0)] 84)).alloc (.cells #[.int .i64 0, .slice none 0 0, .slice none 0 0] 27)).alloc (.cells #[.int .i64 0, .slice none 0 0, .slice none 0 0] 27)).alloc (.cells #[.int .i64 (p1 s0), .int .i64 (p2 s0)] 84)).alloc (.map #[] 0)) w' (some (w.heap.size + 1 + 1 + 1 + 1)) := by
    have hm := World.ownsMap_made (H := Unit) ((((w.alloc (.cells #[.int .i64 (p1 s0), .int .i64 (p2 s0)] 84)).alloc (.cells #[.int .i64 0, .slice none 0 0, .slice none 0 0] 27)).alloc (.cells #[.int .i64 0, .slice none 0 0, .slice none 0 0] 27)).alloc (.cells #[.int .i64 (p1 s0), .int .i64 (p2 s0)] 84)) Try.prog 84 (plainElem Try.prog 3)
    rw [World.size_alloc, World.size_alloc, World.size_alloc, World.size_alloc] at hm
    exact hm.update lawK2 Try.underlying96 (by unfold maxLen; omega) (key2_of s0 wf0) (plainElem_int Try.underlying3 (by decide))
  have hF0 := from_startP (w.alloc (.cells #[.int .i64 (p1 s0), .int .i64 (p2 s0)] 84)) s0 84 rfl (by rw [World.size_alloc]; exact hown1) (by rw [World.size_alloc]; exact hg1) rfl
  simp only [World.size_alloc] at hF0
  have F0 := Lib.hid hF0
  clear hF0 hown1 hg1
  go_enter Try.func85, Try.ntmps85
  go_wp2_with fail
  have hS0 : (w.alloc (.cells #[.int .i64 (p1 s0), .int .i64 (p2 s0)] 84)).heap.size = w.heap.size + 1 := World.size_alloc _ _
  generalize hW0 : (w.alloc (.cells #[.int .i64 (p1 s0), .int .i64 (p2 s0)] 84)) = W0 at *
  generalize hR6 : w.heap.size + 1 = R6 at *
  generalize R6 + 1 + 1 + 1 = MB at *
  generalize hR7 : R6 + 1 = R7 at *
  generalize (.slice (some ⟨R7 + 1, 0, none⟩) 1 1 : Value) = qv0 at *
  have HS0 := Lib.hid hS0
  clear hS0 hW0
  clear hrun
  go_loopw [8, 10] (fun qv i wr => ∃ (n : Nat) (q : List Int) (nx : List Int) (nv ev : Value), n ≤ N ∧ n ≤ q.length ∧ i = .int .i64 n ∧ bfsTo on s0 n = (q, nx) ∧ FromP W0 R6 R7 MB q qv nx nv ((q.take n).map ends) ev wr) (fun _ i _ => N - (intOf i).toNat)
  case atStart => exact ⟨0, [s0], [], _, _, Nat.zero_le _, Nat.zero_le _, rfl, rfl, F0.out⟩
  case round =>
    obtain ⟨n, q, nx, nv, ev, hn, hnq, rfl, hq, hF⟩ := hrel
    have F1 := Lib.hid hF
    obtain ⟨a8, c8, rfl⟩ := ownsRow_slice hF.rowQ
    clear hF
    have HQ := Lib.hid hq
    have hqN : q.length ≤ N := by have := hle.out n; rw [hq] at this; exact this
    have hPq : Hid (∀ y ∈ q, P y) := by have := hall.out n; rw [hq] at this; exact Lib.hid this
    by_cases hlt : n < q.length
    · have hx := Lib.hid (hPq.out _ (List.getElem_mem hlt))
      generalize hxe : q[n] = x at hx
      have HX := Lib.hid hxe
      clear hq hxe
      go_wp2_with fail
      go_loopw [8, 27] (fun qv' li wr => ∃ (l : Nat) (q' nx' : List Int) (nv' : Value), l ≤ 3 ∧ li = .int .i64 l ∧ bfsL on x (q, nx) l = (q', nx') ∧ FromP W0 R6 R7 MB q' qv' nx' nv' ((q.take n).map ends) ev wr) (fun _ li _ => 3 - (intOf li).toNat)
      case atStart => exact ⟨0, q, nx, nv, by omega, rfl, rfl, F1.out⟩
      case round =>
        obtain ⟨l, q', nx', nv', hl, rfl, hq', hF'⟩ := hrel
        have F2 := Lib.hid hF'
        have HQ' := Lib.hid hq'
        obtain ⟨hn', hxn⟩ := bfsL_at hq' hlt
        rw [HX.out] at hxn
        obtain ⟨g, c8', rfl, -, -⟩ := World.ownsRow.form hF'.rowQ (by omega)
        have hcell := World.ownsRow.cellAt hF'.rowQ (n * 2) (by omega)
        have hcelb := World.ownsRow.cellAt hF'.rowQ (n * 2 + 1) (by omega)
        rw [(prs_at q' n hn').1, hxn] at hcell
        rw [(prs_at q' n hn').2, hxn] at hcelb
        clear hF' hq' hxn
        by_cases hl3 : l < 3
        · go_wp2_with fail
          refine (HON.out _ F2.out.keep x hx.out l hl3).mono ?_
          rintro e w2 ⟨v, rfl, hon, hb⟩
          have F3 := Lib.hid (F2.out.below hb)
          have HB1 : Hid (bfsL on x (q, nx) (l + 1) = bfs1 (q', nx') (on x l)) := by
            have : bfsL on x (q, nx) (l + 1) = bfs1 (q', nx') (on x l) := by rw [bfsL, HQ'.out]
            exact Lib.hid this
          have HPQ : Hid (∀ y ∈ q', P y) := by
            have h1 := bfsL_all (P := P) on x (p := (q, nx)) hPq.out (fun l b hl h => HS.out x hx.out l b hl h) l hl
            rw [HQ'.out] at h1
            exact Lib.hid h1
          have hq'N : q'.length ≤ N := by
            have h1 := (bfsL_mono on x (q, nx) hl).length_le
            have h2 := hle.out (n + 1)
            rw [bfsTo_step (by rw [HQ.out]; exact hlt)] at h2
            simp only [HQ.out, HX.out] at h2
            rw [HQ'.out] at h1
            simp only at h1
            omega
          clear F2 hb hcell hcelb
          have hnl : nx'.length ≤ 13000 := by
            have h1 := bfsL_len on x (q, nx) l
            have h2 := bfsTo_len (on := on) (s0 := s0) n (by rw [HQ.out]; show n ≤ q.length; omega)
            rw [HQ'.out] at h1
            rw [HQ.out] at h2
            simp only at h1 h2
            omega
          have hbt : Below w2.heap.size w2 (w2.alloc (.cells #[.int .i64 (p1 v), .int .i64 (p2 v)] 84)) := (Below.refl _ _).alloc (Nat.le_refl _) _
          have hct : (cellsT w2.heap.size #[.int .i64 (p1 v), .int .i64 (p2 v)] 84).says (w2.alloc (.cells #[.int .i64 (p1 v), .int .i64 (p2 v)] 84)) := heap_alloc_new w2 _
          have F3' := Lib.hid (F3.out.below hbt)
          have HCT := Lib.hid hct
          have hTM : ¬ (w2.heap.size = MB) := by have := F3.out.ap.ltAt 4 (by simp) MB rfl; omega
          have hTs : w2.heap.size < (w2.alloc (.cells #[.int .i64 (p1 v), .int .i64 (p2 v)] 84)).heap.size := by simp
          go_upto_region 11 with fail
          generalize hWT : w2.alloc (.cells #[.int .i64 (p1 v), .int .i64 (p2 v)] 84) = wt at *
          generalize hTB : w2.heap.size = tb at *
          clear hWT hbt hct F3 hTB
          have t0 := cellsT_cell HCT.out 0
          have t1 := cellsT_cell HCT.out 1
          have y0 := F3'.out.cell.1
          have y1 := F3'.out.cell.2.1
          have y2 := F3'.out.cell.2.2
          have HON1 : Hid (on x l = some v) := Lib.hid hon
          have hPv := HS.out x hx.out l v hl3 hon
          have wfv := HWF.out v hPv
          have hwq : ∀ y ∈ q', wf2 y := fun y hy => HWF.out y (HPQ.out y hy)
          have HWQ := Lib.hid hwq
          have HH := Lib.hid (has_k2 (q := q') v hwq wfv)
          clear hwq
          have hnd : Hid (q'.Nodup) := by
            have h1 := bfsL_nodup on x (p := (q, nx)) (by have := bfsTo_nodup on s0 n; rw [HQ.out] at this; exact this) l
            rw [HQ'.out] at h1
            exact Lib.hid h1
          clear hon
          by_cases hm : v ∈ q'
          · have HM := Lib.hid hm
            have HHt : Hid (Maps.has (qD (H := Unit) key2 q') (key2 v) = true) := Lib.hid (HH.out.trans (by simp [hm]))
            clear hm
            go_wp2_with (first | (at_lookup; refine wpList_lookup_own_ok_int _ rfl _ _ 96 rfl 84 3 .i64 lawK2 Try.underlying96 Try.underlying3 (zeroIntF _) MB q'.length (qD (H := Unit) key2 q') rfl F3'.out.map (arr2 v) (key2 v) rfl (key2_of v wfv) ?_; intro c hat0 hwc; rw [HHt.out]) | (at_builtin; refine wpList_append_lies _ rfl _ _ 22 rfl 0 3 i0 (.int .i64 0) 1 8 Try.underlying22 HI.out.1 HI.out.2.1 HI.out.2.2.1 HI.out.2.2.2 rfl (by decide) nv' nx'.length (nx'.map (Value.int .i64)) rfl (F3'.out.rowN.alloc _) ⟨wt.heap.size, 0, none⟩ 1 1 [.int .i64 _] rfl rfl (cell_one_new _ _ _) (by simp [Value.oneCell']) (by omega) (by unfold maxLen; omega) (by omega) (Nat.zero_le _) _ rfl ?_; intro g3 cp w4 hown hgrow hat hlt3; obtain ⟨F4, x31, f31⟩ := F3'.out.nextN hgrow hown hat))
            go_roundw
            case rel =>
              have hc := at_k2 v HWQ.out wfv c hnd.out HM.out hat0
              subst hc
              exact ⟨l + 1, q', nx' ++ [(q'.idxOf v : Int)], _, by omega, by go_num, by rw [HB1.out, HON1.out, bfs1_old HM.out], F4⟩
            case measure => simp [intOf]; omega
          · have HM := Lib.hid hm
            have HHf : Hid (Maps.has (qD (H := Unit) key2 q') (key2 v) = false) := Lib.hid (HH.out.trans (by simp [hm]))
            clear hm
            go_wp2_with (first | (at_lookup; refine wpList_lookup_own_ok_int _ rfl _ _ 96 rfl 84 3 .i64 lawK2 Try.underlying96 Try.underlying3 (zeroIntF _) MB q'.length (qD (H := Unit) key2 q') rfl F3'.out.map (arr2 v) (key2 v) rfl (key2_of v wfv) ?_; intro c hat0 hwc; rw [HHf.out]) | (at_mapUpdate; refine wpList_mapUpdate_own _ rfl _ _ _ 96 rfl 84 3 lawK2 Try.underlying96 _ MB q'.length (qD (H := Unit) key2 q') rfl F3'.out.map (by unfold maxLen; omega) (arr2 v) _ (key2 v) rfl rfl (key2_of v wfv) (.lit (.int .i64 (q'.length : Int))) [] (plainElem_int Try.underlying3 (WalkArith.wf_i64 (by omega))) ?_; intro w3 hown3 hgrow3; have hct3 := cellsT_mono (T := tb) HCT.out hgrow3 hTs hTM; have t30 := cellsT_cell hct3 0; have t31 := cellsT_cell hct3 1) | (at_builtin; refine wpList_append_lies _ rfl _ _ 95 rfl 0 84 k0 (.agg #[.int .i64 0, .int .i64 0]) 2 16 Try.underlying95 HKP.out.1 HKP.out.2.1 HKP.out.2.2.1 HKP.out.2.2.2 rfl (by decide) (.slice (some ⟨g, 0, none⟩) q'.length c8') q'.length (prs q') rfl ((F3'.out.rowQ_kept hgrow3).alloc _) ⟨w3.heap.size, 0, none⟩ 1 1 [.int .i64 (p1 v), .int .i64 (p2 v)] rfl rfl (cell_two_new _ _ _ _) (by simp [Value.oneCell']) (by omega) (by unfold maxLen; omega) (by omega) (Nat.zero_le _) _ rfl ?_; intro g3 cp w4 hown hgrow hat hlt3; have F4 := Lib.hid (F3'.out.push hgrow3 hown3 hgrow hown hat); have y0 := F4.out.cell.1; have y1 := F4.out.cell.2.1; have y2 := F4.out.cell.2.2) | (at_builtin; refine wpList_append_lies _ rfl _ _ 22 rfl 0 3 i0 (.int .i64 0) 1 8 Try.underlying22 HI.out.1 HI.out.2.1 HI.out.2.2.1 HI.out.2.2.2 rfl (by decide) nv' nx'.length (nx'.map (Value.int .i64)) rfl (F4.out.rowN.alloc _) ⟨w4.heap.size, 0, none⟩ 1 1 [.int .i64 _] rfl rfl (cell_one_new _ _ _) (by simp [Value.oneCell']) (by omega) (by unfold maxLen; omega) (by omega) (Nat.zero_le _) _ rfl ?_; intro g5 cp5 w5 hown5 hgrow5 hat5 hlt5; obtain ⟨F5, x31, f31⟩ := F4.out.nextN hgrow5 hown5 hat5))
            go_roundw
            case rel => exact ⟨l + 1, q' ++ [v], nx' ++ [(q'.length : Int)], _, by omega, by go_num, by rw [HB1.out, HON1.out, bfs1_new HM.out], F5⟩
            case measure => simp [intOf]; omega
        · obtain rfl : l = 3 := by omega
          have HB3 : Hid (bfsTo on s0 (n + 1) = (q', nx')) := by
            have : bfsTo on s0 (n + 1) = (q', nx') := by
              rw [bfsTo_step (by rw [HQ.out]; exact hlt)]
              simp only [HQ.out, HX.out]
              exact HQ'.out
            exact Lib.hid this
          have hn1 : n < N := by omega
          have HT : Hid ((q'.take (n + 1)).map ends = (q.take n).map ends ++ [ends x]) := Lib.hid (bfsL_take HQ'.out hlt HX.out)
          have hes : ((q.take n).map ends).length ≤ 4000 := by rw [List.length_map, List.length_take]; omega
          generalize (q.take n).map ends = es at *
          go_wp2_with fail
          have Fd := Lib.hid (F2.out.same (grown_drew _ none))
          have z12 := Fd.out.cell.2.2
          have hcell2 : wr.drew.cell? ⟨g, n * 2, none⟩ = some (.int .i64 (p1 x)) := hcell
          have hcelb2 : wr.drew.cell? ⟨g, n * 2 + 1, none⟩ = some (.int .i64 (p2 x)) := hcelb
          have HK := Lib.hid Fd.out.keep
          go_region_law (first | (go_simp; go_at_call 87; refine (HENDS.out _ HK.out x hx.out).mono ?_; rintro e w2 ⟨rfl, hb⟩; have F3 := Lib.hid (Fd.out.below hb); have x12 := F3.out.cell.2.2; have x13 := fun b => (F3.out.same (World.grownBy_alloc w2 (.cells #[.bool b] 4) none)).cell.2.2) | (refine step_append_lies _ rfl _ _ 23 rfl 0 4 j0 (.bool false) 1 1 Try.underlying23 HJ.out.1 HJ.out.2.1 HJ.out.2.2.1 HJ.out.2.2.2 rfl (by decide) ev es.length (es.map Value.bool) rfl (F3.out.rowE.alloc _) ⟨w2.heap.size, 0, none⟩ 1 1 [.bool (ends x)] rfl rfl (cell_one_new _ _ _) (by simp [Value.oneCell']) (by omega) (by unfold maxLen; omega) (by omega) (Nat.zero_le _) _ rfl ?_; intro g3 cp w4 hown hgrow hat hlt3; obtain ⟨F4, x31, f31⟩ := F3.out.nextE hgrow hown hat))
          all_goals
            clear z12 x12 x13
            go_wp2
            go_roundw
            case rel => exact ⟨n + 1, q', nx', nv', _, hn1, hn', by go_num, HB3.out, by rw [HT.out]; exact F4⟩
            case measure => simp [intOf]; omega
    · have hqn : q.length = n := by omega
      have hnN : n = N := bfsTo_one (by rw [HQ.out]; exact hqn) HNN.out
      subst hnN
      have F5 := F1.out
      rw [List.take_of_length_le (by omega)] at F5
      clear F1
      obtain ⟨a1, c1, rfl⟩ := ownsRow_slice F5.rowN
      obtain ⟨a2, c2, rfl⟩ := ownsRow_slice F5.rowE
      have F1 := Lib.hid F5
      clear F5
      have y0 := F1.out.cell.1
      have y0f := F1.out.froz 0
      obtain ⟨x0, x1, x2, x6⟩ := F1.out.len (n : Int) rfl
      have g00 : (wr.setCell ⟨R7, 0, none⟩ (.int .i64 (n : Int))).cell? ⟨R6, 0, none⟩ = some (.int .i64 0) := cellsT_cell x6 0
      have g01 : (wr.setCell ⟨R7, 0, none⟩ (.int .i64 (n : Int))).cell? ⟨R6, 1, none⟩ = some (.slice none 0 0) := cellsT_cell x6 1
      have g02 : (wr.setCell ⟨R7, 0, none⟩ (.int .i64 (n : Int))).cell? ⟨R6, 2, none⟩ = some (.slice none 0 0) := cellsT_cell x6 2
      have f00 := cellsT_frozen x6 0
      have f01 := cellsT_frozen x6 1
      have f02 := cellsT_frozen x6 2
      clear x6
      go_wp2_with fail
      obtain ⟨r1, r2, r3, r4, r5⟩ := F1.out.done (n : Int) rfl
      have hM : (⟨(n : Int), (bfsTo on s0 n).2, (bfsTo on s0 n).1.map ends⟩ : M) = ⟨(n : Int), nx, q.map ends⟩ := by rw [HQ.out]
      refine bodyPost_ret (v := .agg #[.int .i64 (n : Int), .slice a1 nx.length c1, .slice a2 n c2]) ?_ rfl (by rw [hM]; exact ⟨a1, a2, c1, c2, by simp only [List.length_map, hqn], r1.mono (by have := HS0.out; omega), HBW.out.trans (r2.mono (by have := HS0.out; omega))⟩)
      simp [results, Try.results85, go_sem, r3, r4, r5]
end Go.Proofs.Ythknpbefdejbkaa
