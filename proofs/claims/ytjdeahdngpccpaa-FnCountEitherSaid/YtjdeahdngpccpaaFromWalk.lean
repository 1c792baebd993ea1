/- The walk of machineFrom over numbers, whatever the two functions are. No condition. -/
import Derived.Test.YtjdeahdngpccpaaFrom
namespace Go.Proofs.Ytjdeahdngpccpaa
open Go.RowKit Go.Maps

/-- a machine in memory of its own -/
def MachNew (m : M) (w : World) (e : Ending) (w' : World) : Prop :=
  ∃ (a1 a2 : Option Addr) (c1 c2 : Nat), e = .returned (.agg #[.int .i64 m.st, .slice a1 m.next.length c1, .slice a2 m.ends.length c2]) ∧
    Apart w.heap.size [rowT 3 1 (.slice a1 m.next.length c1) m.next.length (m.next.map (Value.int .i64)), rowT 4 1 (.slice a2 m.ends.length c2) m.ends.length (m.ends.map Value.bool)] w' ∧ Below w.heap.size w w'

theorem bfsL_at {α : Type} [DecidableEq α] {on : α → Nat → Option α} {x : α} {q q' : List α} {nx nx' : List Int} {l n : Nat} (h : bfsL on x (q, nx) l = (q', nx')) (hn : n < q.length) : ∃ h' : n < q'.length, q'[n] = q[n] := by
  obtain ⟨t, ht⟩ := bfsL_prefix on x (q, nx) l
  rw [h] at ht
  simp only at ht
  subst ht
  exact ⟨by rw [List.length_append]; omega, List.getElem_append_left hn⟩
theorem bfsL_take {on : Int → Nat → Option Int} {x : Int} {q q' : List Int} {nx nx' : List Int} {l n : Nat} {ends : Int → Bool} (h : bfsL on x (q, nx) l = (q', nx')) (hn : n < q.length) (hx : q[n] = x) : (q'.take (n + 1)).map ends = (q.take n).map ends ++ [ends x] := by
  obtain ⟨t, ht⟩ := bfsL_prefix on x (q, nx) l
  rw [h] at ht
  simp only at ht
  subst ht
  rw [List.take_append_of_le_length (by omega), List.take_succ_eq_append_getElem hn, List.map_append, hx]; rfl
theorem has_int {q : List Int} (v : Int) : Maps.has (qD (H := Unit) intKey q) (.int .i64 v) = decide (v ∈ q) := qD_has intKey intKey_is q v (fun _ _ e => intKey_inj e)
theorem at_int {q : List Int} (v c : Int) (hn : q.Nodup) (hm : v ∈ q) (h : (qD (H := Unit) intKey q).atKey (.int .i64 v) (.lit (.int .i64 0)) = .lit (.int .i64 c)) : c = (q.idxOf v : Int) := by
  have := qD_at (H := Unit) intKey intKey_is q hn v (fun _ _ e => intKey_inj e) hm (.lit (.int .i64 0))
  rw [show intKey v = Lit.int .i64 v from rfl] at this
  rw [h] at this
  simpa using this

theorem from_start (w0 : World) (s0 : Int) (t : TypeId) {w1 : World} {M0 : World} (hM0 : M0 = (((w0.alloc (.cells #[.int .i64 0, .slice none 0 0, .slice none 0 0] 26)).alloc (.cells #[.int .i64 0, .slice none 0 0, .slice none 0 0] 26)).alloc (.cells #[.int .i64 s0] t)).alloc (.map #[] 0))
    (hm : w1.ownsMap (H := Unit) Try.prog 3 (plainElem Try.prog 3) (w0.heap.size + 1 + 1 + 1) 1 ((DataW.map []).put (intKey s0) (.lit (.int .i64 0)))) (hg : M0.grownBy w1 (some (w0.heap.size + 1 + 1 + 1))) (ht : t = 3) :
    From w0 w0.heap.size (w0.heap.size + 1) (w0.heap.size + 1 + 1 + 1) [s0] (.slice (some ⟨w0.heap.size + 1 + 1, 0, none⟩) 1 1) [] (.slice none 0 0) [] (.slice none 0 0) w1 := by
  subst hM0 ht
  have A1 := (Apart.nil w0.heap.size w0).more (World.grownBy_alloc w0 _ none) (cellsT w0.heap.size #[.int .i64 0, .slice none 0 0, .slice none 0 0] 26) (heap_alloc_new w0 _) (Nat.le_refl _) (fun j e => by cases e; simp)
  have A2 := A1.more (World.grownBy_alloc _ (.cells #[.int .i64 0, .slice none 0 0, .slice none 0 0] 26) none) (cellsT (w0.heap.size + 1) #[.int .i64 0, .slice none 0 0, .slice none 0 0] 26) (by have := heap_alloc_new (w0.alloc (.cells #[.int .i64 0, .slice none 0 0, .slice none 0 0] 26)) (.cells #[.int .i64 0, .slice none 0 0, .slice none 0 0] 26); rw [World.size_alloc] at this; exact this) (by simp) (fun j e => by cases e; simp)
  have A3 := A2.more (World.grownBy_alloc _ (.cells #[.int .i64 s0] 3) none) (rowT 3 1 (.slice (some ⟨w0.heap.size + 1 + 1, 0, none⟩) 1 1) 1 [.int .i64 s0]) (by
    have := World.ownsRow_lit (base := 0) (e := 3) (size := 1) ((w0.alloc (.cells #[.int .i64 0, .slice none 0 0, .slice none 0 0] 26)).alloc (.cells #[.int .i64 0, .slice none 0 0, .slice none 0 0] 26)) #[.int .i64 s0] 1 (Nat.zero_le _) (by unfold maxLen; omega) rfl
    rw [World.size_alloc, World.size_alloc] at this; exact this) (by simp; omega) (fun j e => by cases e; simp)
  have A4 := A3.more (World.grownBy_alloc _ (.map #[] 0) none) (mapT (H := Unit) Try.prog 3 (plainElem Try.prog 3) (w0.heap.size + 1 + 1 + 1) 0 (.map [])) (by
    have := World.ownsMap_made (H := Unit) (((w0.alloc (.cells #[.int .i64 0, .slice none 0 0, .slice none 0 0] 26)).alloc (.cells #[.int .i64 0, .slice none 0 0, .slice none 0 0] 26)).alloc (.cells #[.int .i64 s0] 3)) Try.prog 3 (plainElem Try.prog 3)
    rw [World.size_alloc, World.size_alloc, World.size_alloc] at this; exact this) (by simp; omega) (fun j e => by cases e; simp)
  have A5 := A4.turn hg (mapT (H := Unit) Try.prog 3 (plainElem Try.prog 3) (w0.heap.size + 1 + 1 + 1) 1 (qD intKey [s0])) hm (by simp; omega) (fun j e => ⟨.inl e, by have := A4.lt j e; exact Nat.lt_of_lt_of_le this.2 hg.size⟩)
  have A6 := (A5.idle (rowT 4 1 (.slice none 0 0) 0 []) (World.ownsRow_nil _ _ _ _) rfl).idle (rowT 3 1 (.slice none 0 0) 0 []) (World.ownsRow_nil _ _ _ _) rfl
  refine ⟨?_, ?_⟩
  · have hb := ((((Below.refl w0.heap.size w0).alloc (Nat.le_refl _) (.cells #[.int .i64 0, .slice none 0 0, .slice none 0 0] 26)).alloc (by simp) (.cells #[.int .i64 0, .slice none 0 0, .slice none 0 0] 26)).alloc (by simp; omega) (.cells #[.int .i64 s0] 3)).alloc (by simp; omega) (.map #[] 0)
    exact hb.grown hg hb.size (fun j e => by cases e; omega)
  · refine A6.perm ?_
    have p : ∀ (a b m q r7 r6 : Thing), [a, b, m, q, r7, r6].Perm [r7, a, b, q, m, r6] := fun a b m q r7 r6 => by
      have h1 : [a, b, m, q, r7, r6].Perm [a, b, q, m, r7, r6] := ((List.Perm.swap q m [r7, r6]).cons b).cons a
      have h2 : [a, b, q, m, r7, r6].Perm (r7 :: [a, b, q, m, r6]) := List.perm_middle (l₁ := [a, b, q, m]) (l₂ := [r6])
      exact h1.trans h2
    exact p _ _ _ _ _ _

set_option maxHeartbeats 4000000 in
theorem machineFromTrim_any (on : Int → Nat → Option Int) (ends : Int → Bool) (s0 : Int) (N : Nat) (P : Int → Prop) (p1 p2 : Value) (w : World)
    (hN : (bfsTo on s0 N).1.length = N) (hN4 : N ≤ 4000) (h0 : P s0) (hs : ∀ x, P x → ∀ l b, l < 3 → on x l = some b → P b) (hw : ∀ x, P x → (Lit.int .i64 x).wf = true)
    (HOn : ∀ W, Below w.heap.size w W → ∀ x, P x → ∀ l : Nat, l < 3 → Calls Try.prog 124 #[.int .i64 x, .int .i64 (l : Int), p1, p2] W fun e W' => ∃ v b, e = .returned (.tuple #[.int .i64 v, .bool b]) ∧ on x l = (if b = true then some v else none) ∧ Below W.heap.size W W')
    (HEnds : ∀ W, Below w.heap.size w W → ∀ x, P x → Calls Try.prog 125 #[.int .i64 x, p1] W fun e W' => e = .returned (.bool (ends x)) ∧ Below W.heap.size W W') :
    Calls Try.prog 76 #[.int .i64 s0, .func (.func 124) #[] #[p1, p2], .func (.func 125) #[] #[p1]] w (MachNew ⟨N, (bfsTo on s0 N).2, (bfsTo on s0 N).1.map ends⟩ w) := by
  have hmm := @run_makeMap Try.prog
  obtain ⟨i0, hi, hz0, hz1, hz2⟩ := info_parts infoIntF
  obtain ⟨j0, hj, hy0, hy1, hy2⟩ := info_parts infoBoolF
  have HI := Lib.hid (And.intro hi (And.intro hz0 (And.intro hz1 hz2)))
  have HJ := Lib.hid (And.intro hj (And.intro hy0 (And.intro hy1 hy2)))
  clear hi hz0 hz1 hz2 hj hy0 hy1 hy2
  have HON := Lib.hid HOn
  have HENDS := Lib.hid HEnds
  have hall := Lib.hid (bfsTo_all h0 hs)
  have HNN := Lib.hid hN
  have HS := Lib.hid hs
  have HWF := Lib.hid hw
  have hle := Lib.hid (bfsTo_le hN)
  have wf0 := hw s0 h0
  clear HOn HEnds hN hs hw
  obtain ⟨w1, hrun, hown1, hg1⟩ : ∃ w', (Instr.mapUpdate 122 (.map (some (w.heap.size + 1 + 1 + 1))) (.int .i64 s0) (.int .i64 0)).run Try.prog ((((w.alloc (.cells #[.int .i64 0, .slice none 0 0, .slice none 0 0] 26)).alloc (.cells #[.int .i64 0, .slice none 0 0, .slice none 0 0] 26)).alloc (.cells #[.int .i64 s0] 3)).alloc (.map #[] 0)) = .ok () w' ∧ w'.ownsMap (H := Unit) Try.prog 3 (plainElem Try.prog 3) (w.heap.size + 1 + 1 + 1) 1 ((DataW.map []).put (intKey s0) (.lit (.int .i64 0))) ∧ World.grownBy ((((w.alloc (.cells #[.int .i64 0, .slice none 0 0, .slice none 0 0] 26)).alloc (.cells #[.int .i64 0, .slice none 0 0, .slice none 0 0] 26)).alloc (.cells #[.int .i64 s0] 3)).alloc (.map #[] 0)) w' (some (w.heap.size + 1 + 1 + 1)) := by
    have hm := World.ownsMap_made (H := Unit) (((w.alloc (.cells #[.int .i64 0, .slice none 0 0, .slice none 0 0] 26)).alloc (.cells #[.int .i64 0, .slice none 0 0, .slice none 0 0] 26)).alloc (.cells #[.int .i64 s0] 3)) Try.prog 3 (plainElem Try.prog 3)
    rw [World.size_alloc, World.size_alloc, World.size_alloc] at hm
    exact hm.update lawIntF Try.underlying122 (by unfold maxLen; omega) (keyOf_int_mk Try.underlying3 wf0) (plainElem_int Try.underlying3 (by decide))
  have F0 := Lib.hid (from_start w s0 3 rfl hown1 hg1 rfl)
  clear hown1 hg1
  go_enter Try.func76, Try.ntmps76
  go_wp2_with fail
  generalize hR6 : w.heap.size = R6 at *
  generalize R6 + 1 + 1 + 1 = MB at *
  generalize hR7 : R6 + 1 = R7 at *
  generalize (.slice (some ⟨R7 + 1, 0, none⟩) 1 1 : Value) = qv0 at *
  clear hrun
  go_loopw [8, 10] (fun qv i wr => ∃ (n : Nat) (q : List Int) (nx : List Int) (nv ev : Value), n ≤ N ∧ n ≤ q.length ∧ i = .int .i64 n ∧ bfsTo on s0 n = (q, nx) ∧ From w R6 R7 MB q qv nx nv ((q.take n).map ends) ev wr) (fun _ i _ => N - (intOf i).toNat)
  case atStart => exact ⟨0, [s0], [], _, _, Nat.zero_le _, Nat.zero_le _, rfl, rfl, F0.out⟩
  case round =>
    obtain ⟨n, q, nx, nv, ev, hn, hnq, rfl, hq, hF⟩ := hrel
    have F1 := Lib.hid hF
    obtain ⟨a8, c8, rfl⟩ := ownsRow_slice hF.rowQ
    clear hF
    have HQ := Lib.hid hq
    have hqN : q.length ≤ N := by have := hle.out n; rw [hq] at this; exact this
    have hPq : Hid (∀ y ∈ q, P y) := by have := hall.out n; rw [hq] at this; exact Lib.hid this
    by_cases hlt : n < q.length
    · have hx := Lib.hid (hPq.out _ (List.getElem_mem hlt))
      generalize hxe : q[n] = x at hx
      have HX := Lib.hid hxe
      clear hq hxe
      go_wp2_with fail
      go_loopw [8, 27] (fun qv' li wr => ∃ (l : Nat) (q' nx' : List Int) (nv' : Value), l ≤ 3 ∧ li = .int .i64 l ∧ bfsL on x (q, nx) l = (q', nx') ∧ From w R6 R7 MB q' qv' nx' nv' ((q.take n).map ends) ev wr) (fun _ li _ => 3 - (intOf li).toNat)
      case atStart => exact ⟨0, q, nx, nv, by omega, rfl, rfl, F1.out⟩
      case round =>
        obtain ⟨l, q', nx', nv', hl, rfl, hq', hF'⟩ := hrel
        have F2 := Lib.hid hF'
        have HQ' := Lib.hid hq'
        obtain ⟨hn', hxn⟩ := bfsL_at hq' hlt
        rw [HX.out] at hxn
        obtain ⟨g, c8', rfl, -, -⟩ := World.ownsRow.form hF'.rowQ (by omega)
        have hcell := World.ownsRow.cellAt hF'.rowQ n (by omega)
        rw [List.getElem?_map, List.getElem?_eq_getElem hn', hxn] at hcell
        simp only [Option.map_some] at hcell
        clear hF' hq' hxn
        by_cases hl3 : l < 3
        · go_wp2_with fail
          refine (HON.out _ (by rw [← hR6]; exact F2.out.keep) x hx.out l hl3).mono ?_
          rintro e w2 ⟨v, b, rfl, hon, hb⟩
          have F3 := Lib.hid (F2.out.below hb)
          have HB1 : Hid (bfsL on x (q, nx) (l + 1) = bfs1 (q', nx') (on x l)) := by
            have : bfsL on x (q, nx) (l + 1) = bfs1 (q', nx') (on x l) := by rw [bfsL, HQ'.out]
            exact Lib.hid this
          have hq'N : q'.length ≤ N := by
            have h1 := (bfsL_mono on x (q, nx) hl).length_le
            have h2 := hle.out (n + 1)
            rw [bfsTo_step (by rw [HQ.out]; exact hlt)] at h2
            simp only [HQ.out, HX.out] at h2
            rw [HQ'.out] at h1
            simp only at h1
            omega
          clear F2 hb hcell
          have y0 := F3.out.cell.1
          have y1 := F3.out.cell.2.1
          have y2 := F3.out.cell.2.2
          have hnl : nx'.length ≤ 13000 := by
            have h1 := bfsL_len on x (q, nx) l
            have h2 := bfsTo_len (on := on) (s0 := s0) n (by rw [HQ.out]; show n ≤ q.length; omega)
            rw [HQ'.out] at h1
            rw [HQ.out] at h2
            simp only at h1 h2
            omega
          cases b with
          | false =>
            have HON1 : Hid (on x l = none) := Lib.hid hon
            clear hon
            go_wp2_with (at_builtin; refine wpList_append_lies _ rfl _ _ 23 rfl 0 3 i0 (.int .i64 0) 1 8 Try.underlying23 HI.out.1 HI.out.2.1 HI.out.2.2.1 HI.out.2.2.2 rfl (by decide) nv' nx'.length (nx'.map (Value.int .i64)) rfl (F3.out.rowN.alloc _) ⟨w2.heap.size, 0, none⟩ 1 1 [.int .i64 (-1)] rfl rfl (cell_one_new _ _ _) (by simp [Value.oneCell']) (by omega) (by unfold maxLen; omega) (by omega) (Nat.zero_le _) _ rfl ?_; intro g3 cp w4 hown hgrow hat hlt3; obtain ⟨F4, x31, f31⟩ := F3.out.nextN hgrow hown hat)
            go_roundw
            case rel => exact ⟨l + 1, q', nx' ++ [-1], _, by omega, by go_num, by rw [HB1.out, HON1.out, bfs1_none], F4⟩
            case measure => simp [intOf]; omega
          | true =>
            have HON1 : Hid (on x l = some v) := Lib.hid hon
            have hPv := HS.out x hx.out l v hl3 hon
            have wfv := HWF.out v hPv
            have HH := Lib.hid (has_int (q := q') v)
            have hnd : Hid (q'.Nodup) := by
              have h1 := bfsL_nodup on x (p := (q, nx)) (by have := bfsTo_nodup on s0 n; rw [HQ.out] at this; exact this) l
              rw [HQ'.out] at h1
              exact Lib.hid h1
            clear hon
            by_cases hm : v ∈ q'
            · have HM := Lib.hid hm
              have HHt : Hid (Maps.has (qD (H := Unit) intKey q') (.int .i64 v) = true) := Lib.hid (HH.out.trans (by simp [hm]))
              clear hm
              go_wp2_with (first | (at_lookup; refine wpList_lookup_own_ok_int _ rfl _ _ 122 rfl 3 3 .i64 lawIntF Try.underlying122 Try.underlying3 (zeroIntF _) MB q'.length (qD (H := Unit) intKey q') rfl F3.out.map _ _ rfl (keyOf_int_mk Try.underlying3 wfv) ?_; intro c hat0 hwc; rw [HHt.out]) | (at_builtin; refine wpList_append_lies _ rfl _ _ 23 rfl 0 3 i0 (.int .i64 0) 1 8 Try.underlying23 HI.out.1 HI.out.2.1 HI.out.2.2.1 HI.out.2.2.2 rfl (by decide) nv' nx'.length (nx'.map (Value.int .i64)) rfl (F3.out.rowN.alloc _) ⟨w2.heap.size, 0, none⟩ 1 1 [.int .i64 _] rfl rfl (cell_one_new _ _ _) (by simp [Value.oneCell']) (by omega) (by unfold maxLen; omega) (by omega) (Nat.zero_le _) _ rfl ?_; intro g3 cp w4 hown hgrow hat hlt3; obtain ⟨F4, x31, f31⟩ := F3.out.nextN hgrow hown hat))
              go_roundw
              case rel =>
                have hc := at_int v c hnd.out HM.out hat0
                subst hc
                exact ⟨l + 1, q', nx' ++ [(q'.idxOf v : Int)], _, by omega, by go_num, by rw [HB1.out, HON1.out, bfs1_old HM.out], F4⟩
              case measure => simp [intOf]; omega
            · have HM := Lib.hid hm
              have HHf : Hid (Maps.has (qD (H := Unit) intKey q') (.int .i64 v) = false) := Lib.hid (HH.out.trans (by simp [hm]))
              clear hm
              go_wp2_with (first | (at_lookup; refine wpList_lookup_own_ok_int _ rfl _ _ 122 rfl 3 3 .i64 lawIntF Try.underlying122 Try.underlying3 (zeroIntF _) MB q'.length (qD (H := Unit) intKey q') rfl F3.out.map _ _ rfl (keyOf_int_mk Try.underlying3 wfv) ?_; intro c hat0 hwc; rw [HHf.out]) | (at_mapUpdate; refine wpList_mapUpdate_own _ rfl _ _ _ 122 rfl 3 3 lawIntF Try.underlying122 _ MB q'.length (qD (H := Unit) intKey q') rfl F3.out.map (by unfold maxLen; omega) _ _ (intKey v) rfl rfl (keyOf_int_mk Try.underlying3 wfv) (.lit (.int .i64 (q'.length : Int))) [] (plainElem_int Try.underlying3 (WalkArith.wf_i64 (by omega))) ?_; intro w3 hown3 hgrow3) | (at_builtin; refine wpList_append_lies _ rfl _ _ 23 rfl 0 3 i0 (.int .i64 0) 1 8 Try.underlying23 HI.out.1 HI.out.2.1 HI.out.2.2.1 HI.out.2.2.2 rfl (by decide) (.slice (some ⟨g, 0, none⟩) q'.length c8') q'.length (q'.map (Value.int .i64)) rfl ((F3.out.rowQ_kept hgrow3).alloc _) ⟨w3.heap.size, 0, none⟩ 1 1 [.int .i64 v] rfl rfl (cell_one_new _ _ _) (by simp [Value.oneCell']) (by omega) (by unfold maxLen; omega) (by omega) (Nat.zero_le _) _ rfl ?_; intro g3 cp w4 hown hgrow hat hlt3; have F4 := Lib.hid (F3.out.push hgrow3 hown3 hgrow hown hat); have y0 := F4.out.cell.1; have y1 := F4.out.cell.2.1; have y2 := F4.out.cell.2.2) | (at_builtin; refine wpList_append_lies _ rfl _ _ 23 rfl 0 3 i0 (.int .i64 0) 1 8 Try.underlying23 HI.out.1 HI.out.2.1 HI.out.2.2.1 HI.out.2.2.2 rfl (by decide) nv' nx'.length (nx'.map (Value.int .i64)) rfl (F4.out.rowN.alloc _) ⟨w4.heap.size, 0, none⟩ 1 1 [.int .i64 _] rfl rfl (cell_one_new _ _ _) (by simp [Value.oneCell']) (by omega) (by unfold maxLen; omega) (by omega) (Nat.zero_le _) _ rfl ?_; intro g5 cp5 w5 hown5 hgrow5 hat5 hlt5; obtain ⟨F5, x31, f31⟩ := F4.out.nextN hgrow5 hown5 hat5))
              go_roundw
              case rel => exact ⟨l + 1, q' ++ [v], nx' ++ [(q'.length : Int)], _, by omega, by go_num, by rw [HB1.out, HON1.out, bfs1_new HM.out], F5⟩
              case measure => simp [intOf]; omega
        · obtain rfl : l = 3 := by omega
          have HB3 : Hid (bfsTo on s0 (n + 1) = (q', nx')) := by
            have : bfsTo on s0 (n + 1) = (q', nx') := by
              rw [bfsTo_step (by rw [HQ.out]; exact hlt)]
              simp only [HQ.out, HX.out]
              exact HQ'.out
            exact Lib.hid this
          have hn1 : n < N := by omega
          have HT : Hid ((q'.take (n + 1)).map ends = (q.take n).map ends ++ [ends x]) := Lib.hid (bfsL_take HQ'.out hlt HX.out)
          have hes : ((q.take n).map ends).length ≤ 4000 := by rw [List.length_map, List.length_take]; omega
          generalize (q.take n).map ends = es at *
          go_wp2_with fail
          have Fd := Lib.hid (F2.out.same (grown_drew _ none))
          have z12 := Fd.out.cell.2.2
          have hcell2 : wr.drew.cell? ⟨g, n, none⟩ = some (.int .i64 x) := hcell
          have hkd : Below R6 w wr.drew := by rw [← hR6]; exact Fd.out.keep
          have HK := Lib.hid hkd
          clear hkd
          go_region_law (first | (go_simp; go_at_call 125; refine (HENDS.out _ HK.out x hx.out).mono ?_; rintro e w2 ⟨rfl, hb⟩; have F3 := Lib.hid (Fd.out.below hb); have x12 := F3.out.cell.2.2; have x13 := fun b => (F3.out.same (World.grownBy_alloc w2 (.cells #[.bool b] 4) none)).cell.2.2) | (refine step_append_lies _ rfl _ _ 24 rfl 0 4 j0 (.bool false) 1 1 Try.underlying24 HJ.out.1 HJ.out.2.1 HJ.out.2.2.1 HJ.out.2.2.2 rfl (by decide) ev es.length (es.map Value.bool) rfl (F3.out.rowE.alloc _) ⟨w2.heap.size, 0, none⟩ 1 1 [.bool (ends x)] rfl rfl (cell_one_new _ _ _) (by simp [Value.oneCell']) (by omega) (by unfold maxLen; omega) (by omega) (Nat.zero_le _) _ rfl ?_; intro g3 cp w4 hown hgrow hat hlt3; obtain ⟨F4, x31, f31⟩ := F3.out.nextE hgrow hown hat))
          all_goals
            clear z12 x12 x13
            go_wp2
            go_roundw
            case rel => exact ⟨n + 1, q', nx', nv', _, hn1, hn', by go_num, HB3.out, by rw [HT.out]; exact F4⟩
            case measure => simp [intOf]; omega
    · have hqn : q.length = n := by omega
      have hnN : n = N := bfsTo_one (by rw [HQ.out]; exact hqn) HNN.out
      subst hnN
      have F5 := F1.out
      rw [List.take_of_length_le (by omega)] at F5
      clear F1
      obtain ⟨a1, c1, rfl⟩ := ownsRow_slice F5.rowN
      obtain ⟨a2, c2, rfl⟩ := ownsRow_slice F5.rowE
      have F1 := Lib.hid F5
      clear F5
      have y0 := F1.out.cell.1
      have y0f := F1.out.froz 0
      obtain ⟨x0, x1, x2, x6⟩ := F1.out.len (n : Int) rfl
      have g00 : (wr.setCell ⟨R7, 0, none⟩ (.int .i64 (n : Int))).cell? ⟨R6, 0, none⟩ = some (.int .i64 0) := cellsT_cell x6 0
      have g01 : (wr.setCell ⟨R7, 0, none⟩ (.int .i64 (n : Int))).cell? ⟨R6, 1, none⟩ = some (.slice none 0 0) := cellsT_cell x6 1
      have g02 : (wr.setCell ⟨R7, 0, none⟩ (.int .i64 (n : Int))).cell? ⟨R6, 2, none⟩ = some (.slice none 0 0) := cellsT_cell x6 2
      have f00 := cellsT_frozen x6 0
      have f01 := cellsT_frozen x6 1
      have f02 := cellsT_frozen x6 2
      clear x6
      go_wp2_with fail
      obtain ⟨r1, r2, r3, r4, r5⟩ := F1.out.done (n : Int) rfl
      have hM : (⟨(n : Int), (bfsTo on s0 n).2, (bfsTo on s0 n).1.map ends⟩ : M) = ⟨(n : Int), nx, q.map ends⟩ := by rw [HQ.out]
      refine bodyPost_ret (v := .agg #[.int .i64 (n : Int), .slice a1 nx.length c1, .slice a2 n c2]) ?_ rfl (by rw [hM]; exact ⟨a1, a2, c1, c2, by simp only [List.length_map, hqn], r1, r2⟩)
      simp [results, Try.results76, go_sem, r3, r4, r5]
end Go.Proofs.Ytjdeahdngpccpaa
