/- spec.DrawGivingOk: a day and a row that are drawn. No condition. -/
import Derived.Test.YthihcnlbohhemaaDayDrawn
import Derived.Test.YthihcnlbohhemaaDayFirstF
namespace Go.Proofs.Ythihcnlbohhemaa
open Go.RowKit

/-- a day and a row that were drawn -/
def GivGot (w : World) (e : Ending) (w' : World) : Prop :=
  ∃ (ppl : Int) (xs : List Int) (cv : Value) (ws : List Int) (wv : Value), e = .returned (.tuple #[.agg #[.int .i64 ppl, cv], wv]) ∧ xs.length ≤ 6 ∧ IsInts w' cv xs ∧ IsInts w' wv ws ∧ Below w.heap.size w w'
theorem ints_but {R : Nat} {w w' : World} {v : Value} {xs : List Int} (h : IsInts w v xs) (hn : v.ownBlock ≠ some R) (hk : KeepsBut R w w') : IsInts w' v xs := h.far hn hk.grownBy
theorem far_row {w : World} {L B n : Nat} {v : Value} {xs : List Int} (hn : xs.length = n) (h : w.ownsRow B 3 1 v n (xs.map (Value.int .i64))) (hb : ∀ k, v.ownBlock = some k → L ≤ k) : FarI none L w v xs := by
  obtain ⟨a, cap, hv, h1, h2, h3⟩ := IsInts.of_ownsN hn h
  subst hv
  refine ⟨a, cap, rfl, h1, h2, h3.imp id ?_⟩
  rintro ⟨g, off, rfl, hg, hc⟩
  exact ⟨g, off, rfl, hb g rfl, hg, by simp, hc⟩
theorem two_cells {w : World} {b : Nat} {u v u' v' : Value} (h0 : w.cell? ⟨b, 0, none⟩ = some u') (h1 : w.cell? ⟨b, 1, none⟩ = some v') :
    ((w.setCell ⟨b, 0, none⟩ u).setCell ⟨b, 1, none⟩ v).cell? ⟨b, 0, none⟩ = some u ∧ ((w.setCell ⟨b, 0, none⟩ u).setCell ⟨b, 1, none⟩ v).cell? ⟨b, 1, none⟩ = some v := by
  constructor
  · rw [World.cell?_setCell_other _ _ _ _ (by simp)]; exact World.cell?_setCell_same' _ _ _ (by rw [h0]; rfl)
  · exact World.cell?_setCell_same' _ _ _ (by rw [World.cell?_setCell_other _ _ _ _ (by simp), h1]; rfl)

set_option maxRecDepth 20000 in
set_option maxHeartbeats 3200000 in
theorem drawGivingOk_any (a : Option Addr) (len cap : Nat) (zs : List Int) (w : World) (h : IsRow .u8 w a len cap zs) :
    Calls Try.prog 48 #[.slice a len cap] w (GivGot w) := by
  obtain ⟨i0, hi, hz0, hz1, hz2⟩ := info_parts infoIntD
  have HII := Lib.hid (And.intro hi (And.intro hz0 (And.intro hz1 hz2)))
  clear hi hz0 hz1 hz2
  have H0 := h.belowD ((Below.refl w.heap.size w).alloc (Nat.le_refl _) (.cells #[.int .i64 0, .slice none 0 0] 44))
  have HO := Lib.hid (l20Open_any a len cap zs _ H0)
  clear H0 h
  go_enter Try.func48, Try.ntmps48
  go_wp2_with fail
  refine HO.out.mono ?_
  clear HO
  rintro e w1 ⟨a1, len1, cap1, rfl, hR, hb1⟩
  simp only [World.size_alloc] at hR hb1
  have hRR := hR.hR
  have c0 : w1.cell? ⟨w.heap.size, 0, none⟩ = some (.int .i64 0) := (hb1.cell (p := ⟨w.heap.size, 0, none⟩) (Nat.lt_succ_self _)).trans (World.cell?_alloc_new w _ _ 0)
  have c1 : w1.cell? ⟨w.heap.size, 1, none⟩ = some (.slice none 0 0) := (hb1.cell (p := ⟨w.heap.size, 1, none⟩) (Nat.lt_succ_self _)).trans (World.cell?_alloc_new w _ _ 1)
  have f0 : ∀ i, w1.frozen? ⟨w.heap.size, i, none⟩ = false := fun i => (hb1.frozen (p := ⟨w.heap.size, i, none⟩) (Nat.lt_succ_self _)).trans (World.frozen?_alloc_new w _ _ i)
  have hbw : Below w.heap.size w w1 := ((Below.refl w.heap.size w).alloc (Nat.le_refl _) _).trans (hb1.mono (Nat.le_succ _))
  clear hb1
  go_wp2_with fail
  refine (l20Day_any _ _ a1 len1 cap1 0 9 w1 hR (by omega) (by omega) (by omega)).mono ?_
  rintro e w2 ⟨ppl, xs, cv, rfl, hl, hI, hblk, k', -, hk2, hR2, hK⟩
  obtain ⟨a3, n3, c3, rfl⟩ := hI.slice
  have hn3 : n3 = xs.length := by
    obtain ⟨_, _, hs, _⟩ := hI
    simp only [Value.slice.injEq] at hs
    exact hs.2.1
  have hp1 := hl.2.1
  have hp2 := hl.2.2
  have hl6 := hl.1
  have d0 := (hK.cell (p := ⟨w.heap.size, 0, none⟩) (by show w.heap.size < _; omega) (by show w.heap.size ≠ _; omega)).trans c0
  have d1 := (hK.cell (p := ⟨w.heap.size, 1, none⟩) (by show w.heap.size < _; omega) (by show w.heap.size ≠ _; omega)).trans c1
  have g0 := (hK.frozen (p := ⟨w.heap.size, 0, none⟩) (by show w.heap.size < _; omega) (by show w.heap.size ≠ _; omega)).trans (f0 0)
  have g1 := (hK.frozen (p := ⟨w.heap.size, 1, none⟩) (by show w.heap.size < _; omega) (by show w.heap.size ≠ _; omega)).trans (f0 1)
  have hbw2 : Below w.heap.size w w2 := hbw.trans (hK.below (by omega) hbw.size)
  have hnb : (Value.slice a3 n3 c3).ownBlock ≠ some w.heap.size := fun e => by have := hblk _ e; omega
  have hnR : (Value.slice a3 n3 c3).ownBlock ≠ some (w.heap.size + 1) := fun e => by have := hblk _ e; omega
  subst hn3
  have hw2 : w1.heap.size ≤ w2.heap.size := hK.size
  have O2 := Lib.hid ((OwR.start hR2).boxD #[.int .i64 ppl, .slice a3 xs.length c3] 44)
  have IX := Lib.hid (hI.below ((Below.refl w2.heap.size w2).alloc (Nat.le_refl _) (.cells #[.int .i64 ppl, .slice a3 xs.length c3] 44)))
  have HI := Lib.hid hI
  have HC := Lib.hid (And.intro d0 (And.intro d1 (And.intro g0 g1)))
  have HB := Lib.hid hbw2
  have hne1 : ¬ w2.heap.size = w.heap.size := by omega
  have hne2 : ¬ w.heap.size = w2.heap.size := by omega
  have hlR : w.heap.size + 1 < w2.heap.size := by omega
  have hmw : IntKind.i64.wrap (max ppl 1 + 1) = max ppl 1 + 1 := IntWalk.i64_in _ (by omega)
  have hc3 : xs.length ≤ 9223372036854775807 := by omega
  clear hR2 hK hI hblk c0 c1 f0 hbw hR hRR d0 d1 g0 g1 hbw2 hw2 hl
  go_wp2_with fail
  refine (specFirstFar_any ppl xs _ _ IX.out).mono ?_
  rintro e w4 ⟨v, rfl, hF, hb4⟩
  obtain ⟨va, vn, vc, rfl⟩ := hF.ints.slice
  have O4 := Lib.hid (O2.out.same (grown_below hb4))
  have F4 := Lib.hid (hF.deep (L' := w2.heap.size) (by simp))
  clear hF hb4 IX O2
  generalize hb5 : w2.heap.size = b5 at *
  have HB5 := Lib.hid hb5
  clear hb5
  cases hg : D.hasGiving ⟨ppl, xs⟩ with
  | true =>
    clear hg
    go_wp2_with fail
    refine (pick_any _ _ a1 len1 cap1 k' 2 _ O4.out.rd (by omega) (by omega) (by omega)).mono ?_
    rintro e w5 ⟨v5, rfl, h50, h51, hR5, hK5⟩
    have O5 := Lib.hid (O4.out.picked hR5 hK5)
    have F5 := Lib.hid (F4.out.grown hK5.grownBy hlR)
    clear hR5 hK5 h51 F4 O4
    rcases Bool.eq_false_or_eq_true (v5 == 0) with hz | hz
    · have _ := hz
      have e0 := (O5.out.keep.cell (p := ⟨w.heap.size, 0, none⟩) (by show w.heap.size < w2.heap.size; have := HB5.out; omega) (by show w.heap.size ≠ _; omega)).trans HC.out.1
      have e1 := (O5.out.keep.cell (p := ⟨w.heap.size, 1, none⟩) (by show w.heap.size < w2.heap.size; have := HB5.out; omega) (by show w.heap.size ≠ _; omega)).trans HC.out.2.1
      have q0 := (O5.out.keep.frozen (p := ⟨w.heap.size, 0, none⟩) (by show w.heap.size < w2.heap.size; have := HB5.out; omega) (by show w.heap.size ≠ _; omega)).trans HC.out.2.2.1
      have q1 := (O5.out.keep.frozen (p := ⟨w.heap.size, 1, none⟩) (by show w.heap.size < w2.heap.size; have := HB5.out; omega) (by show w.heap.size ≠ _; omega)).trans HC.out.2.2.2
      have x0 := cellsT_cell (O5.out.cells 0 (by simp) rfl) 0
      have x1 := cellsT_cell (O5.out.cells 0 (by simp) rfl) 1
      simp only [List.getElem?_toArray, List.getElem?_cons_zero, List.getElem?_cons_succ] at x0 x1
      have IC := Lib.hid (((ints_but HI.out hnR O5.out.keep).far hnb (grown_setCell _ w.heap.size 0 (.int .i64 ppl))).far hnb (grown_setCell _ w.heap.size 1 (.slice a3 xs.length c3)))
      have IW := Lib.hid ((((F5.out).grown (grown_setCell _ w.heap.size 0 (.int .i64 ppl)) (by have := HB5.out; omega)).grown (grown_setCell _ w.heap.size 1 (.slice a3 xs.length c3)) (by have := HB5.out; omega)).ints)
      have QX := Lib.hid (((HB.out.trans (O5.out.keep.below (by omega) HB.out.size)).setCell (p := ⟨w.heap.size, 0, none⟩) (Nat.le_refl _) (.int .i64 ppl)).setCell (p := ⟨w.heap.size, 1, none⟩) (Nat.le_refl _) (.slice a3 xs.length c3))
      have z0 := Lib.hid (two_cells (u := .int .i64 ppl) (v := .slice a3 xs.length c3) e0 e1)
      go_wp2_with fail
      refine bodyPost_ret (v := .tuple #[.agg #[.int .i64 ppl, .slice a3 xs.length c3], .slice va vn vc]) ?_ rfl ⟨_, _, _, D.first ⟨ppl, xs⟩, _, rfl, hl6, IC.out, IW.out, QX.out⟩
      have z1 := z0.out.1
      have z2 := z0.out.2
      simp [results, Try.results48, go_sem, z1, z2]
    · clear F5
      have OL := Lib.hid (O5.out.lit #[] 3 0 1 rfl (Nat.zero_le _))
      go_wp2_with fail
      go_loopw [6, 8] (fun v6 i wr => ∃ (j : Nat) (ws : List Int) (ca : Option Addr) (cc : Nat), j ≤ xs.length ∧ ws.length = j ∧ v6 = .slice ca j cc ∧ i = .int .i64 j ∧ OwR (w.heap.size + 1) (w.heap.size + 1) a1 len1 cap1 w2 ((k' + 1) + j) [rowT 3 1 (.slice ca j cc) j (ws.map (Value.int .i64)), cellsT b5 #[.int .i64 ppl, .slice a3 xs.length c3] 44] wr) (fun _ i _ => xs.length - (intOf i).toNat)
      case atStart => exact ⟨0, [], _, 0, Nat.zero_le _, rfl, rfl, rfl, OL.out⟩
      case round =>
        obtain ⟨j, ws, ca, cc, hj, hwl, rfl, rfl, hO⟩ := hrel
        obtain ⟨wo, rfl⟩ : ∃ wo, wo = wr := ⟨_, rfl⟩
        have O6 := Lib.hid hO
        have HWL := Lib.hid hwl
        have hws : ws.length = j := hwl
        clear hO hwl
        by_cases hlt : j < xs.length
        · have x0 := cellsT_cell (O6.out.cells 1 (by simp) rfl) 0
          have x1 := cellsT_cell (O6.out.cells 1 (by simp) rfl) 1
          simp only [List.getElem?_toArray, List.getElem?_cons_zero, List.getElem?_cons_succ] at x0 x1
          clear hws
          go_wp2_with fail
          refine (pick_any _ _ a1 len1 cap1 ((k' + 1) + j) (max ppl 1 + 1) _ O6.out.rd (by omega) (by omega) (by omega)).mono ?_
          rintro e w6 ⟨v6, rfl, h60, h61, hR6, hK6⟩
          have O7 := Lib.hid (O6.out.picked hR6 hK6)
          clear hR6 hK6 h61 x0 x1
          go_wp2_with (at_builtin; refine wpList_append_lies _ rfl _ _ 23 rfl 0 3 i0 (.int .i64 0) 1 8 Try.underlying23 HII.out.1 HII.out.2.1 HII.out.2.2.1 HII.out.2.2.2 rfl (by decide) (.slice ca j cc) j (ws.map (Value.int .i64)) rfl ((O7.out.alloc _).row 0 (by simp) rfl) ⟨w6.heap.size, 0, none⟩ 1 1 [.int .i64 v6] rfl rfl (one_newsD _ _ _) (by simp [Value.oneCell']) (by omega) (by unfold maxLen; omega) (by omega) (Nat.zero_le _) _ rfl ?_; intro g9 cp w9 hown hgrow hat hlt3; have O9 := Lib.hid (by have h := (O7.out.alloc (.cells #[.int .i64 v6] 3)).turn (i := 0) (by simp) rfl hgrow hown hat; simp only [List.set_cons_zero, snocD] at h; exact h); clear hown hgrow hat hlt3)
          go_roundw
          case rel => exact ⟨j + 1, ws ++ [v6], _, cp, by omega, by simp [HWL.out], rfl, by go_num, O9.out⟩
          case measure => simp [intOf]; omega
        · obtain rfl : j = xs.length := by omega
          clear hws
          have e0 := (O6.out.keep.cell (p := ⟨w.heap.size, 0, none⟩) (by show w.heap.size < w2.heap.size; have := HB5.out; omega) (by show w.heap.size ≠ _; omega)).trans HC.out.1
          have e1 := (O6.out.keep.cell (p := ⟨w.heap.size, 1, none⟩) (by show w.heap.size < w2.heap.size; have := HB5.out; omega) (by show w.heap.size ≠ _; omega)).trans HC.out.2.1
          have q0 := (O6.out.keep.frozen (p := ⟨w.heap.size, 0, none⟩) (by show w.heap.size < w2.heap.size; have := HB5.out; omega) (by show w.heap.size ≠ _; omega)).trans HC.out.2.2.1
          have q1 := (O6.out.keep.frozen (p := ⟨w.heap.size, 1, none⟩) (by show w.heap.size < w2.heap.size; have := HB5.out; omega) (by show w.heap.size ≠ _; omega)).trans HC.out.2.2.2
          have x0 := cellsT_cell (O6.out.cells 1 (by simp) rfl) 0
          have x1 := cellsT_cell (O6.out.cells 1 (by simp) rfl) 1
          simp only [List.getElem?_toArray, List.getElem?_cons_zero, List.getElem?_cons_succ] at x0 x1
          have IC := Lib.hid (((ints_but HI.out hnR O6.out.keep).far hnb (grown_setCell _ w.heap.size 0 (.int .i64 ppl))).far hnb (grown_setCell _ w.heap.size 1 (.slice a3 xs.length c3)))
          have IW := Lib.hid ((((far_row HWL.out (O6.out.row 0 (by simp) rfl) (fun k e => (O6.out.ap.ltAt 0 (by simp) k e).1)).grown (grown_setCell _ w.heap.size 0 (.int .i64 ppl)) (by have := HB5.out; omega)).grown (grown_setCell _ w.heap.size 1 (.slice a3 xs.length c3)) (by have := HB5.out; omega)).ints)
          have QX := Lib.hid (((HB.out.trans (O6.out.keep.below (by omega) HB.out.size)).setCell (p := ⟨w.heap.size, 0, none⟩) (Nat.le_refl _) (.int .i64 ppl)).setCell (p := ⟨w.heap.size, 1, none⟩) (Nat.le_refl _) (.slice a3 xs.length c3))
          have z0 := Lib.hid (two_cells (u := .int .i64 ppl) (v := .slice a3 xs.length c3) e0 e1)
          go_wp2_with fail
          refine bodyPost_ret (v := .tuple #[.agg #[.int .i64 ppl, .slice a3 xs.length c3], .slice ca xs.length cc]) ?_ rfl ⟨_, _, _, ws, _, rfl, hl6, IC.out, IW.out, QX.out⟩
          have z1 := z0.out.1
          have z2 := z0.out.2
          simp [results, Try.results48, go_sem, z1, z2]
  | false =>
    clear hg F4
    have OL := Lib.hid (O4.out.lit #[] 3 0 1 rfl (Nat.zero_le _))
    go_wp2_with fail
    go_loopw [6, 8] (fun v6 i wr => ∃ (j : Nat) (ws : List Int) (ca : Option Addr) (cc : Nat), j ≤ xs.length ∧ ws.length = j ∧ v6 = .slice ca j cc ∧ i = .int .i64 j ∧ OwR (w.heap.size + 1) (w.heap.size + 1) a1 len1 cap1 w2 (k' + j) [rowT 3 1 (.slice ca j cc) j (ws.map (Value.int .i64)), cellsT b5 #[.int .i64 ppl, .slice a3 xs.length c3] 44] wr) (fun _ i _ => xs.length - (intOf i).toNat)
    case atStart => exact ⟨0, [], _, 0, Nat.zero_le _, rfl, rfl, rfl, OL.out⟩
    case round =>
      obtain ⟨j, ws, ca, cc, hj, hwl, rfl, rfl, hO⟩ := hrel
      obtain ⟨wo, rfl⟩ : ∃ wo, wo = wr := ⟨_, rfl⟩
      have O6 := Lib.hid hO
      have HWL := Lib.hid hwl
      have hws : ws.length = j := hwl
      clear hO hwl
      by_cases hlt : j < xs.length
      · have x0 := cellsT_cell (O6.out.cells 1 (by simp) rfl) 0
        have x1 := cellsT_cell (O6.out.cells 1 (by simp) rfl) 1
        simp only [List.getElem?_toArray, List.getElem?_cons_zero, List.getElem?_cons_succ] at x0 x1
        clear hws
        go_wp2_with fail
        refine (pick_any _ _ a1 len1 cap1 (k' + j) (max ppl 1 + 1) _ O6.out.rd (by omega) (by omega) (by omega)).mono ?_
        rintro e w6 ⟨v6, rfl, h60, h61, hR6, hK6⟩
        have O7 := Lib.hid (O6.out.picked hR6 hK6)
        clear hR6 hK6 h61 x0 x1
        go_wp2_with (at_builtin; refine wpList_append_lies _ rfl _ _ 23 rfl 0 3 i0 (.int .i64 0) 1 8 Try.underlying23 HII.out.1 HII.out.2.1 HII.out.2.2.1 HII.out.2.2.2 rfl (by decide) (.slice ca j cc) j (ws.map (Value.int .i64)) rfl ((O7.out.alloc _).row 0 (by simp) rfl) ⟨w6.heap.size, 0, none⟩ 1 1 [.int .i64 v6] rfl rfl (one_newsD _ _ _) (by simp [Value.oneCell']) (by omega) (by unfold maxLen; omega) (by omega) (Nat.zero_le _) _ rfl ?_; intro g9 cp w9 hown hgrow hat hlt3; have O9 := Lib.hid (by have h := (O7.out.alloc (.cells #[.int .i64 v6] 3)).turn (i := 0) (by simp) rfl hgrow hown hat; simp only [List.set_cons_zero, snocD] at h; exact h); clear hown hgrow hat hlt3)
        go_roundw
        case rel => exact ⟨j + 1, ws ++ [v6], _, cp, by omega, by simp [HWL.out], rfl, by go_num, O9.out⟩
        case measure => simp [intOf]; omega
      · obtain rfl : j = xs.length := by omega
        clear hws
        have e0 := (O6.out.keep.cell (p := ⟨w.heap.size, 0, none⟩) (by show w.heap.size < w2.heap.size; have := HB5.out; omega) (by show w.heap.size ≠ _; omega)).trans HC.out.1
        have e1 := (O6.out.keep.cell (p := ⟨w.heap.size, 1, none⟩) (by show w.heap.size < w2.heap.size; have := HB5.out; omega) (by show w.heap.size ≠ _; omega)).trans HC.out.2.1
        have q0 := (O6.out.keep.frozen (p := ⟨w.heap.size, 0, none⟩) (by show w.heap.size < w2.heap.size; have := HB5.out; omega) (by show w.heap.size ≠ _; omega)).trans HC.out.2.2.1
        have q1 := (O6.out.keep.frozen (p := ⟨w.heap.size, 1, none⟩) (by show w.heap.size < w2.heap.size; have := HB5.out; omega) (by show w.heap.size ≠ _; omega)).trans HC.out.2.2.2
        have x0 := cellsT_cell (O6.out.cells 1 (by simp) rfl) 0
        have x1 := cellsT_cell (O6.out.cells 1 (by simp) rfl) 1
        simp only [List.getElem?_toArray, List.getElem?_cons_zero, List.getElem?_cons_succ] at x0 x1
        have IC := Lib.hid (((ints_but HI.out hnR O6.out.keep).far hnb (grown_setCell _ w.heap.size 0 (.int .i64 ppl))).far hnb (grown_setCell _ w.heap.size 1 (.slice a3 xs.length c3)))
        have IW := Lib.hid ((((far_row HWL.out (O6.out.row 0 (by simp) rfl) (fun k e => (O6.out.ap.ltAt 0 (by simp) k e).1)).grown (grown_setCell _ w.heap.size 0 (.int .i64 ppl)) (by have := HB5.out; omega)).grown (grown_setCell _ w.heap.size 1 (.slice a3 xs.length c3)) (by have := HB5.out; omega)).ints)
        have QX := Lib.hid (((HB.out.trans (O6.out.keep.below (by omega) HB.out.size)).setCell (p := ⟨w.heap.size, 0, none⟩) (Nat.le_refl _) (.int .i64 ppl)).setCell (p := ⟨w.heap.size, 1, none⟩) (Nat.le_refl _) (.slice a3 xs.length c3))
        have z0 := Lib.hid (two_cells (u := .int .i64 ppl) (v := .slice a3 xs.length c3) e0 e1)
        go_wp2_with fail
        refine bodyPost_ret (v := .tuple #[.agg #[.int .i64 ppl, .slice a3 xs.length c3], .slice ca xs.length cc]) ?_ rfl ⟨_, _, _, ws, _, rfl, hl6, IC.out, IW.out, QX.out⟩
        have z1 := z0.out.1
        have z2 := z0.out.2
        simp [results, Try.results48, go_sem, z1, z2]
end Go.Proofs.Ythihcnlbohhemaa
