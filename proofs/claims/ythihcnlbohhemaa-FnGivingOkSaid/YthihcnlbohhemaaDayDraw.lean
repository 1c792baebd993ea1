/- Days that are drawn. No condition. -/
import Derived.Test.YthihcnlbohhemaaOwRD
import Derived.Test.YthihcnlbohhemaaDayMove
namespace Go.Proofs.Ythihcnlbohhemaa
open Go.RowKit

theorem OwR.boxD {B R : Nat} {a : Option Addr} {len cap : Nat} {w0 : World} {k : Nat} {ts : List Thing} {w : World} (h : OwR B R a len cap w0 k ts w) (cs : Array Value) (t : TypeId) : OwR B R a len cap w0 k (cellsT w.heap.size cs t :: ts) (w.alloc (.cells cs t)) :=
  have h1 := h.alloc (.cells cs t)
  ⟨h1.rd, h1.hR, h1.keep, h.ap.more (World.grownBy_alloc w _ none) _ (heap_alloc_new w _) h.size (fun j e => by cases e; simp)⟩
theorem OwR.putD {B R : Nat} {a : Option Addr} {len cap : Nat} {w0 : World} {k : Nat} {ts : List Thing} {w : World} {i b : Nat} {cs : Array Value} {t : TypeId} (h : OwR B R a len cap w0 k ts w) (hi : i < ts.length) (he : ts[i] = cellsT b cs t) (j : Nat) (u : Value) :
    OwR B R a len cap w0 k (ts.set i (cellsT b (cs.setIfInBounds j u) t)) (w.setCell ⟨b, j, none⟩ u) := by
  have hlt := h.ap.ltAt i hi
  rw [he] at hlt
  have hb := hlt b rfl
  have hR := h.hR
  have hg := grown_setCell w b j u
  exact ⟨h.rd.grown hg (fun k e => by cases e; omega), h.hR, h.keep.grown hg (fun k e => by cases e; exact hb.1), h.ap.setAt i hi he h.size j u⟩
theorem OwR.cells {B R : Nat} {a : Option Addr} {len cap : Nat} {w0 : World} {k : Nat} {ts : List Thing} {w : World} (h : OwR B R a len cap w0 k ts w) (i : Nat) (hi : i < ts.length) {b : Nat} {cs : Array Value} {t : TypeId} (he : ts[i] = cellsT b cs t) : (cellsT b cs t).says w := by
  have := h.ap.at i hi
  rw [he] at this; exact this
theorem OwR.idle {B R : Nat} {a : Option Addr} {len cap : Nat} {w0 : World} {k : Nat} {ts : List Thing} {w : World} (h : OwR B R a len cap w0 k ts w) (e : TypeId) : OwR B R a len cap w0 k (rowT e 1 (.slice none 0 0) 0 [] :: ts) w := ⟨h.rd, h.hR, h.keep, h.ap.idle _ (World.ownsRow_nil _ _ _ _) rfl⟩

theorem zerosD : (madeCells (Value.int .i64 0).cells (6 * 1)).toList = (List.replicate 6 (0 : Int)).map (Value.int .i64) := by
  rw [Nat.mul_one, List.map_replicate]; exact toList_madeCells_one _ _
theorem OwR.newD {B R : Nat} {a : Option Addr} {len cap : Nat} {w0 : World} {k : Nat} {ts : List Thing} {w w' : World} {b n c : Nat} {e : TypeId} {xs : List Value} (h : OwR B R a len cap w0 k ts w) (hg : w.grownBy w' none) (ho : w'.ownsRow b e 1 (.slice (some ⟨w.heap.size, 0, none⟩) n c) n xs) : OwR B R a len cap w0 k (rowT e 1 (.slice (some ⟨w.heap.size, 0, none⟩) n c) n xs :: ts) w' :=
  have h1 := h.same hg
  ⟨h1.rd, h1.hR, h1.keep, h.ap.more hg _ (ownsRow_base ho (fun _ _ => Nat.zero_le _)) h.size (fun k e => by
    have hl := World.ownsRow.lt ho k e
    cases e
    exact ⟨Nat.le_refl _, hl.2⟩)⟩

theorem one_newsD (W : World) (x : Value) (t : TypeId) : ∀ j u, [x][j]? = some u → (W.alloc (.cells #[x] t)).cell? ((⟨W.heap.size, 0, none⟩ : Addr).add j) = some u := fun j u hj =>
  World.news_of_block (w := W.alloc (.cells #[x] t)) (B := W.heap.size) (cs := #[x]) (t := t) (fr := (0, 0)) (heap_alloc_new W _) j u hj
theorem snocD (xs : List Int) (x : Int) : xs.map (Value.int .i64) ++ [Value.int .i64 x] = (xs ++ [x]).map (Value.int .i64) := by simp
/-- what drawing a day leaves -/
def DayDrawn (B R : Nat) (a : Option Addr) (len cap k : Nat) (w : World) (e : Ending) (w' : World) : Prop :=
  ∃ (ppl : Int) (xs : List Int) (cv : Value), e = .returned (.agg #[.int .i64 ppl, cv]) ∧ (xs.length ≤ 6 ∧ -100 ≤ ppl ∧ ppl ≤ 100) ∧ IsInts w' cv xs ∧ (∀ j, cv.ownBlock = some j → w.heap.size ≤ j) ∧ ∃ k', k ≤ k' ∧ k' ≤ k + 60 ∧ RdAt B R a len cap k' w' ∧ KeepsBut R w w'

set_option maxHeartbeats 3200000 in
theorem l20Day_any (B R : Nat) (a : Option Addr) (len cap k : Nat) (n : Int) (w : World) (H : RdAt B R a len cap k w) (hk : k ≤ 900000) (hn : 1 ≤ n) (hn2 : n ≤ 1000) :
    Calls Try.prog 98 #[.pointer (some ⟨R, 0, none⟩), .int .i64 n] w (DayDrawn B R a len cap k w) := by
  obtain ⟨i0, hi, hz0, hz1, hz2⟩ := info_parts infoIntD
  have HII := Lib.hid (And.intro hi (And.intro hz0 (And.intro hz1 hz2)))
  clear hi hz0 hz1 hz2
  have O0 := Lib.hid ((OwR.start H).boxD #[.int .i64 0, .slice none 0 0] 44)
  clear H
  go_enter Try.func98, Try.ntmps98
  go_wp2_with fail
  refine (pick_any B R a len cap k 6 _ O0.out.rd (by omega) (by omega) (by omega)).mono ?_
  rintro e w1 ⟨v1, rfl, h10, h11, hR1, hK1⟩
  have O1 := Lib.hid (O0.out.picked hR1 hK1)
  have h12 := h11 (by omega)
  clear hR1 hK1 h11
  go_wp2_with fail
  refine (pick_any B R a len cap (k + 1) 9 _ O1.out.rd (by omega) (by omega) (by omega)).mono ?_
  rintro e w2 ⟨v2, rfl, h20, h21, hR2, hK2⟩
  have O2 := Lib.hid (O1.out.picked hR2 hK2)
  have h22 := h21 (by omega)
  obtain ⟨p, hp0, hp6⟩ : ∃ p : Nat, v1 + v2.tdiv 8 = (p : Int) ∧ p ≤ 6 := by
    have h8 : v2.tdiv 8 = v2 / 8 := Int.tdiv_eq_ediv_of_nonneg h20
    exact ⟨(v1 + v2.tdiv 8).toNat, by omega, by omega⟩
  have hpw : IntKind.i64.wrap (p : Int) = p := IntWalk.i64_in _ (by omega)
  have hb5 := ((O2.out.ap.ltAt 0 (by simp)) w.heap.size rfl).2
  have O3 := Lib.hid (O2.out.boxD #[.int .i64 p, .slice none 0 0] 44)
  have hp64 : p < 64 := by omega
  obtain ⟨Q, hQ, hQ1, hQ2⟩ : ∃ Q : Int, (2 : Int) ^ p = Q ∧ 1 ≤ Q ∧ Q ≤ 64 := by
    have : ∀ n : Nat, n ≤ 6 → (1 : Int) ≤ 2 ^ n ∧ (2 : Int) ^ n ≤ 64 := by decide
    exact ⟨_, rfl, (this p hp6).1, (this p hp6).2⟩
  have hQw : IntKind.i64.wrap Q = Q := IntWalk.i64_in _ (by omega)
  clear hR2 hK2 h21
  go_wp2_with fail
  refine (pick_any B R a len cap (k + 2) 6 _ O3.out.rd (by omega) (by omega) (by omega)).mono ?_
  rintro e w4 ⟨v3, rfl, h30, h31, hR4, hK4⟩
  have O4 := Lib.hid (((O3.out.picked hR4 hK4).idle 3))
  have h32 := h31 (by omega)
  generalize w2.heap.size = b5 at *
  have hne1 : ¬ b5 = w.heap.size := by omega
  have hne2 : ¬ w.heap.size = b5 := by omega
  clear hR4 hK4 h31 hb5
  go_wp2_with fail
  go_loopw [6] (fun i wr => ∃ (j : Int) (xs : List Int) (ca : Option Addr) (cc : Nat) (k' : Nat), i = .int .i64 j ∧ 0 ≤ j ∧ (xs.length : Int) + j ≤ 5 ∧ k ≤ k' ∧ k' ≤ k + 3 + 3 * xs.length ∧ OwR B R a len cap w k' [rowT 3 1 (.slice ca xs.length cc) xs.length (xs.map (Value.int .i64)), cellsT b5 #[.int .i64 p, .slice ca xs.length cc] 44, cellsT w.heap.size #[.int .i64 0, .slice none 0 0] 44] wr) (fun i _ => (intOf i).toNat)
  case atStart => exact ⟨v3, [], none, 0, k + 3, rfl, h30, by simp; omega, by omega, by simp, O4.out⟩
  case round =>
    obtain ⟨j, xs, ca, cc, k', rfl, hj0, hj5, hk1, hk2, hO⟩ := hrel
    have O5 := Lib.hid hO
    clear hO O4 O3
    by_cases hjp : 0 < j
    · have x0 := cellsT_cell (O5.out.cells 1 (by simp) rfl) 0
      simp only [List.getElem?_toArray, List.getElem?_cons_zero] at x0
      go_wp2_with fail
      clear x0
      refine (pick_any B R a len cap k' Q _ O5.out.rd (by omega) (by omega) (by omega)).mono ?_
      rintro e w6 ⟨v6, rfl, h60, h61, hR6, hK6⟩
      have O6 := Lib.hid (O5.out.picked hR6 hK6)
      clear hR6 hK6 h61
      go_wp2_with fail
      refine (pick_any B R a len cap (k' + 1) 3 _ O6.out.rd (by omega) (by omega) (by omega)).mono ?_
      rintro e w7 ⟨v7, rfl, h70, h71, hR7, hK7⟩
      have O7 := Lib.hid (O6.out.picked hR7 hK7)
      have h72 := h71 (by omega)
      clear hR7 hK7 h71
      rcases Bool.eq_false_or_eq_true (v7 == 0) with hz | hz
      · have x0 := cellsT_cell (O7.out.cells 1 (by simp) rfl) 0
        simp only [List.getElem?_toArray, List.getElem?_cons_zero] at x0
        go_wp2_with fail
        clear x0
        refine (pick_any B R a len cap (k' + 2) Q _ O7.out.rd (by omega) (by omega) (by omega)).mono ?_
        rintro e w8 ⟨v8, rfl, h80, h81, hR8, hK8⟩
        have O8 := Lib.hid (O7.out.picked hR8 hK8)
        clear hR8 hK8 h81 hz
        obtain ⟨av, hav⟩ : ∃ av, bits BinOp.and IntKind.i64 v6 v8 = av := ⟨_, rfl⟩
        have x1 := cellsT_cell (O8.out.cells 1 (by simp) rfl) 1
        have f1 := cellsT_frozen (O8.out.cells 1 (by simp) rfl) 1
        simp only [List.getElem?_toArray, List.getElem?_cons_zero, List.getElem?_cons_succ] at x1
        have hlt5 := ((O8.out.ap.ltAt 1 (by simp)) b5 rfl).2
        go_wp2_with (at_builtin; refine wpList_append_lies _ rfl _ _ 23 rfl 0 3 i0 (.int .i64 0) 1 8 Try.underlying23 HII.out.1 HII.out.2.1 HII.out.2.2.1 HII.out.2.2.2 rfl (by decide) (.slice ca xs.length cc) xs.length (xs.map (Value.int .i64)) rfl ((O8.out.alloc _).row 0 (by simp) rfl) ⟨w8.heap.size, 0, none⟩ 1 1 [.int .i64 av] rfl rfl (one_newsD _ _ _) (by simp [Value.oneCell']) (by omega) (by unfold maxLen; omega) (by omega) (Nat.zero_le _) _ rfl ?_; intro g9 cp w9 hown hgrow hat hlt3; have O9 := Lib.hid (by have h := (O8.out.alloc (.cells #[.int .i64 av] 3)).turn (i := 0) (by simp) rfl hgrow hown hat; simp only [List.set_cons_zero, snocD] at h; exact h); have y1 := cellsT_cell (O9.out.cells 1 (by simp) rfl) 1; have g1 := cellsT_frozen (O9.out.cells 1 (by simp) rfl) 1; simp only [List.getElem?_toArray, List.getElem?_cons_zero, List.getElem?_cons_succ] at y1; have O10 := Lib.hid (by have h := O9.out.putD (i := 1) (by simp) rfl 1 (.slice (some ⟨g9, 0, none⟩) (xs.length + 1) cp); simp at h; exact h); clear hown hgrow hat hlt3)
        go_roundw
        case rel => exact ⟨j - 1, xs ++ [av], some ⟨g9, 0, none⟩, cp, k' + 3, by go_num, by omega, by simp; omega, by omega, by simp; omega, by simpa using O10.out⟩
        case measure => simp [intOf]; omega
      · generalize hav : v6 = av at *
        clear hav
        have O8 := O7
        have x1 := cellsT_cell (O8.out.cells 1 (by simp) rfl) 1
        have f1 := cellsT_frozen (O8.out.cells 1 (by simp) rfl) 1
        simp only [List.getElem?_toArray, List.getElem?_cons_zero, List.getElem?_cons_succ] at x1
        have hlt5 := ((O8.out.ap.ltAt 1 (by simp)) b5 rfl).2
        go_wp2_with (at_builtin; refine wpList_append_lies _ rfl _ _ 23 rfl 0 3 i0 (.int .i64 0) 1 8 Try.underlying23 HII.out.1 HII.out.2.1 HII.out.2.2.1 HII.out.2.2.2 rfl (by decide) (.slice ca xs.length cc) xs.length (xs.map (Value.int .i64)) rfl ((O8.out.alloc _).row 0 (by simp) rfl) ⟨w7.heap.size, 0, none⟩ 1 1 [.int .i64 av] rfl rfl (one_newsD _ _ _) (by simp [Value.oneCell']) (by omega) (by unfold maxLen; omega) (by omega) (Nat.zero_le _) _ rfl ?_; intro g9 cp w9 hown hgrow hat hlt3; have O9 := Lib.hid (by have h := (O8.out.alloc (.cells #[.int .i64 av] 3)).turn (i := 0) (by simp) rfl hgrow hown hat; simp only [List.set_cons_zero, snocD] at h; exact h); have y1 := cellsT_cell (O9.out.cells 1 (by simp) rfl) 1; have g1 := cellsT_frozen (O9.out.cells 1 (by simp) rfl) 1; simp only [List.getElem?_toArray, List.getElem?_cons_zero, List.getElem?_cons_succ] at y1; have O10 := Lib.hid (by have h := O9.out.putD (i := 1) (by simp) rfl 1 (.slice (some ⟨g9, 0, none⟩) (xs.length + 1) cp); simp at h; exact h); clear hown hgrow hat hlt3)
        go_roundw
        case rel => exact ⟨j - 1, xs ++ [av], some ⟨g9, 0, none⟩, cp, k' + 2, by go_num, by omega, by simp; omega, by omega, by simp; omega, by simpa using O10.out⟩
        case measure => simp [intOf]; omega
    · have hj : j = 0 := by omega
      have hxl : xs.length ≤ 5 := by omega
      clear hj
      go_wp2_with fail
      refine (odd_any B R a len cap k' n _ O5.out.rd (by omega) hn (by omega)).mono ?_
      rintro e w6 ⟨b, rfl, hR6, hK6⟩
      have O6 := Lib.hid (O5.out.picked hR6 hK6)
      clear hR6 hK6
      have hxl6 : xs.length ≤ 6 := by omega
      cases b with
      | false =>
        have r0 := cellsT_cell (O6.out.cells 1 (by simp) rfl) 0
        have r1 := cellsT_cell (O6.out.cells 1 (by simp) rfl) 1
        have s0 := cellsT_cell (O6.out.cells 2 (by simp) rfl) 0
        have s1 := cellsT_cell (O6.out.cells 2 (by simp) rfl) 1
        simp only [List.getElem?_toArray, List.getElem?_cons_zero, List.getElem?_cons_succ] at r0 r1 s0 s1
        have g0 := cellsT_frozen (O6.out.cells 2 (by simp) rfl) 0
        have g1 := cellsT_frozen (O6.out.cells 2 (by simp) rfl) 1
        go_wp2_with fail
        have hP := (O6.out.putD (i := 2) (by simp) rfl 0 (.int .i64 p)).putD (i := 2) (by simp) rfl 1 (.slice ca xs.length cc)
        clear r0 r1 s0 s1 g0 g1
        generalize hWE : ((World.setCell _ ⟨w.heap.size, 0, none⟩ (.int .i64 p)).setCell ⟨w.heap.size, 1, none⟩ (.slice ca xs.length cc)) = WE at *
        have z0 := cellsT_cell (hP.cells 2 (by simp) rfl) 0
        have z1 := cellsT_cell (hP.cells 2 (by simp) rfl) 1
        simp at z0 z1
        refine bodyPost_ret (v := .agg #[.int .i64 p, .slice ca xs.length cc]) ?_ rfl ⟨_, _, _, rfl, ⟨by assumption, by omega, by omega⟩, IsInts.of_ownsN rfl (hP.row 0 (by simp) rfl), (fun j e => (hP.ap.ltAt 0 (by simp) j e).1), _, (by omega), (by omega), hP.rd, hP.keep⟩
        simp [results, Try.results98, go_sem, z0, z1]
      | true =>
        go_wp2_with fail
        refine (pick_any B R a len cap (k' + 1) 3 _ O6.out.rd (by omega) (by omega) (by omega)).mono ?_
        rintro e w7 ⟨v7, rfl, h70, h71, hR7, hK7⟩
        have O7 := Lib.hid (O6.out.picked hR7 hK7)
        have h72 := h71 (by omega)
        clear hR7 hK7 h71
        rcases (show v7 = 0 ∨ v7 = 1 ∨ v7 = 2 by omega) with rfl | rfl | rfl
        · have OL := Lib.hid (O7.out.lit #[.int .i64 (-1), .int .i64 7] 3 2 1 rfl (by unfold maxLen; omega))
          go_wp2_with fail
          refine (pick_any B R a len cap (k' + 2) 2 _ OL.out.rd (by omega) (by omega) (by omega)).mono ?_
          rintro e w8 ⟨v8, rfl, h80, h81, hR8, hK8⟩
          have O8 := Lib.hid (OL.out.picked hR8 hK8)
          have h82 := h81 (by omega)
          clear hR8 hK8 h81 OL
          obtain ⟨z, hz1, hz2, hz⟩ : ∃ z : Int, -100 ≤ z ∧ z ≤ 100 ∧ w8.cell? ⟨w7.heap.size, v8.toNat, none⟩ = some (.int .i64 z) := by
            have hc := (O8.out.row 0 (by simp) rfl).cellAt v8.toNat (by omega)
            rcases (show v8 = 0 ∨ v8 = 1 by omega) with rfl | rfl
            · exact ⟨-1, by omega, by omega, hc⟩
            · exact ⟨7, by omega, by omega, hc⟩
          have r0 := cellsT_cell (O8.out.cells 2 (by simp) rfl) 0
          have r1 := cellsT_cell (O8.out.cells 2 (by simp) rfl) 1
          have s0 := cellsT_cell (O8.out.cells 3 (by simp) rfl) 0
          have s1 := cellsT_cell (O8.out.cells 3 (by simp) rfl) 1
          simp only [List.getElem?_toArray, List.getElem?_cons_zero, List.getElem?_cons_succ] at r0 r1 s0 s1
          have fb0 := cellsT_frozen (O8.out.cells 2 (by simp) rfl) 0
          have fb1 := cellsT_frozen (O8.out.cells 2 (by simp) rfl) 1
          have g0 := cellsT_frozen (O8.out.cells 3 (by simp) rfl) 0
          have g1 := cellsT_frozen (O8.out.cells 3 (by simp) rfl) 1
          have O9 := Lib.hid (by have h := (O8.out.putD (i := 2) (by simp) rfl 0 (.int .i64 z)).sub (List.Sublist.cons _ (List.Sublist.refl _)); simp at h; exact h)
          go_wp2_with fail
          have hP := (O9.out.putD (i := 2) (by simp) rfl 0 (.int .i64 z)).putD (i := 2) (by simp) rfl 1 (.slice ca xs.length cc)
          clear r0 r1 s0 s1 g0 g1 fb0 fb1
          generalize hWE : ((World.setCell _ ⟨w.heap.size, 0, none⟩ (.int .i64 z)).setCell ⟨w.heap.size, 1, none⟩ (.slice ca xs.length cc)) = WE at *
          have z0 := cellsT_cell (hP.cells 2 (by simp) rfl) 0
          have z1 := cellsT_cell (hP.cells 2 (by simp) rfl) 1
          simp at z0 z1
          refine bodyPost_ret (v := .agg #[.int .i64 z, .slice ca xs.length cc]) ?_ rfl ⟨_, xs, _, rfl, by omega, IsInts.of_ownsN (by simp) (hP.row 0 (by simp) rfl), (fun j e => (hP.ap.ltAt 0 (by simp) j e).1), _, (by omega), (by omega), hP.rd, hP.keep⟩
          simp [results, Try.results98, go_sem, z0, z1]
        · have O8 := O7
          have hlt5 := ((O8.out.ap.ltAt 1 (by simp)) b5 rfl).2
          have hx7 : xs.length + 1 ≤ 6 := by omega
          have r0 := cellsT_cell (O7.out.cells 1 (by simp) rfl) 0
          have r1 := cellsT_cell (O7.out.cells 1 (by simp) rfl) 1
          have s0 := cellsT_cell (O7.out.cells 2 (by simp) rfl) 0
          have s1 := cellsT_cell (O7.out.cells 2 (by simp) rfl) 1
          simp only [List.getElem?_toArray, List.getElem?_cons_zero, List.getElem?_cons_succ] at r0 r1 s0 s1
          have fb0 := cellsT_frozen (O7.out.cells 1 (by simp) rfl) 0
          have fb1 := cellsT_frozen (O7.out.cells 1 (by simp) rfl) 1
          have g0 := cellsT_frozen (O7.out.cells 2 (by simp) rfl) 0
          have g1 := cellsT_frozen (O7.out.cells 2 (by simp) rfl) 1
          clear hxl6
          go_wp2_with (at_builtin; refine wpList_append_lies _ rfl _ _ 23 rfl 0 3 i0 (.int .i64 0) 1 8 Try.underlying23 HII.out.1 HII.out.2.1 HII.out.2.2.1 HII.out.2.2.2 rfl (by decide) (.slice ca xs.length cc) xs.length (xs.map (Value.int .i64)) rfl ((O8.out.alloc _).row 0 (by simp) rfl) ⟨w7.heap.size, 0, none⟩ 1 1 [.int .i64 64] rfl rfl (one_newsD _ _ _) (by simp [Value.oneCell']) (by omega) (by unfold maxLen; omega) (by omega) (Nat.zero_le _) _ rfl ?_; intro g9 cp w9 hown hgrow hat hlt3; have O9 := Lib.hid (by have h := (O8.out.alloc (.cells #[.int .i64 64] 3)).turn (i := 0) (by simp) rfl hgrow hown hat; simp only [List.set_cons_zero, snocD] at h; exact h); clear r0 r1 s0 s1 fb0 fb1 g0 g1; have r0 := cellsT_cell (O9.out.cells 1 (by simp) rfl) 0; have r1 := cellsT_cell (O9.out.cells 1 (by simp) rfl) 1; have s0 := cellsT_cell (O9.out.cells 2 (by simp) rfl) 0; have s1 := cellsT_cell (O9.out.cells 2 (by simp) rfl) 1; simp only [List.getElem?_toArray, List.getElem?_cons_zero, List.getElem?_cons_succ] at r0 r1 s0 s1; have fb0 := cellsT_frozen (O9.out.cells 1 (by simp) rfl) 0; have fb1 := cellsT_frozen (O9.out.cells 1 (by simp) rfl) 1; have g0 := cellsT_frozen (O9.out.cells 2 (by simp) rfl) 0; have g1 := cellsT_frozen (O9.out.cells 2 (by simp) rfl) 1; have O10 := Lib.hid (by have h := O9.out.putD (i := 1) (by simp) rfl 1 (.slice (some ⟨g9, 0, none⟩) (xs.length + 1) cp); simp at h; exact h); clear hown hgrow hat hlt3)
          have hP := (O10.out.putD (i := 2) (by simp) rfl 0 (.int .i64 p)).putD (i := 2) (by simp) rfl 1 (.slice (some ⟨g9, 0, none⟩) (xs.length + 1) cp)
          clear r0 r1 s0 s1 g0 g1 fb0 fb1
          generalize hWE : ((World.setCell _ ⟨w.heap.size, 0, none⟩ (.int .i64 p)).setCell ⟨w.heap.size, 1, none⟩ (.slice (some ⟨g9, 0, none⟩) (xs.length + 1) cp)) = WE at *
          have z0 := cellsT_cell (hP.cells 2 (by simp) rfl) 0
          have z1 := cellsT_cell (hP.cells 2 (by simp) rfl) 1
          simp at z0 z1
          refine bodyPost_ret (v := .agg #[.int .i64 p, .slice (some ⟨g9, 0, none⟩) (xs.length + 1) cp]) ?_ rfl ⟨_, xs ++ [64], _, rfl, ⟨by simp; omega, by omega, by omega⟩, IsInts.of_ownsN (m := xs.length + 1) (by simp) (by have h := hP.row 0 (by simp) rfl; simpa using h), (fun j e => (hP.ap.ltAt 0 (by simp) j e).1), _, (by omega), (by omega), hP.rd, hP.keep⟩
          simp [results, Try.results98, go_sem, z0, z1]
        · have hlt5 := ((O7.out.ap.ltAt 1 (by simp)) b5 rfl).2
          clear hxl6
          go_wp2_with (at_make; refine wpList_make_full _ rfl _ _ 23 rfl 0 3 i0 (.int .i64 0) 1 Try.underlying23 HII.out.1 HII.out.2.1 HII.out.2.2.1 .i64 .i64 _ _ 6 rfl rfl rfl rfl (by rw [HII.out.2.2.2]; omega) (by unfold maxLen; omega) (Nat.zero_le _) ?_; intro w9 hown9 hgrow9; have OM := Lib.hid (O7.out.newD hgrow9 (by have h := hown9; rw [zerosD] at h; exact h)); have r0 := cellsT_cell (OM.out.cells 2 (by simp) rfl) 0; have r1 := cellsT_cell (OM.out.cells 2 (by simp) rfl) 1; have s0 := cellsT_cell (OM.out.cells 3 (by simp) rfl) 0; have s1 := cellsT_cell (OM.out.cells 3 (by simp) rfl) 1; simp only [List.getElem?_toArray, List.getElem?_cons_zero, List.getElem?_cons_succ] at r0 r1 s0 s1; have fb0 := cellsT_frozen (OM.out.cells 2 (by simp) rfl) 0; have fb1 := cellsT_frozen (OM.out.cells 2 (by simp) rfl) 1; have g0 := cellsT_frozen (OM.out.cells 3 (by simp) rfl) 0; have g1 := cellsT_frozen (OM.out.cells 3 (by simp) rfl) 1; have O9 := Lib.hid (by have h := (OM.out.putD (i := 2) (by simp) rfl 1 (.slice (some ⟨w7.heap.size, 0, none⟩) 6 6)).sub (List.Sublist.cons_cons _ (List.Sublist.cons _ (List.Sublist.refl _))); simp only [List.set_cons_zero] at h; exact h); clear hown9 hgrow9)
          have hP := (O9.out.putD (i := 2) (by simp) rfl 0 (.int .i64 p)).putD (i := 2) (by simp) rfl 1 (.slice (some ⟨w7.heap.size, 0, none⟩) 6 6)
          clear r0 r1 s0 s1 g0 g1 fb0 fb1
          generalize hWE : ((World.setCell _ ⟨w.heap.size, 0, none⟩ (.int .i64 p)).setCell ⟨w.heap.size, 1, none⟩ (.slice (some ⟨w7.heap.size, 0, none⟩) 6 6)) = WE at *
          have z0 := cellsT_cell (hP.cells 2 (by simp) rfl) 0
          have z1 := cellsT_cell (hP.cells 2 (by simp) rfl) 1
          simp at z0 z1
          refine bodyPost_ret (v := .agg #[.int .i64 p, .slice (some ⟨w7.heap.size, 0, none⟩) 6 6]) ?_ rfl ⟨_, List.replicate 6 0, _, rfl, ⟨by simp, by omega, by omega⟩, IsInts.of_ownsN (by simp) (hP.row 0 (by simp) rfl), (fun j e => (hP.ap.ltAt 0 (by simp) j e).1), _, (by omega), (by omega), hP.rd, hP.keep⟩
          simp [results, Try.results98, go_sem, z0, z1]
end Go.Proofs.Ythihcnlbohhemaa
