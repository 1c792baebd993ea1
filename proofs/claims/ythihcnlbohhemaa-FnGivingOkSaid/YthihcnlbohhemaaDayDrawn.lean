/- The drawing functions of days. No condition. -/
import Derived.Test.YthihcnlbohhemaaDayDraw
namespace Go.Proofs.Ythihcnlbohhemaa
open Go.RowKit

theorem IsRow.belowD {k : IntKind} {w w' : World} {a : Option Addr} {len cap : Nat} {zs : List Int} (h : IsRow k w a len cap zs) (hb : Below w.heap.size w w') : IsRow k w' a len cap zs := by
  rcases h with h | ⟨x, h1, h2, h3, h4, h5, h6⟩
  · exact .inl h
  · exact .inr ⟨x, h1, h2, h3, h4, fun i hi => (hb.cell (World.block_lt_of_cell? w _ (h5 i hi))).trans (h5 i hi), h6⟩
theorem rowD_len {w : World} {a : Option Addr} {len cap : Nat} {zs : List Int} (h : IsRow .u8 w a len cap zs) : len ≤ 9223372036854775807 := by
  rcases h with ⟨_, rfl, _⟩ | ⟨x, _, h1, h2, _⟩
  · exact Nat.zero_le _
  · exact Nat.le_trans h1 h2
theorem aliveD_any (w : World) : Calls Try.prog 23 #[] w fun e w' => e = .returned (.bool true) ∧ w = w' := by
  have h1 : wordOk ⟨#[114, 100, 110]⟩ = true := by decide +kernel
  have h2 : wordOk ⟨#[120]⟩ = false := by decide +kernel
  go_enter Try.func23, Try.ntmps23
  go_wp2_with (go_at_call 73; refine (implWordOk_any _ _ (by decide)).mono ?_; rintro e w' ⟨rfl, rfl⟩)
  go_ret
  exact ⟨rfl, rfl⟩
theorem IsInts.far {w w' : World} {v : Value} {xs : List Int} {b : Nat} (h : IsInts w v xs) (hn : v.ownBlock ≠ some b) (hg : w.grownBy w' (some b)) : IsInts w' v xs := by
  obtain ⟨a, cap, rfl, h1, h2, h3⟩ := h
  refine ⟨a, cap, rfl, h1, h2, h3.imp id ?_⟩
  rintro ⟨g, off, rfl, hgl, hc⟩
  exact ⟨g, off, rfl, Nat.lt_of_lt_of_le hgl hg.size, fun k hk => (hg.cell_far ⟨g, off + k, none⟩ hgl (fun e => hn e)).trans (hc k hk)⟩
/-- a day that was drawn -/
def DayGot (w : World) (e : Ending) (w' : World) : Prop :=
  ∃ (ppl : Int) (xs : List Int) (cv : Value), e = .returned (.agg #[.int .i64 ppl, cv]) ∧ xs.length ≤ 6 ∧ IsInts w' cv xs ∧ Below w.heap.size w w'

set_option maxHeartbeats 800000 in
theorem drawDayOk_any (a : Option Addr) (len cap : Nat) (zs : List Int) (w : World) (h : IsRow .u8 w a len cap zs) :
    Calls Try.prog 38 #[.slice a len cap] w (DayGot w) := by
  have H0 := h.belowD ((Below.refl w.heap.size w).alloc (Nat.le_refl _) (.cells #[.int .i64 0, .slice none 0 0] 44))
  have HO := Lib.hid (l20Open_any a len cap zs _ H0)
  clear H0 h
  go_enter Try.func38, Try.ntmps38
  go_wp2_with fail
  refine HO.out.mono ?_
  clear HO
  rintro e w1 ⟨a1, len1, cap1, rfl, hR, hb1⟩
  simp only [World.size_alloc] at hR hb1
  have hRR := hR.hR
  have c0 : w1.cell? ⟨w.heap.size, 0, none⟩ = some (.int .i64 0) := (hb1.cell (p := ⟨w.heap.size, 0, none⟩) (Nat.lt_succ_self _)).trans (World.cell?_alloc_new w _ _ 0)
  have c1 : w1.cell? ⟨w.heap.size, 1, none⟩ = some (.slice none 0 0) := (hb1.cell (p := ⟨w.heap.size, 1, none⟩) (Nat.lt_succ_self _)).trans (World.cell?_alloc_new w _ _ 1)
  have f0 : ∀ i, w1.frozen? ⟨w.heap.size, i, none⟩ = false := fun i => (hb1.frozen (p := ⟨w.heap.size, i, none⟩) (Nat.lt_succ_self _)).trans (World.frozen?_alloc_new w _ _ i)
  have hbw : Below w.heap.size w w1 := ((Below.refl w.heap.size w).alloc (Nat.le_refl _) _).trans (hb1.mono (Nat.le_succ _))
  clear hb1
  go_wp2_with fail
  refine (l20Day_any _ _ a1 len1 cap1 0 2 w1 hR (by omega) (by omega) (by omega)).mono ?_
  rintro e w2 ⟨ppl, xs, cv, rfl, hl, hI, hblk, k', -, -, -, hK⟩
  obtain ⟨a3, n3, c3, rfl⟩ := hI.slice
  have d0 := (hK.cell (p := ⟨w.heap.size, 0, none⟩) (by show w.heap.size < _; omega) (by show w.heap.size ≠ _; omega)).trans c0
  have d1 := (hK.cell (p := ⟨w.heap.size, 1, none⟩) (by show w.heap.size < _; omega) (by show w.heap.size ≠ _; omega)).trans c1
  have g0 := (hK.frozen (p := ⟨w.heap.size, 0, none⟩) (by show w.heap.size < _; omega) (by show w.heap.size ≠ _; omega)).trans (f0 0)
  have g1 := (hK.frozen (p := ⟨w.heap.size, 1, none⟩) (by show w.heap.size < _; omega) (by show w.heap.size ≠ _; omega)).trans (f0 1)
  have hbw2 : Below w.heap.size w w2 := hbw.trans (hK.below (by omega) hbw.size)
  have hnb : (Value.slice a3 n3 c3).ownBlock ≠ some w.heap.size := fun e => by have := hblk _ e; omega
  have IX := Lib.hid (IsInts.far (IsInts.far hI hnb (grown_setCell w2 w.heap.size 0 (.int .i64 ppl))) hnb (grown_setCell _ w.heap.size 1 (.slice a3 n3 c3)))
  have QX := Lib.hid ((hbw2.setCell (p := ⟨w.heap.size, 0, none⟩) (Nat.le_refl _) (.int .i64 ppl)).setCell (p := ⟨w.heap.size, 1, none⟩) (Nat.le_refl _) (.slice a3 n3 c3))
  have z0 : ((w2.setCell ⟨w.heap.size, 0, none⟩ (.int .i64 ppl)).setCell ⟨w.heap.size, 1, none⟩ (.slice a3 n3 c3)).cell? ⟨w.heap.size, 0, none⟩ = some (.int .i64 ppl) := by
    rw [World.cell?_setCell_other _ _ _ _ (by simp)]; exact World.cell?_setCell_same' _ _ _ (by rw [d0]; rfl)
  have z1 : ((w2.setCell ⟨w.heap.size, 0, none⟩ (.int .i64 ppl)).setCell ⟨w.heap.size, 1, none⟩ (.slice a3 n3 c3)).cell? ⟨w.heap.size, 1, none⟩ = some (.slice a3 n3 c3) :=
    World.cell?_setCell_same' _ _ _ (by rw [World.cell?_setCell_other _ _ _ _ (by simp), d1]; rfl)
  have Z0 := Lib.hid z0
  have Z1 := Lib.hid z1
  clear hI hblk hK c0 c1 f0 hbw hbw2 hnb hR hRR z0 z1
  go_wp2_with fail
  refine bodyPost_ret (v := .agg #[.int .i64 ppl, .slice a3 n3 c3]) ?_ rfl ⟨_, _, _, rfl, hl.1, IX.out, QX.out⟩
  have z0 := Z0.out
  have z1 := Z1.out
  simp [results, Try.results38, go_sem, z0, z1]

set_option maxHeartbeats 800000 in
theorem drawMostDone_any (a : Option Addr) (len cap : Nat) (zs : List Int) (w : World) (h : IsRow .u8 w a len cap zs) :
    Calls Try.prog 41 #[.slice a len cap] w (DayGot w) := by
  have H0 := h.belowD ((Below.refl w.heap.size w).alloc (Nat.le_refl _) (.cells #[.int .i64 0, .slice none 0 0] 44))
  have HO := Lib.hid (l20Open_any a len cap zs _ H0)
  clear H0 h
  go_enter Try.func41, Try.ntmps41
  go_wp2_with fail
  refine HO.out.mono ?_
  clear HO
  rintro e w1 ⟨a1, len1, cap1, rfl, hR, hb1⟩
  simp only [World.size_alloc] at hR hb1
  have hRR := hR.hR
  have c0 : w1.cell? ⟨w.heap.size, 0, none⟩ = some (.int .i64 0) := (hb1.cell (p := ⟨w.heap.size, 0, none⟩) (Nat.lt_succ_self _)).trans (World.cell?_alloc_new w _ _ 0)
  have c1 : w1.cell? ⟨w.heap.size, 1, none⟩ = some (.slice none 0 0) := (hb1.cell (p := ⟨w.heap.size, 1, none⟩) (Nat.lt_succ_self _)).trans (World.cell?_alloc_new w _ _ 1)
  have f0 : ∀ i, w1.frozen? ⟨w.heap.size, i, none⟩ = false := fun i => (hb1.frozen (p := ⟨w.heap.size, i, none⟩) (Nat.lt_succ_self _)).trans (World.frozen?_alloc_new w _ _ i)
  have hbw : Below w.heap.size w w1 := ((Below.refl w.heap.size w).alloc (Nat.le_refl _) _).trans (hb1.mono (Nat.le_succ _))
  clear hb1
  go_wp2_with fail
  refine (l20Day_any _ _ a1 len1 cap1 0 9 w1 hR (by omega) (by omega) (by omega)).mono ?_
  rintro e w2 ⟨ppl, xs, cv, rfl, hl, hI, hblk, k', -, -, -, hK⟩
  obtain ⟨a3, n3, c3, rfl⟩ := hI.slice
  have d0 := (hK.cell (p := ⟨w.heap.size, 0, none⟩) (by show w.heap.size < _; omega) (by show w.heap.size ≠ _; omega)).trans c0
  have d1 := (hK.cell (p := ⟨w.heap.size, 1, none⟩) (by show w.heap.size < _; omega) (by show w.heap.size ≠ _; omega)).trans c1
  have g0 := (hK.frozen (p := ⟨w.heap.size, 0, none⟩) (by show w.heap.size < _; omega) (by show w.heap.size ≠ _; omega)).trans (f0 0)
  have g1 := (hK.frozen (p := ⟨w.heap.size, 1, none⟩) (by show w.heap.size < _; omega) (by show w.heap.size ≠ _; omega)).trans (f0 1)
  have hbw2 : Below w.heap.size w w2 := hbw.trans (hK.below (by omega) hbw.size)
  have hnb : (Value.slice a3 n3 c3).ownBlock ≠ some w.heap.size := fun e => by have := hblk _ e; omega
  have IX := Lib.hid (IsInts.far (IsInts.far hI hnb (grown_setCell w2 w.heap.size 0 (.int .i64 ppl))) hnb (grown_setCell _ w.heap.size 1 (.slice a3 n3 c3)))
  have QX := Lib.hid ((hbw2.setCell (p := ⟨w.heap.size, 0, none⟩) (Nat.le_refl _) (.int .i64 ppl)).setCell (p := ⟨w.heap.size, 1, none⟩) (Nat.le_refl _) (.slice a3 n3 c3))
  have z0 : ((w2.setCell ⟨w.heap.size, 0, none⟩ (.int .i64 ppl)).setCell ⟨w.heap.size, 1, none⟩ (.slice a3 n3 c3)).cell? ⟨w.heap.size, 0, none⟩ = some (.int .i64 ppl) := by
    rw [World.cell?_setCell_other _ _ _ _ (by simp)]; exact World.cell?_setCell_same' _ _ _ (by rw [d0]; rfl)
  have z1 : ((w2.setCell ⟨w.heap.size, 0, none⟩ (.int .i64 ppl)).setCell ⟨w.heap.size, 1, none⟩ (.slice a3 n3 c3)).cell? ⟨w.heap.size, 1, none⟩ = some (.slice a3 n3 c3) :=
    World.cell?_setCell_same' _ _ _ (by rw [World.cell?_setCell_other _ _ _ _ (by simp), d1]; rfl)
  have Z0 := Lib.hid z0
  have Z1 := Lib.hid z1
  clear hI hblk hK c0 c1 f0 hbw hbw2 hnb hR hRR z0 z1
  go_wp2_with fail
  refine bodyPost_ret (v := .agg #[.int .i64 ppl, .slice a3 n3 c3]) ?_ rfl ⟨_, _, _, rfl, hl.1, IX.out, QX.out⟩
  have z0 := Z0.out
  have z1 := Z1.out
  simp [results, Try.results41, go_sem, z0, z1]

set_option maxHeartbeats 800000 in
theorem drawShortOf_any (a : Option Addr) (len cap : Nat) (zs : List Int) (w : World) (h : IsRow .u8 w a len cap zs) :
    Calls Try.prog 45 #[.slice a len cap] w (DayGot w) := by
  have H0 := h.belowD ((Below.refl w.heap.size w).alloc (Nat.le_refl _) (.cells #[.int .i64 0, .slice none 0 0] 44))
  have HO := Lib.hid (l20Open_any a len cap zs _ H0)
  clear H0 h
  go_enter Try.func45, Try.ntmps45
  go_wp2_with fail
  refine HO.out.mono ?_
  clear HO
  rintro e w1 ⟨a1, len1, cap1, rfl, hR, hb1⟩
  simp only [World.size_alloc] at hR hb1
  have hRR := hR.hR
  have c0 : w1.cell? ⟨w.heap.size, 0, none⟩ = some (.int .i64 0) := (hb1.cell (p := ⟨w.heap.size, 0, none⟩) (Nat.lt_succ_self _)).trans (World.cell?_alloc_new w _ _ 0)
  have c1 : w1.cell? ⟨w.heap.size, 1, none⟩ = some (.slice none 0 0) := (hb1.cell (p := ⟨w.heap.size, 1, none⟩) (Nat.lt_succ_self _)).trans (World.cell?_alloc_new w _ _ 1)
  have f0 : ∀ i, w1.frozen? ⟨w.heap.size, i, none⟩ = false := fun i => (hb1.frozen (p := ⟨w.heap.size, i, none⟩) (Nat.lt_succ_self _)).trans (World.frozen?_alloc_new w _ _ i)
  have hbw : Below w.heap.size w w1 := ((Below.refl w.heap.size w).alloc (Nat.le_refl _) _).trans (hb1.mono (Nat.le_succ _))
  clear hb1
  go_wp2_with fail
  refine (l20Day_any _ _ a1 len1 cap1 0 9 w1 hR (by omega) (by omega) (by omega)).mono ?_
  rintro e w2 ⟨ppl, xs, cv, rfl, hl, hI, hblk, k', -, -, -, hK⟩
  obtain ⟨a3, n3, c3, rfl⟩ := hI.slice
  have d0 := (hK.cell (p := ⟨w.heap.size, 0, none⟩) (by show w.heap.size < _; omega) (by show w.heap.size ≠ _; omega)).trans c0
  have d1 := (hK.cell (p := ⟨w.heap.size, 1, none⟩) (by show w.heap.size < _; omega) (by show w.heap.size ≠ _; omega)).trans c1
  have g0 := (hK.frozen (p := ⟨w.heap.size, 0, none⟩) (by show w.heap.size < _; omega) (by show w.heap.size ≠ _; omega)).trans (f0 0)
  have g1 := (hK.frozen (p := ⟨w.heap.size, 1, none⟩) (by show w.heap.size < _; omega) (by show w.heap.size ≠ _; omega)).trans (f0 1)
  have hbw2 : Below w.heap.size w w2 := hbw.trans (hK.below (by omega) hbw.size)
  have hnb : (Value.slice a3 n3 c3).ownBlock ≠ some w.heap.size := fun e => by have := hblk _ e; omega
  have IX := Lib.hid (IsInts.far (IsInts.far hI hnb (grown_setCell w2 w.heap.size 0 (.int .i64 ppl))) hnb (grown_setCell _ w.heap.size 1 (.slice a3 n3 c3)))
  have QX := Lib.hid ((hbw2.setCell (p := ⟨w.heap.size, 0, none⟩) (Nat.le_refl _) (.int .i64 ppl)).setCell (p := ⟨w.heap.size, 1, none⟩) (Nat.le_refl _) (.slice a3 n3 c3))
  have z0 : ((w2.setCell ⟨w.heap.size, 0, none⟩ (.int .i64 ppl)).setCell ⟨w.heap.size, 1, none⟩ (.slice a3 n3 c3)).cell? ⟨w.heap.size, 0, none⟩ = some (.int .i64 ppl) := by
    rw [World.cell?_setCell_other _ _ _ _ (by simp)]; exact World.cell?_setCell_same' _ _ _ (by rw [d0]; rfl)
  have z1 : ((w2.setCell ⟨w.heap.size, 0, none⟩ (.int .i64 ppl)).setCell ⟨w.heap.size, 1, none⟩ (.slice a3 n3 c3)).cell? ⟨w.heap.size, 1, none⟩ = some (.slice a3 n3 c3) :=
    World.cell?_setCell_same' _ _ _ (by rw [World.cell?_setCell_other _ _ _ _ (by simp), d1]; rfl)
  have Z0 := Lib.hid z0
  have Z1 := Lib.hid z1
  clear hI hblk hK c0 c1 f0 hbw hbw2 hnb hR hRR z0 z1
  go_wp2_with fail
  refine bodyPost_ret (v := .agg #[.int .i64 ppl, .slice a3 n3 c3]) ?_ rfl ⟨_, _, _, rfl, hl.1, IX.out, QX.out⟩
  have z0 := Z0.out
  have z1 := Z1.out
  simp [results, Try.results45, go_sem, z0, z1]

set_option maxHeartbeats 800000 in
theorem drawFirstGiving_any (a : Option Addr) (len cap : Nat) (zs : List Int) (w : World) (h : IsRow .u8 w a len cap zs) :
    Calls Try.prog 51 #[.slice a len cap] w (DayGot w) := by
  have H0 := h.belowD ((Below.refl w.heap.size w).alloc (Nat.le_refl _) (.cells #[.int .i64 0, .slice none 0 0] 44))
  have HO := Lib.hid (l20Open_any a len cap zs _ H0)
  clear H0 h
  go_enter Try.func51, Try.ntmps51
  go_wp2_with fail
  refine HO.out.mono ?_
  clear HO
  rintro e w1 ⟨a1, len1, cap1, rfl, hR, hb1⟩
  simp only [World.size_alloc] at hR hb1
  have hRR := hR.hR
  have c0 : w1.cell? ⟨w.heap.size, 0, none⟩ = some (.int .i64 0) := (hb1.cell (p := ⟨w.heap.size, 0, none⟩) (Nat.lt_succ_self _)).trans (World.cell?_alloc_new w _ _ 0)
  have c1 : w1.cell? ⟨w.heap.size, 1, none⟩ = some (.slice none 0 0) := (hb1.cell (p := ⟨w.heap.size, 1, none⟩) (Nat.lt_succ_self _)).trans (World.cell?_alloc_new w _ _ 1)
  have f0 : ∀ i, w1.frozen? ⟨w.heap.size, i, none⟩ = false := fun i => (hb1.frozen (p := ⟨w.heap.size, i, none⟩) (Nat.lt_succ_self _)).trans (World.frozen?_alloc_new w _ _ i)
  have hbw : Below w.heap.size w w1 := ((Below.refl w.heap.size w).alloc (Nat.le_refl _) _).trans (hb1.mono (Nat.le_succ _))
  clear hb1
  go_wp2_with fail
  refine (l20Day_any _ _ a1 len1 cap1 0 9 w1 hR (by omega) (by omega) (by omega)).mono ?_
  rintro e w2 ⟨ppl, xs, cv, rfl, hl, hI, hblk, k', -, -, -, hK⟩
  obtain ⟨a3, n3, c3, rfl⟩ := hI.slice
  have d0 := (hK.cell (p := ⟨w.heap.size, 0, none⟩) (by show w.heap.size < _; omega) (by show w.heap.size ≠ _; omega)).trans c0
  have d1 := (hK.cell (p := ⟨w.heap.size, 1, none⟩) (by show w.heap.size < _; omega) (by show w.heap.size ≠ _; omega)).trans c1
  have g0 := (hK.frozen (p := ⟨w.heap.size, 0, none⟩) (by show w.heap.size < _; omega) (by show w.heap.size ≠ _; omega)).trans (f0 0)
  have g1 := (hK.frozen (p := ⟨w.heap.size, 1, none⟩) (by show w.heap.size < _; omega) (by show w.heap.size ≠ _; omega)).trans (f0 1)
  have hbw2 : Below w.heap.size w w2 := hbw.trans (hK.below (by omega) hbw.size)
  have hnb : (Value.slice a3 n3 c3).ownBlock ≠ some w.heap.size := fun e => by have := hblk _ e; omega
  have IX := Lib.hid (IsInts.far (IsInts.far hI hnb (grown_setCell w2 w.heap.size 0 (.int .i64 ppl))) hnb (grown_setCell _ w.heap.size 1 (.slice a3 n3 c3)))
  have QX := Lib.hid ((hbw2.setCell (p := ⟨w.heap.size, 0, none⟩) (Nat.le_refl _) (.int .i64 ppl)).setCell (p := ⟨w.heap.size, 1, none⟩) (Nat.le_refl _) (.slice a3 n3 c3))
  have z0 : ((w2.setCell ⟨w.heap.size, 0, none⟩ (.int .i64 ppl)).setCell ⟨w.heap.size, 1, none⟩ (.slice a3 n3 c3)).cell? ⟨w.heap.size, 0, none⟩ = some (.int .i64 ppl) := by
    rw [World.cell?_setCell_other _ _ _ _ (by simp)]; exact World.cell?_setCell_same' _ _ _ (by rw [d0]; rfl)
  have z1 : ((w2.setCell ⟨w.heap.size, 0, none⟩ (.int .i64 ppl)).setCell ⟨w.heap.size, 1, none⟩ (.slice a3 n3 c3)).cell? ⟨w.heap.size, 1, none⟩ = some (.slice a3 n3 c3) :=
    World.cell?_setCell_same' _ _ _ (by rw [World.cell?_setCell_other _ _ _ _ (by simp), d1]; rfl)
  have Z0 := Lib.hid z0
  have Z1 := Lib.hid z1
  clear hI hblk hK c0 c1 f0 hbw hbw2 hnb hR hRR z0 z1
  go_wp2_with fail
  refine bodyPost_ret (v := .agg #[.int .i64 ppl, .slice a3 n3 c3]) ?_ rfl ⟨_, _, _, rfl, hl.1, IX.out, QX.out⟩
  have z0 := Z0.out
  have z1 := Z1.out
  simp [results, Try.results51, go_sem, z0, z1]

set_option maxHeartbeats 800000 in
theorem drawCountGivings_any (a : Option Addr) (len cap : Nat) (zs : List Int) (w : World) (h : IsRow .u8 w a len cap zs) :
    Calls Try.prog 55 #[.slice a len cap] w (DayGot w) := by
  have H0 := h.belowD ((Below.refl w.heap.size w).alloc (Nat.le_refl _) (.cells #[.int .i64 0, .slice none 0 0] 44))
  have HO := Lib.hid (l20Open_any a len cap zs _ H0)
  clear H0 h
  go_enter Try.func55, Try.ntmps55
  go_wp2_with fail
  refine HO.out.mono ?_
  clear HO
  rintro e w1 ⟨a1, len1, cap1, rfl, hR, hb1⟩
  simp only [World.size_alloc] at hR hb1
  have hRR := hR.hR
  have c0 : w1.cell? ⟨w.heap.size, 0, none⟩ = some (.int .i64 0) := (hb1.cell (p := ⟨w.heap.size, 0, none⟩) (Nat.lt_succ_self _)).trans (World.cell?_alloc_new w _ _ 0)
  have c1 : w1.cell? ⟨w.heap.size, 1, none⟩ = some (.slice none 0 0) := (hb1.cell (p := ⟨w.heap.size, 1, none⟩) (Nat.lt_succ_self _)).trans (World.cell?_alloc_new w _ _ 1)
  have f0 : ∀ i, w1.frozen? ⟨w.heap.size, i, none⟩ = false := fun i => (hb1.frozen (p := ⟨w.heap.size, i, none⟩) (Nat.lt_succ_self _)).trans (World.frozen?_alloc_new w _ _ i)
  have hbw : Below w.heap.size w w1 := ((Below.refl w.heap.size w).alloc (Nat.le_refl _) _).trans (hb1.mono (Nat.le_succ _))
  clear hb1
  go_wp2_with fail
  refine (l20Day_any _ _ a1 len1 cap1 0 9 w1 hR (by omega) (by omega) (by omega)).mono ?_
  rintro e w2 ⟨ppl, xs, cv, rfl, hl, hI, hblk, k', -, -, -, hK⟩
  obtain ⟨a3, n3, c3, rfl⟩ := hI.slice
  have d0 := (hK.cell (p := ⟨w.heap.size, 0, none⟩) (by show w.heap.size < _; omega) (by show w.heap.size ≠ _; omega)).trans c0
  have d1 := (hK.cell (p := ⟨w.heap.size, 1, none⟩) (by show w.heap.size < _; omega) (by show w.heap.size ≠ _; omega)).trans c1
  have g0 := (hK.frozen (p := ⟨w.heap.size, 0, none⟩) (by show w.heap.size < _; omega) (by show w.heap.size ≠ _; omega)).trans (f0 0)
  have g1 := (hK.frozen (p := ⟨w.heap.size, 1, none⟩) (by show w.heap.size < _; omega) (by show w.heap.size ≠ _; omega)).trans (f0 1)
  have hbw2 : Below w.heap.size w w2 := hbw.trans (hK.below (by omega) hbw.size)
  have hnb : (Value.slice a3 n3 c3).ownBlock ≠ some w.heap.size := fun e => by have := hblk _ e; omega
  have IX := Lib.hid (IsInts.far (IsInts.far hI hnb (grown_setCell w2 w.heap.size 0 (.int .i64 ppl))) hnb (grown_setCell _ w.heap.size 1 (.slice a3 n3 c3)))
  have QX := Lib.hid ((hbw2.setCell (p := ⟨w.heap.size, 0, none⟩) (Nat.le_refl _) (.int .i64 ppl)).setCell (p := ⟨w.heap.size, 1, none⟩) (Nat.le_refl _) (.slice a3 n3 c3))
  have z0 : ((w2.setCell ⟨w.heap.size, 0, none⟩ (.int .i64 ppl)).setCell ⟨w.heap.size, 1, none⟩ (.slice a3 n3 c3)).cell? ⟨w.heap.size, 0, none⟩ = some (.int .i64 ppl) := by
    rw [World.cell?_setCell_other _ _ _ _ (by simp)]; exact World.cell?_setCell_same' _ _ _ (by rw [d0]; rfl)
  have z1 : ((w2.setCell ⟨w.heap.size, 0, none⟩ (.int .i64 ppl)).setCell ⟨w.heap.size, 1, none⟩ (.slice a3 n3 c3)).cell? ⟨w.heap.size, 1, none⟩ = some (.slice a3 n3 c3) :=
    World.cell?_setCell_same' _ _ _ (by rw [World.cell?_setCell_other _ _ _ _ (by simp), d1]; rfl)
  have Z0 := Lib.hid z0
  have Z1 := Lib.hid z1
  clear hI hblk hK c0 c1 f0 hbw hbw2 hnb hR hRR z0 z1
  go_wp2_with fail
  refine bodyPost_ret (v := .agg #[.int .i64 ppl, .slice a3 n3 c3]) ?_ rfl ⟨_, _, _, rfl, hl.1, IX.out, QX.out⟩
  have z0 := Z0.out
  have z1 := Z1.out
  simp [results, Try.results55, go_sem, z0, z1]
end Go.Proofs.Ythihcnlbohhemaa
