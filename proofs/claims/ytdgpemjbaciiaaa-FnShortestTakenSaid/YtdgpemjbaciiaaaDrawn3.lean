/- The drawing functions of a machine and a word. No condition. -/
import Derived.Test.YtdgpemjbaciiaaaDrawn2
namespace Go.Proofs.Ytdgpemjbaciiaaa
open Go.RowKit

/-- what drawing a machine and a word leaves -/
def ReadDrawn (B R : Nat) (a : Option Addr) (len cap k : Nat) (w : World) (e : Ending) (w' : World) : Prop :=
  ∃ (st : Int) (xs : List Int) (bs : List Bool) (a1 a2 : Option Addr) (c1 c2 : Nat) (s : ByteArray), e = .returned (.tuple #[.agg #[.int .i64 st, .slice a1 xs.length c1, .slice a2 bs.length c2], .string s]) ∧ s.size ≤ 23 ∧ 0 ≤ st ∧ st ≤ 5 ∧ xs.length ≤ 15 ∧ bs.length ≤ 6 ∧
    (∃ k', k ≤ k' ∧ k' ≤ k + 60 ∧ RdAt B R a len cap k' w') ∧ KeepsBut R w w' ∧ Apart w.heap.size [rowT 3 1 (.slice a1 xs.length c1) xs.length (xs.map (Value.int .i64)), rowT 4 1 (.slice a2 bs.length c2) bs.length (bs.map Value.bool)] w'

set_option maxHeartbeats 800000 in
theorem l20Read_any (B R : Nat) (a : Option Addr) (len cap k : Nat) (w : World) (H : RdAt B R a len cap k w) (hk : k ≤ 800000) :
    Calls Try.prog 79 #[.pointer (some ⟨R, 0, none⟩)] w (ReadDrawn B R a len cap k w) := by
  have hRw := H.hR
  have hK0 := (KeepsBut.refl R w).alloc (.cells #[.int .i64 0, .slice none 0 0, .slice none 0 0] 27)
  have HC := Lib.hid (l20Machine_any B R a len cap k 14 _ (H.grown (World.grownBy_alloc w (.cells #[.int .i64 0, .slice none 0 0, .slice none 0 0] 27) none) (fun _ e => by cases e)) (by omega) (by omega) (by omega))
  clear H
  have c0 : (w.alloc (.cells #[.int .i64 0, .slice none 0 0, .slice none 0 0] 27)).cell? ⟨w.heap.size, 0, none⟩ = some (.int .i64 0) := World.cell?_alloc_new w _ _ 0
  have c1 : (w.alloc (.cells #[.int .i64 0, .slice none 0 0, .slice none 0 0] 27)).cell? ⟨w.heap.size, 1, none⟩ = some (.slice none 0 0) := World.cell?_alloc_new w _ _ 1
  have c2 : (w.alloc (.cells #[.int .i64 0, .slice none 0 0, .slice none 0 0] 27)).cell? ⟨w.heap.size, 2, none⟩ = some (.slice none 0 0) := World.cell?_alloc_new w _ _ 2
  have f0 : ∀ i, (w.alloc (.cells #[.int .i64 0, .slice none 0 0, .slice none 0 0] 27)).frozen? ⟨w.heap.size, i, none⟩ = false := fun i => World.frozen?_alloc_new w _ _ i
  have hs0 : (w.alloc (.cells #[.int .i64 0, .slice none 0 0, .slice none 0 0] 27)).heap.size = w.heap.size + 1 := by simp
  go_enter Try.func79, Try.ntmps79
  go_wp2_with fail
  refine HC.out.mono ?_
  clear HC
  generalize w.alloc (.cells #[.int .i64 0, .slice none 0 0, .slice none 0 0] 27) = w1 at *
  rintro e w2 ⟨st, xs, bs, nv, ev, rfl, h0, h1, h2, h3, ⟨k1, hk1, hk2, hR1⟩, hK1, hA⟩
  have hs1 := hK1.size
  obtain ⟨a3, c3, rfl⟩ := ownsRow_sliceD hA.head
  obtain ⟨a4, c4, rfl⟩ := ownsRow_sliceD hA.tail.head
  go_wp2_with fail
  refine (l20Word_any B R a len cap k1 14 _ hR1 (by omega) (by omega) (by omega)).mono ?_
  rintro e w3 ⟨s, rfl, hs, k2, hk3, hk4, hR2, hK2⟩
  have hK := hK1.trans hK2
  have d0 := (hK.cell (p := ⟨w.heap.size, 0, none⟩) (by show w.heap.size < _; omega) (by show w.heap.size ≠ _; omega)).trans c0
  have d1 := (hK.cell (p := ⟨w.heap.size, 1, none⟩) (by show w.heap.size < _; omega) (by show w.heap.size ≠ _; omega)).trans c1
  have d2 := (hK.cell (p := ⟨w.heap.size, 2, none⟩) (by show w.heap.size < _; omega) (by show w.heap.size ≠ _; omega)).trans c2
  have g0 := (hK.frozen (p := ⟨w.heap.size, 0, none⟩) (by show w.heap.size < _; omega) (by show w.heap.size ≠ _; omega)).trans (f0 0)
  have g1 := (hK.frozen (p := ⟨w.heap.size, 1, none⟩) (by show w.heap.size < _; omega) (by show w.heap.size ≠ _; omega)).trans (f0 1)
  have g2 := (hK.frozen (p := ⟨w.heap.size, 2, none⟩) (by show w.heap.size < _; omega) (by show w.heap.size ≠ _; omega)).trans (f0 2)
  have hA3 := hA.other hK2.grownBy (fun k e => by cases e; omega)
  have hKw := hK0.trans hK
  clear c0 c1 c2 f0 hK hK1 hK2 hA hK0
  have FIN : ∀ W, W = ((w3.setCell ⟨w.heap.size, 0, none⟩ (.int .i64 st)).setCell ⟨w.heap.size, 1, none⟩ (.slice a3 xs.length c3)).setCell ⟨w.heap.size, 2, none⟩ (.slice a4 bs.length c4) →
      Apart w.heap.size [rowT 3 1 (.slice a3 xs.length c3) xs.length (xs.map (Value.int .i64)), rowT 4 1 (.slice a4 bs.length c4) bs.length (bs.map Value.bool)] W ∧ RdAt B R a len cap k2 W ∧ KeepsBut R w W ∧ W.cell? ⟨w.heap.size, 0, none⟩ = some (.int .i64 st) ∧ W.cell? ⟨w.heap.size, 1, none⟩ = some (.slice a3 xs.length c3) ∧ W.cell? ⟨w.heap.size, 2, none⟩ = some (.slice a4 bs.length c4) := by
    rintro W rfl
    have hr : ∀ k, some w.heap.size = some k → k < w1.heap.size := fun k e => by cases e; omega
    have hr2 : ∀ k, some w.heap.size = some k → R < k := fun k e => by cases e; omega
    have hr3 : ∀ k, some w.heap.size = some k → w.heap.size ≤ k := fun k e => by cases e; omega
    refine ⟨(((hA3.other (grown_setCell _ _ _ _) hr).other (grown_setCell _ _ _ _) hr).other (grown_setCell _ _ _ _) hr).mono (by omega), ((hR2.grown (grown_setCell _ _ _ _) hr2).grown (grown_setCell _ _ _ _) hr2).grown (grown_setCell _ _ _ _) hr2,
      ((hKw.grown (grown_setCell _ _ _ _) hr3).grown (grown_setCell _ _ _ _) hr3).grown (grown_setCell _ _ _ _) hr3, by go_simp, by go_simp, by go_simp⟩
  have FI := Lib.hid FIN
  clear FIN hA3 hKw hR2 hR1
  go_wp2
  obtain ⟨r1, r2, r3, r4, r5, r6⟩ := FI.out _ rfl
  refine bodyPost_ret (v := .tuple #[.agg #[.int .i64 st, .slice a3 xs.length c3, .slice a4 bs.length c4], .string s]) ?_ rfl ⟨st, xs, bs, _, _, _, _, s, rfl, hs, h0, h1, h2, h3, ⟨k2, by omega, by omega, r2⟩, r3, r1⟩
  simp [results, Try.results79, go_sem, r4, r5, r6]

set_option maxHeartbeats 800000 in
theorem drawTakesOk_any (a : Option Addr) (len cap : Nat) (zs : List Int) (w : World) (h : IsRow .u8 w a len cap zs) :
    Calls Try.prog 34 #[.slice a len cap] w (MachWordRes w) := by
  have H0 := h.below ((Below.refl w.heap.size w).alloc (Nat.le_refl _) (.cells #[.int .i64 0, .slice none 0 0, .slice none 0 0] 27))
  have HO := Lib.hid (l20Open_any a len cap zs _ H0)
  clear H0 h
  go_enter Try.func34, Try.ntmps34
  go_wp2_with fail
  refine HO.out.mono ?_
  clear HO
  rintro e w1 ⟨a1, len1, cap1, rfl, hR, hb1⟩
  simp only [World.size_alloc] at hR hb1
  have hRR := hR.hR
  have c0 : w1.cell? ⟨w.heap.size, 0, none⟩ = some (.int .i64 0) := (hb1.cell (p := ⟨w.heap.size, 0, none⟩) (Nat.lt_succ_self _)).trans (World.cell?_alloc_new w _ _ 0)
  have c1 : w1.cell? ⟨w.heap.size, 1, none⟩ = some (.slice none 0 0) := (hb1.cell (p := ⟨w.heap.size, 1, none⟩) (Nat.lt_succ_self _)).trans (World.cell?_alloc_new w _ _ 1)
  have c2 : w1.cell? ⟨w.heap.size, 2, none⟩ = some (.slice none 0 0) := (hb1.cell (p := ⟨w.heap.size, 2, none⟩) (Nat.lt_succ_self _)).trans (World.cell?_alloc_new w _ _ 2)
  have f0 : ∀ i, w1.frozen? ⟨w.heap.size, i, none⟩ = false := fun i => (hb1.frozen (p := ⟨w.heap.size, i, none⟩) (Nat.lt_succ_self _)).trans (World.frozen?_alloc_new w _ _ i)
  have hbw : Below w.heap.size w w1 := ((Below.refl w.heap.size w).alloc (Nat.le_refl _) _).trans (hb1.mono (Nat.le_succ _))
  clear hb1
  go_wp2_with fail
  refine (l20Read_any _ _ a1 len1 cap1 0 w1 hR (by omega)).mono ?_
  rintro e w2 ⟨st, xs, bs, a3, a4, c3, c4, s, rfl, hs, h0, h1, h2, h3, -, hK, hA⟩
  have d0 := (hK.cell (p := ⟨w.heap.size, 0, none⟩) (by show w.heap.size < _; omega) (by show w.heap.size ≠ _; omega)).trans c0
  have d1 := (hK.cell (p := ⟨w.heap.size, 1, none⟩) (by show w.heap.size < _; omega) (by show w.heap.size ≠ _; omega)).trans c1
  have d2 := (hK.cell (p := ⟨w.heap.size, 2, none⟩) (by show w.heap.size < _; omega) (by show w.heap.size ≠ _; omega)).trans c2
  have g0 := (hK.frozen (p := ⟨w.heap.size, 0, none⟩) (by show w.heap.size < _; omega) (by show w.heap.size ≠ _; omega)).trans (f0 0)
  have g1 := (hK.frozen (p := ⟨w.heap.size, 1, none⟩) (by show w.heap.size < _; omega) (by show w.heap.size ≠ _; omega)).trans (f0 1)
  have g2 := (hK.frozen (p := ⟨w.heap.size, 2, none⟩) (by show w.heap.size < _; omega) (by show w.heap.size ≠ _; omega)).trans (f0 2)
  have hbw2 : Below w.heap.size w w2 := hbw.trans (hK.below (by omega) (by omega))
  clear c0 c1 c2 f0 hbw hK hR
  have FIN : ∀ W, W = ((w2.setCell ⟨w.heap.size, 0, none⟩ (.int .i64 st)).setCell ⟨w.heap.size, 1, none⟩ (.slice a3 xs.length c3)).setCell ⟨w.heap.size, 2, none⟩ (.slice a4 bs.length c4) →
      Drawn2 ⟨st, xs, bs⟩ (.slice a3 xs.length c3) (.slice a4 bs.length c4) W ∧ Below w.heap.size w W ∧ W.cell? ⟨w.heap.size, 0, none⟩ = some (.int .i64 st) ∧ W.cell? ⟨w.heap.size, 1, none⟩ = some (.slice a3 xs.length c3) ∧ W.cell? ⟨w.heap.size, 2, none⟩ = some (.slice a4 bs.length c4) := by
    rintro W rfl
    have hr : ∀ k, some w.heap.size = some k → k < w1.heap.size := fun k e => by cases e; omega
    refine ⟨apart_drawn (((hA.other (grown_setCell _ _ _ _) hr).other (grown_setCell _ _ _ _) hr).other (grown_setCell _ _ _ _) hr) h0 h1 h2 h3, ((hbw2.setCell (p := ⟨w.heap.size, 0, none⟩) (Nat.le_refl _) _).setCell (p := ⟨w.heap.size, 1, none⟩) (Nat.le_refl _) _).setCell (p := ⟨w.heap.size, 2, none⟩) (Nat.le_refl _) _, by go_simp, by go_simp, by go_simp⟩
  have FI := Lib.hid FIN
  clear FIN hA hbw2
  go_wp2
  obtain ⟨r1, r2, r3, r4, r5⟩ := FI.out _ rfl
  refine bodyPost_ret (v := .tuple #[.agg #[.int .i64 st, .slice a3 xs.length c3, .slice a4 bs.length c4], .string s]) ?_ rfl ⟨⟨st, xs, bs⟩, _, _, s, rfl, hs, r1, r2⟩
  simp [results, Try.results34, go_sem, r3, r4, r5]
end Go.Proofs.Ytdgpemjbaciiaaa
