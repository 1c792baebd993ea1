/- The laws' copy of a machine, with its rows in memory of their own. No condition. -/
import Derived.Test.YtpcependeealfaaMachLaw
import Derived.Test.YtpcependeealfaaFromWalk
namespace Go.Proofs.Ytpcependeealfaa
open Go.RowKit

theorem apart_one {C : Nat} {w : World} {e : TypeId} {size : Nat} {v : Value} {n : Nat} {xs : List Value} (h : w.ownsRow C e size v n xs) : Apart C [rowT e size v n xs] w :=
  ⟨fun u hu => by
    rw [List.mem_singleton.1 hu]
    exact ⟨ownsRow_base h (fun _ _ => Nat.zero_le _), h.lt⟩, List.pairwise_singleton _ _⟩
theorem apart_row {C : Nat} {ts : List Thing} {w w' : World} {e : TypeId} {size : Nat} {v : Value} {n : Nat} {xs : List Value} (hA : Apart C ts w) (hb : Below w.heap.size w w') (h : w'.ownsRow w.heap.size e size v n xs) (hC : C ≤ w.heap.size) :
    Apart C (rowT e size v n xs :: ts) w' :=
  hA.more ⟨hb.os, hb.tape, hb.output, hb.size, fun k hk _ => hb.block k hk⟩ _ (ownsRow_base h (fun _ _ => Nat.zero_le _)) hC h.lt

set_option maxHeartbeats 800000 in
theorem toMachine_new (m : M) (nv ev : Value) (w : World) (h1 : IsInts w nv m.next) (h2 : IsBools w ev m.ends) (hx1 : m.next.length ≤ 1048576) (hx2 : m.ends.length ≤ 1048576) :
    Calls Try.prog 54 #[.agg #[.int .i64 m.st, nv, ev]] w (MachNew m w) := by
  obtain ⟨st, xs, bs⟩ := m
  simp only at h1 h2 hx1 hx2
  have H1 := Lib.hid h1
  have H2 := Lib.hid h2
  clear h1 h2
  go_enter Try.func54, Try.ntmps54
  go_wp2_with fail
  have hB0 : Below w.heap.size w (((w.alloc (.cells #[.int .i64 st, nv, ev] 55)).alloc (.cells #[.int .i64 0, .slice none 0 0, .slice none 0 0] 26)).alloc (.cells #[.int .i64 st, .slice none 0 0, .slice none 0 0] 26)) := (((Below.refl _ _).alloc (Nat.le_refl _) _).alloc (by simp) _).alloc (by simp; omega) _
  refine (toIntS_any nv xs _ (H1.out.below hB0) hx1).mono ?_
  rintro e w1 ⟨nv', rfl, ho1, hb1⟩
  obtain ⟨a1, p1, rfl⟩ := ownsRow_slice ho1
  simp only [World.size_alloc] at ho1 hb1
  have HO1 := Lib.hid ho1
  clear ho1
  have s1 := hb1.size
  simp only [World.size_alloc] at s1
  have c02 : w1.cell? ⟨w.heap.size, 2, none⟩ = some ev := (hb1.cell (p := ⟨w.heap.size, 2, none⟩) (by show w.heap.size < _; omega)).trans (by go_simp)
  have c10 : w1.cell? ⟨w.heap.size + 1, 0, none⟩ = some (.int .i64 0) := (hb1.cell (p := ⟨w.heap.size + 1, 0, none⟩) (by show w.heap.size + 1 < _; omega)).trans (by go_simp)
  have c11 : w1.cell? ⟨w.heap.size + 1, 1, none⟩ = some (.slice none 0 0) := (hb1.cell (p := ⟨w.heap.size + 1, 1, none⟩) (by show w.heap.size + 1 < _; omega)).trans (by go_simp)
  have c12 : w1.cell? ⟨w.heap.size + 1, 2, none⟩ = some (.slice none 0 0) := (hb1.cell (p := ⟨w.heap.size + 1, 2, none⟩) (by show w.heap.size + 1 < _; omega)).trans (by go_simp)
  have c20 : w1.cell? ⟨w.heap.size + 1 + 1, 0, none⟩ = some (.int .i64 st) := (hb1.cell (p := ⟨w.heap.size + 1 + 1, 0, none⟩) (by show w.heap.size + 1 + 1 < _; omega)).trans (by go_simp)
  have c21 : w1.cell? ⟨w.heap.size + 1 + 1, 1, none⟩ = some (.slice none 0 0) := (hb1.cell (p := ⟨w.heap.size + 1 + 1, 1, none⟩) (by show w.heap.size + 1 + 1 < _; omega)).trans (by go_simp)
  have c22 : w1.cell? ⟨w.heap.size + 1 + 1, 2, none⟩ = some (.slice none 0 0) := (hb1.cell (p := ⟨w.heap.size + 1 + 1, 2, none⟩) (by show w.heap.size + 1 + 1 < _; omega)).trans (by go_simp)
  have f1 : ∀ j, w1.frozen? ⟨w.heap.size + 1, j, none⟩ = false := fun j => (hb1.frozen (p := ⟨w.heap.size + 1, j, none⟩) (by show w.heap.size + 1 < _; omega)).trans (by go_simp)
  have f2 : ∀ j, w1.frozen? ⟨w.heap.size + 1 + 1, j, none⟩ = false := fun j => (hb1.frozen (p := ⟨w.heap.size + 1 + 1, j, none⟩) (by show w.heap.size + 1 + 1 < _; omega)).trans (by go_simp)
  have hb1' : Below w.heap.size w w1 := hB0.trans (hb1.mono (by omega))
  clear hb1 hB0
  go_wp2_with fail
  generalize hW2 : w1.setCell ⟨w.heap.size + 1 + 1, 1, none⟩ (.slice a1 xs.length p1) = w2
  have hb2 : Below w.heap.size w w2 := by rw [← hW2]; exact hb1'.setCell (p := ⟨w.heap.size + 1 + 1, 1, none⟩) (by show _ ≤ w.heap.size + 1 + 1; omega) _
  have ho2 : w2.ownsRow (w.heap.size + 1 + 1 + 1) 3 1 (.slice a1 xs.length p1) xs.length (xs.map (Value.int .i64)) := by rw [← hW2]; exact ownsRow_setCell_below HO1.out (a := ⟨w.heap.size + 1 + 1, 1, none⟩) (by show w.heap.size + 1 + 1 < _; omega) _
  have s2 : w1.heap.size = w2.heap.size := by rw [← hW2]; simp
  have d10 : w2.cell? ⟨w.heap.size + 1, 0, none⟩ = some (.int .i64 0) := by rw [← hW2, World.cell?_setCell_other _ _ _ _ (by simp)]; exact c10
  have d11 : w2.cell? ⟨w.heap.size + 1, 1, none⟩ = some (.slice none 0 0) := by rw [← hW2, World.cell?_setCell_other _ _ _ _ (by simp)]; exact c11
  have d12 : w2.cell? ⟨w.heap.size + 1, 2, none⟩ = some (.slice none 0 0) := by rw [← hW2, World.cell?_setCell_other _ _ _ _ (by simp)]; exact c12
  have d20 : w2.cell? ⟨w.heap.size + 1 + 1, 0, none⟩ = some (.int .i64 st) := by rw [← hW2, World.cell?_setCell_other _ _ _ _ (by simp)]; exact c20
  have d21 : w2.cell? ⟨w.heap.size + 1 + 1, 1, none⟩ = some (.slice a1 xs.length p1) := by rw [← hW2]; exact World.cell?_setCell_same' _ _ _ (by rw [c21]; rfl)
  have d22 : w2.cell? ⟨w.heap.size + 1 + 1, 2, none⟩ = some (.slice none 0 0) := by rw [← hW2, World.cell?_setCell_other _ _ _ _ (by simp)]; exact c22
  have g1 : ∀ j, w2.frozen? ⟨w.heap.size + 1, j, none⟩ = false := fun j => by rw [← hW2, World.frozen?_setCell]; exact f1 j
  have g2 : ∀ j, w2.frozen? ⟨w.heap.size + 1 + 1, j, none⟩ = false := fun j => by rw [← hW2, World.frozen?_setCell]; exact f2 j
  clear hW2 c02 c10 c11 c12 c20 c21 c22 f1 f2 HO1 hb1'
  refine (toBoolS_any ev bs w2 (H2.out.below hb2) hx2).mono ?_
  rintro e w3 ⟨ev', rfl, ho3, hb3⟩
  obtain ⟨a3, p3, rfl⟩ := ownsRow_slice ho3
  have AA := Lib.hid ((apart_row (apart_one ho2) hb3 ho3 (by omega)).perm (List.Perm.swap _ _ _))
  clear ho3 ho2
  have s3 := hb3.size
  have c10 : w3.cell? ⟨w.heap.size + 1, 0, none⟩ = some (.int .i64 0) := (hb3.cell (p := ⟨w.heap.size + 1, 0, none⟩) (by show w.heap.size + 1 < _; omega)).trans (by assumption)
  have c11 : w3.cell? ⟨w.heap.size + 1, 1, none⟩ = some (.slice none 0 0) := (hb3.cell (p := ⟨w.heap.size + 1, 1, none⟩) (by show w.heap.size + 1 < _; omega)).trans (by assumption)
  have c12 : w3.cell? ⟨w.heap.size + 1, 2, none⟩ = some (.slice none 0 0) := (hb3.cell (p := ⟨w.heap.size + 1, 2, none⟩) (by show w.heap.size + 1 < _; omega)).trans (by assumption)
  have c20 : w3.cell? ⟨w.heap.size + 1 + 1, 0, none⟩ = some (.int .i64 st) := (hb3.cell (p := ⟨w.heap.size + 1 + 1, 0, none⟩) (by show w.heap.size + 1 + 1 < _; omega)).trans (by assumption)
  have c21 : w3.cell? ⟨w.heap.size + 1 + 1, 1, none⟩ = some (.slice a1 xs.length p1) := (hb3.cell (p := ⟨w.heap.size + 1 + 1, 1, none⟩) (by show w.heap.size + 1 + 1 < _; omega)).trans (by assumption)
  have c22 : w3.cell? ⟨w.heap.size + 1 + 1, 2, none⟩ = some (.slice none 0 0) := (hb3.cell (p := ⟨w.heap.size + 1 + 1, 2, none⟩) (by show w.heap.size + 1 + 1 < _; omega)).trans (by assumption)
  have f1 : ∀ j, w3.frozen? ⟨w.heap.size + 1, j, none⟩ = false := fun j => (hb3.frozen (p := ⟨w.heap.size + 1, j, none⟩) (by show w.heap.size + 1 < _; omega)).trans (g1 j)
  have f2 : ∀ j, w3.frozen? ⟨w.heap.size + 1 + 1, j, none⟩ = false := fun j => (hb3.frozen (p := ⟨w.heap.size + 1 + 1, j, none⟩) (by show w.heap.size + 1 + 1 < _; omega)).trans (g2 j)
  have hb3' : Below w.heap.size w w3 := hb2.trans (hb3.mono hb2.size)
  clear d10 d11 d12 d20 d21 d22 g1 g2 hb2 hb3
  have q10 := f1 0
  have q11 := f1 1
  have q12 := f1 2
  have q22 := f2 2
  clear f1 f2
  go_wp2
  have hlt2 : ∀ k, (some (w.heap.size + 1 + 1) : Option Nat) = some k → k < w.heap.size + 1 + 1 + 1 := fun k e => by cases e; omega
  have hlt1 : ∀ k, (some (w.heap.size + 1) : Option Nat) = some k → k < w.heap.size + 1 + 1 + 1 := fun k e => by cases e; omega
  have e1 : ∀ (W : World), W = (((w3.setCell ⟨w.heap.size + 1 + 1, 2, none⟩ (.slice a3 bs.length p3)).setCell ⟨w.heap.size + 1, 0, none⟩ (.int .i64 st)).setCell ⟨w.heap.size + 1, 1, none⟩ (.slice a1 xs.length p1)).setCell ⟨w.heap.size + 1, 2, none⟩ (.slice a3 bs.length p3) →
      W.cell? ⟨w.heap.size + 1, 0, none⟩ = some (.int .i64 st) ∧ W.cell? ⟨w.heap.size + 1, 1, none⟩ = some (.slice a1 xs.length p1) ∧ W.cell? ⟨w.heap.size + 1, 2, none⟩ = some (.slice a3 bs.length p3) ∧
      Apart w.heap.size [rowT 3 1 (.slice a1 xs.length p1) xs.length (xs.map (Value.int .i64)), rowT 4 1 (.slice a3 bs.length p3) bs.length (bs.map Value.bool)] W ∧ Below w.heap.size w W := by
    rintro W rfl
    refine ⟨by go_simp, by go_simp, by go_simp, ?_, ?_⟩
    · exact ((((AA.out.other (grown_setCell _ _ _ _) hlt2).other (grown_setCell _ _ _ _) hlt1).other (grown_setCell _ _ _ _) hlt1).other (grown_setCell _ _ _ _) hlt1).mono (by omega)
    · exact (((hb3'.setCell (p := ⟨w.heap.size + 1 + 1, 2, none⟩) (by show _ ≤ w.heap.size + 1 + 1; omega) _).setCell (p := ⟨w.heap.size + 1, 0, none⟩) (by show _ ≤ w.heap.size + 1; omega) _).setCell (p := ⟨w.heap.size + 1, 1, none⟩) (by show _ ≤ w.heap.size + 1; omega) _).setCell (p := ⟨w.heap.size + 1, 2, none⟩) (by show _ ≤ w.heap.size + 1; omega) _
  obtain ⟨x0, x1, x2, hA, hbe⟩ := e1 _ rfl
  refine bodyPost_ret (v := .agg #[.int .i64 st, .slice a1 xs.length p1, .slice a3 bs.length p3]) ?_ rfl ⟨_, _, _, _, rfl, hA, hbe⟩
  simp [results, Try.results54, go_sem, x0, x1, x2]
end Go.Proofs.Ytpcependeealfaa
