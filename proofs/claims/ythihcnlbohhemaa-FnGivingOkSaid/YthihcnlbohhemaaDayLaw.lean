/- How days lie in memory, and the exact laws' helpers on days: sizes, copies, equality. No condition. -/
import Derived.Test.YthihcnlbohhemaaDayMath
import Derived.Test.YthihcnlbohhemaaMachLaw
import Derived.Test.YthihcnlbohhemaaOwnD
namespace Go.Proofs.Ythihcnlbohhemaa
open Go.RowKit

/-- a block that holds a day that came in -/
structure DayBox (B : Nat) (ppl : Int) (cv : Value) (xs : List Int) (w : World) : Prop where
  hB : B < w.heap.size
  c0 : w.cell? ⟨B, 0, none⟩ = some (.int .i64 ppl)
  c1 : w.cell? ⟨B, 1, none⟩ = some cv
  ints : IsInts w cv xs
theorem DayBox.below {B : Nat} {ppl : Int} {cv : Value} {xs : List Int} {w w' : World} (h : DayBox B ppl cv xs w) (hb : Below w.heap.size w w') : DayBox B ppl cv xs w' :=
  ⟨Nat.lt_of_lt_of_le h.hB hb.size, (hb.cell (p := ⟨B, 0, none⟩) h.hB).trans h.c0, (hb.cell (p := ⟨B, 1, none⟩) h.hB).trans h.c1, h.ints.below hb⟩
theorem DayBox.new {ppl : Int} {cv : Value} {xs : List Int} {w : World} (t : TypeId) (h1 : IsInts w cv xs) : DayBox w.heap.size ppl cv xs (w.alloc (.cells #[.int .i64 ppl, cv] t)) :=
  ⟨by simp, World.cell?_alloc_new w _ _ 0, World.cell?_alloc_new w _ _ 1, h1.below ((Below.refl _ _).alloc (Nat.le_refl _) _)⟩

/-- szDay's number -/
theorem szDay_any (ppl : Int) (xs : List Int) (cv : Value) (left : Int) (w : World) (h1 : IsInts w cv xs) (h0 : 0 ≤ left) (hl : left ≤ 1048576) :
    Calls Try.prog 57 #[.agg #[.int .i64 ppl, cv], .int .i64 left] w fun e w' => e = .returned (.int .i64 (szOf xs.length left)) ∧ Below w.heap.size w w' := by
  have hb : Below w.heap.size w (w.alloc (.cells #[.int .i64 ppl, cv] 56)) := (Below.refl _ _).alloc (Nat.le_refl _) _
  have C1 := Lib.hid (szIntS_any cv xs left _ (h1.below hb) h0 hl)
  have HB := Lib.hid hb
  clear h1 hb
  by_cases hn : szOf xs.length left < 0
  · have HM : Hid (szOf xs.length left = -1) := by
      have : szOf xs.length left = -1 := by unfold szOf at hn ⊢; split <;> rename_i h <;> simp only [h, if_true, if_false] at hn <;> omega
      exact Lib.hid this
    go_enter Try.func57, Try.ntmps57
    go_wp2_with fail
    refine C1.out.mono ?_
    rintro e w1 ⟨rfl, rfl⟩
    go_wp2_with fail
    go_ret
    exact ⟨ret_int HM.out.symm, HB.out⟩
  · generalize szOf xs.length left = l1 at *
    go_enter Try.func57, Try.ntmps57
    go_wp2_with fail
    refine C1.out.mono ?_
    rintro e w1 ⟨rfl, rfl⟩
    go_wp2_with fail
    go_ret
    exact ⟨rfl, HB.out⟩
theorem szOf_bd {n : Nat} {left : Int} (h : 0 ≤ szOf n left) : (n : Int) ≤ left := by
  by_cases h1 : left < n
  · simp [szOf, h1] at h
  · omega

/-- a fresh day -/
def DayPost (ppl : Int) (xs : List Int) (w : World) (e : Ending) (w' : World) : Prop := ∃ cv, e = .returned (.agg #[.int .i64 ppl, cv]) ∧ w'.ownsRow w.heap.size 3 1 cv xs.length (xs.map (Value.int .i64)) ∧ Below w.heap.size w w'

set_option maxHeartbeats 800000 in
theorem toDay_any (ppl : Int) (xs : List Int) (cv : Value) (w : World) (h1 : IsInts w cv xs) (hx1 : xs.length ≤ 1048576) :
    Calls Try.prog 58 #[.agg #[.int .i64 ppl, cv]] w (DayPost ppl xs w) := by
  have H1 := Lib.hid h1
  clear h1
  go_enter Try.func58, Try.ntmps58
  go_wp2_with fail
  have hB0 : Below w.heap.size w (((w.alloc (.cells #[.int .i64 ppl, cv] 56)).alloc (.cells #[.int .i64 0, .slice none 0 0] 44)).alloc (.cells #[.int .i64 ppl, .slice none 0 0] 44)) := (((Below.refl _ _).alloc (Nat.le_refl _) _).alloc (by simp) _).alloc (by simp; omega) _
  refine (toIntS_any cv xs _ (H1.out.below hB0) hx1).mono ?_
  rintro e w1 ⟨nv', rfl, ho1, hb1⟩
  obtain ⟨a1, n1, p1, rfl⟩ := owns_slice ho1
  simp only [World.size_alloc] at ho1 hb1
  have HO1 := Lib.hid ho1
  clear ho1
  have s1 := hb1.size
  simp only [World.size_alloc] at s1
  have c10 : w1.cell? ⟨w.heap.size + 1, 0, none⟩ = some (.int .i64 0) := (hb1.cell (p := ⟨w.heap.size + 1, 0, none⟩) (by show w.heap.size + 1 < _; omega)).trans (by go_simp)
  have c11 : w1.cell? ⟨w.heap.size + 1, 1, none⟩ = some (.slice none 0 0) := (hb1.cell (p := ⟨w.heap.size + 1, 1, none⟩) (by show w.heap.size + 1 < _; omega)).trans (by go_simp)
  have c20 : w1.cell? ⟨w.heap.size + 1 + 1, 0, none⟩ = some (.int .i64 ppl) := (hb1.cell (p := ⟨w.heap.size + 1 + 1, 0, none⟩) (by show w.heap.size + 1 + 1 < _; omega)).trans (by go_simp)
  have c21 : w1.cell? ⟨w.heap.size + 1 + 1, 1, none⟩ = some (.slice none 0 0) := (hb1.cell (p := ⟨w.heap.size + 1 + 1, 1, none⟩) (by show w.heap.size + 1 + 1 < _; omega)).trans (by go_simp)
  have f1 : ∀ j, w1.frozen? ⟨w.heap.size + 1, j, none⟩ = false := fun j => (hb1.frozen (p := ⟨w.heap.size + 1, j, none⟩) (by show w.heap.size + 1 < _; omega)).trans (by go_simp)
  have f2 : ∀ j, w1.frozen? ⟨w.heap.size + 1 + 1, j, none⟩ = false := fun j => (hb1.frozen (p := ⟨w.heap.size + 1 + 1, j, none⟩) (by show w.heap.size + 1 + 1 < _; omega)).trans (by go_simp)
  have hb1' : Below w.heap.size w w1 := hB0.trans (hb1.mono (by omega))
  clear hb1 hB0
  have q10 := f1 0
  have q11 := f1 1
  have q21 := f2 1
  clear f1 f2
  go_wp2
  have e1 : ∀ (W : World), W = ((w1.setCell ⟨w.heap.size + 1 + 1, 1, none⟩ (.slice a1 n1 p1)).setCell ⟨w.heap.size + 1, 0, none⟩ (.int .i64 ppl)).setCell ⟨w.heap.size + 1, 1, none⟩ (.slice a1 n1 p1) →
      W.cell? ⟨w.heap.size + 1, 0, none⟩ = some (.int .i64 ppl) ∧ W.cell? ⟨w.heap.size + 1, 1, none⟩ = some (.slice a1 n1 p1) ∧ W.ownsRow w.heap.size 3 1 (.slice a1 n1 p1) xs.length (xs.map (Value.int .i64)) ∧ Below w.heap.size w W := by
    rintro W rfl
    refine ⟨by go_simp, by go_simp, ?_, ?_⟩
    · exact ownsRow_base (ownsRow_setCell_below (ownsRow_setCell_below (ownsRow_setCell_below HO1.out (a := ⟨w.heap.size + 1 + 1, 1, none⟩) (by show w.heap.size + 1 + 1 < _; omega) _) (a := ⟨w.heap.size + 1, 0, none⟩) (by show w.heap.size + 1 < _; omega) _) (a := ⟨w.heap.size + 1, 1, none⟩) (by show w.heap.size + 1 < _; omega) _) (fun k e => by
        have := (World.ownsRow.lt HO1.out k e).1
        omega)
    · exact ((hb1'.setCell (p := ⟨w.heap.size + 1 + 1, 1, none⟩) (by show _ ≤ w.heap.size + 1 + 1; omega) _).setCell (p := ⟨w.heap.size + 1, 0, none⟩) (by show _ ≤ w.heap.size + 1; omega) _).setCell (p := ⟨w.heap.size + 1, 1, none⟩) (by show _ ≤ w.heap.size + 1; omega) _
  obtain ⟨x0, x1, hi, hbe⟩ := e1 _ rfl
  refine bodyPost_ret (v := .agg #[.int .i64 ppl, .slice a1 n1 p1]) ?_ rfl ⟨_, rfl, hi, hbe⟩
  simp [results, Try.results58, go_sem, x0, x1]

set_option maxHeartbeats 800000 in
theorem eqDay_same (ppl : Int) (xs : List Int) (cv cv' : Value) (w : World) (h1 : IsInts w cv xs) (h3 : IsInts w cv' xs) :
    Calls Try.prog 59 #[.agg #[.int .i64 ppl, cv], .agg #[.int .i64 ppl, cv']] w fun e w' => e = .returned (.bool true) ∧ Below w.heap.size w w' := by
  have hB : Below w.heap.size w ((w.alloc (.cells #[.int .i64 ppl, cv] 44)).alloc (.cells #[.int .i64 ppl, cv'] 44)) := ((Below.refl _ _).alloc (Nat.le_refl _) _).alloc (by simp) _
  have C1 := Lib.hid (eqIntS_any cv cv' xs xs _ (h1.below hB) (h3.below hB))
  have HX : Hid ((xs == xs) = true) := by have : (xs == xs) = true := by simp
                                          exact Lib.hid this
  have HB := Lib.hid hB
  clear h1 h3 hB
  have hne : (ppl != ppl) = false := by simp
  go_enter Try.func59, Try.ntmps59
  go_wp2_with fail
  refine C1.out.mono ?_
  rintro e w1 ⟨rfl, n1, rfl⟩
  rw [HX.out]
  go_wp2_with fail
  go_ret
  exact ⟨rfl, below_drewN HB.out _⟩
end Go.Proofs.Ythihcnlbohhemaa
