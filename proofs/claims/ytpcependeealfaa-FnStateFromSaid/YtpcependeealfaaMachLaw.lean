/- The exact laws' helpers on machines: sizes, copies, equality. -/
import Derived.Test.YtpcependeealfaaMach
import Derived.Test.YtpcependeealfaaCopiesB
import Derived.Test.YtpcependeealfaaHeldB
namespace Go.Proofs.Ytpcependeealfaa
open Go.RowKit

/-- what is left of a room -/
def szOf (n : Nat) (left : Int) : Int := if left < n then -1 else left - n
theorem szIntS_any (v : Value) (xs : List Int) (left : Int) (w : World) (h : IsInts w v xs) (h0 : 0 ≤ left) (h1 : left ≤ 1048576) :
    Calls Try.prog 92 #[v, .int .i64 left] w fun e w' => e = .returned (.int .i64 (szOf xs.length left)) ∧ w = w' := by
  obtain ⟨a, cap, rfl, ha1, ha2, ha⟩ := h
  unfold maxLen at ha2
  clear ha
  by_cases hlt : left < xs.length
  · have HS : Hid (szOf xs.length left = -1) := by have : szOf xs.length left = -1 := by simp [szOf, hlt]
                                                   exact Lib.hid this
    have hlt' : left - xs.length < 0 := by omega
    go_enter Try.func92, Try.ntmps92
    go_wp2
    go_ret
    exact ⟨ret_int HS.out.symm, rfl⟩
  · have HS : Hid (szOf xs.length left = left - xs.length) := by have : szOf xs.length left = left - xs.length := by simp [szOf, hlt]
                                                                 exact Lib.hid this
    have hlt' : ¬ left - xs.length < 0 := by omega
    go_enter Try.func92, Try.ntmps92
    go_wp2
    go_ret
    exact ⟨ret_int HS.out.symm, rfl⟩

theorem szBoolS_any (v : Value) (xs : List Bool) (left : Int) (w : World) (h : IsBools w v xs) (h0 : 0 ≤ left) (h1 : left ≤ 1048576) :
    Calls Try.prog 93 #[v, .int .i64 left] w fun e w' => e = .returned (.int .i64 (szOf xs.length left)) ∧ w = w' := by
  obtain ⟨a, cap, rfl, ha1, ha2, ha⟩ := h
  unfold maxLen at ha2
  clear ha
  by_cases hlt : left < xs.length
  · have HS : Hid (szOf xs.length left = -1) := by have : szOf xs.length left = -1 := by simp [szOf, hlt]
                                                   exact Lib.hid this
    have hlt' : left - xs.length < 0 := by omega
    go_enter Try.func93, Try.ntmps93
    go_wp2
    go_ret
    exact ⟨ret_int HS.out.symm, rfl⟩
  · have HS : Hid (szOf xs.length left = left - xs.length) := by have : szOf xs.length left = left - xs.length := by simp [szOf, hlt]
                                                                 exact Lib.hid this
    have hlt' : ¬ left - xs.length < 0 := by omega
    go_enter Try.func93, Try.ntmps93
    go_wp2
    go_ret
    exact ⟨ret_int HS.out.symm, rfl⟩

/-- szMachine's number -/
def szM (m : M) (left : Int) : Int := if szOf m.next.length left < 0 then -1 else szOf m.ends.length (szOf m.next.length left)
theorem szM_bd {m : M} {left : Int} (h : 0 ≤ szM m left) : m.next.length + m.ends.length ≤ left := by
  by_cases h1 : left < m.next.length
  · simp [szM, szOf, h1] at h
  · by_cases h2 : left - m.next.length < m.ends.length
    · have : ¬ left - m.next.length < 0 := by omega
      simp [szM, szOf, h1, h2, this] at h
    · omega

set_option maxHeartbeats 400000 in
theorem szMachine_any (m : M) (nv ev : Value) (left : Int) (w : World) (h1 : IsInts w nv m.next) (h2 : IsBools w ev m.ends) (h0 : 0 ≤ left) (hl : left ≤ 1048576) :
    Calls Try.prog 53 #[.agg #[.int .i64 m.st, nv, ev], .int .i64 left] w fun e w' => e = .returned (.int .i64 (szM m left)) ∧ Below w.heap.size w w' := by
  obtain ⟨st, xs, bs⟩ := m
  simp only at h1 h2
  have hb : Below w.heap.size w (w.alloc (.cells #[.int .i64 st, nv, ev] 55)) := (Below.refl _ _).alloc (Nat.le_refl _) _
  have C1 := Lib.hid (szIntS_any nv xs left _ (h1.below hb) h0 hl)
  have H2 := Lib.hid (h2.below hb)
  have HB := Lib.hid hb
  have hsz : szOf xs.length left ≤ 1048576 := by unfold szOf; split <;> omega
  clear h1 h2 hb
  by_cases hn : szOf xs.length left < 0
  · have HM : Hid (szM ⟨st, xs, bs⟩ left = -1) := by have : szM ⟨st, xs, bs⟩ left = -1 := by simp [szM, hn]
                                                     exact Lib.hid this
    go_enter Try.func53, Try.ntmps53
    go_wp2_with fail
    refine C1.out.mono ?_
    rintro e w1 ⟨rfl, rfl⟩
    go_wp2_with fail
    go_ret
    exact ⟨ret_int HM.out.symm, HB.out⟩
  · have HM : Hid (szM ⟨st, xs, bs⟩ left = szOf bs.length (szOf xs.length left)) := by have : szM ⟨st, xs, bs⟩ left = szOf bs.length (szOf xs.length left) := by simp [szM, hn]
                                                                                       exact Lib.hid this
    have C2 := Lib.hid (szBoolS_any ev bs (szOf xs.length left) _ H2.out (by omega) hsz)
    generalize szOf xs.length left = l1 at *
    go_enter Try.func53, Try.ntmps53
    go_wp2_with fail
    refine C1.out.mono ?_
    rintro e w1 ⟨rfl, rfl⟩
    go_wp2_with fail
    refine C2.out.mono ?_
    rintro e w1 ⟨rfl, rfl⟩
    by_cases hn2 : szOf bs.length l1 < 0
    · have HE : Hid (szOf bs.length l1 = -1) := by
        have : szOf bs.length l1 = -1 := by unfold szOf at hn2 ⊢; split <;> rename_i h <;> simp only [h, if_true, if_false] at hn2 <;> omega
        exact Lib.hid this
      go_wp2_with fail
      go_ret
      exact ⟨ret_int (by rw [HM.out, HE.out]), HB.out⟩
    · go_wp2_with fail
      go_ret
      exact ⟨ret_int HM.out.symm, HB.out⟩

theorem owns_slice {w : World} {base : Nat} {e : TypeId} {size : Nat} {v : Value} {n : Nat} {xs : List Value} (h : w.ownsRow base e size v n xs) : ∃ a k p, v = .slice a k p := by
  rcases h.2 with ⟨h, _⟩ | ⟨g, cap, cur, h, _⟩
  · exact ⟨_, _, _, h⟩
  · exact ⟨_, _, _, h⟩
theorem owns_below {w w' : World} {base : Nat} {e : TypeId} {size : Nat} {v : Value} {n : Nat} {xs : List Value} (h : w.ownsRow base e size v n xs) (hb : Below w.heap.size w w') : w'.ownsRow base e size v n xs :=
  h.kept (row := none) ⟨hb.os, hb.tape, hb.output, hb.size, fun k hk _ => hb.block k hk⟩ (by cases v.ownBlock <;> simp)

/-- a fresh machine -/
def MachPost (m : M) (w : World) (e : Ending) (w' : World) : Prop := ∃ nv ev, e = .returned (.agg #[.int .i64 m.st, nv, ev]) ∧ IsInts w' nv m.next ∧ IsBools w' ev m.ends ∧ Below w.heap.size w w'

set_option maxHeartbeats 800000 in
theorem toMachine_any (m : M) (nv ev : Value) (w : World) (h1 : IsInts w nv m.next) (h2 : IsBools w ev m.ends) (hx1 : m.next.length ≤ 1048576) (hx2 : m.ends.length ≤ 1048576) :
    Calls Try.prog 54 #[.agg #[.int .i64 m.st, nv, ev]] w (MachPost m w) := by
  obtain ⟨st, xs, bs⟩ := m
  simp only at h1 h2 hx1 hx2
  have H1 := Lib.hid h1
  have H2 := Lib.hid h2
  clear h1 h2
  go_enter Try.func54, Try.ntmps54
  go_wp2_with fail
  have hB0 : Below w.heap.size w (((w.alloc (.cells #[.int .i64 st, nv, ev] 55)).alloc (.cells #[.int .i64 0, .slice none 0 0, .slice none 0 0] 26)).alloc (.cells #[.int .i64 st, .slice none 0 0, .slice none 0 0] 26)) := (((Below.refl _ _).alloc (Nat.le_refl _) _).alloc (by simp) _).alloc (by simp; omega) _
  refine (toIntS_any nv xs _ (H1.out.below hB0) hx1).mono ?_
  rintro e w1 ⟨nv', rfl, ho1, hb1⟩
  obtain ⟨a1, n1, p1, rfl⟩ := owns_slice ho1
  simp only [World.size_alloc] at ho1 hb1
  have HO1 := Lib.hid ho1
  clear ho1
  have s1 := hb1.size
  simp only [World.size_alloc] at s1
  have c02 : w1.cell? ⟨w.heap.size, 2, none⟩ = some ev := (hb1.cell (p := ⟨w.heap.size, 2, none⟩) (by show w.heap.size < _; omega)).trans (by go_simp)
  have c10 : w1.cell? ⟨w.heap.size + 1, 0, none⟩ = some (.int .i64 0) := (hb1.cell (p := ⟨w.heap.size + 1, 0, none⟩) (by show w.heap.size + 1 < _; omega)).trans (by go_simp)
  have c11 : w1.cell? ⟨w.heap.size + 1, 1, none⟩ = some (.slice none 0 0) := (hb1.cell (p := ⟨w.heap.size + 1, 1, none⟩) (by show w.heap.size + 1 < _; omega)).trans (by go_simp)
  have c12 : w1.cell? ⟨w.heap.size + 1, 2, none⟩ = some (.slice none 0 0) := (hb1.cell (p := ⟨w.heap.size + 1, 2, none⟩) (by show w.heap.size + 1 < _; omega)).trans (by go_simp)
  have c20 : w1.cell? ⟨w.heap.size + 1 + 1, 0, none⟩ = some (.int .i64 st) := (hb1.cell (p := ⟨w.heap.size + 1 + 1, 0, none⟩) (by show w.heap.size + 1 + 1 < _; omega)).trans (by go_simp)
  have c21 : w1.cell? ⟨w.heap.size + 1 + 1, 1, none⟩ = some (.slice none 0 0) := (hb1.cell (p := ⟨w.heap.size + 1 + 1, 1, none⟩) (by show w.heap.size + 1 + 1 < _; omega)).trans (by go_simp)
  have c22 : w1.cell? ⟨w.heap.size + 1 + 1, 2, none⟩ = some (.slice none 0 0) := (hb1.cell (p := ⟨w.heap.size + 1 + 1, 2, none⟩) (by show w.heap.size + 1 + 1 < _; omega)).trans (by go_simp)
  have f1 : ∀ j, w1.frozen? ⟨w.heap.size + 1, j, none⟩ = false := fun j => (hb1.frozen (p := ⟨w.heap.size + 1, j, none⟩) (by show w.heap.size + 1 < _; omega)).trans (by go_simp)
  have f2 : ∀ j, w1.frozen? ⟨w.heap.size + 1 + 1, j, none⟩ = false := fun j => (hb1.frozen (p := ⟨w.heap.size + 1 + 1, j, none⟩) (by show w.heap.size + 1 + 1 < _; omega)).trans (by go_simp)
  have hb1' : Below w.heap.size w w1 := hB0.trans (hb1.mono (by omega))
  clear hb1 hB0
  go_wp2_with fail
  generalize hW2 : w1.setCell ⟨w.heap.size + 1 + 1, 1, none⟩ (.slice a1 n1 p1) = w2
  have hb2 : Below w.heap.size w w2 := by rw [← hW2]; exact hb1'.setCell (p := ⟨w.heap.size + 1 + 1, 1, none⟩) (by show _ ≤ w.heap.size + 1 + 1; omega) _
  have ho2 : w2.ownsRow (w.heap.size + 1 + 1 + 1) 3 1 (.slice a1 n1 p1) xs.length (xs.map (Value.int .i64)) := by rw [← hW2]; exact ownsRow_setCell_below HO1.out (a := ⟨w.heap.size + 1 + 1, 1, none⟩) (by show w.heap.size + 1 + 1 < _; omega) _
  have s2 : w1.heap.size = w2.heap.size := by rw [← hW2]; simp
  have d10 : w2.cell? ⟨w.heap.size + 1, 0, none⟩ = some (.int .i64 0) := by rw [← hW2, World.cell?_setCell_other _ _ _ _ (by simp)]; exact c10
  have d11 : w2.cell? ⟨w.heap.size + 1, 1, none⟩ = some (.slice none 0 0) := by rw [← hW2, World.cell?_setCell_other _ _ _ _ (by simp)]; exact c11
  have d12 : w2.cell? ⟨w.heap.size + 1, 2, none⟩ = some (.slice none 0 0) := by rw [← hW2, World.cell?_setCell_other _ _ _ _ (by simp)]; exact c12
  have d20 : w2.cell? ⟨w.heap.size + 1 + 1, 0, none⟩ = some (.int .i64 st) := by rw [← hW2, World.cell?_setCell_other _ _ _ _ (by simp)]; exact c20
  have d21 : w2.cell? ⟨w.heap.size + 1 + 1, 1, none⟩ = some (.slice a1 n1 p1) := by rw [← hW2]; exact World.cell?_setCell_same' _ _ _ (by rw [c21]; rfl)
  have d22 : w2.cell? ⟨w.heap.size + 1 + 1, 2, none⟩ = some (.slice none 0 0) := by rw [← hW2, World.cell?_setCell_other _ _ _ _ (by simp)]; exact c22
  have g1 : ∀ j, w2.frozen? ⟨w.heap.size + 1, j, none⟩ = false := fun j => by rw [← hW2, World.frozen?_setCell]; exact f1 j
  have g2 : ∀ j, w2.frozen? ⟨w.heap.size + 1 + 1, j, none⟩ = false := fun j => by rw [← hW2, World.frozen?_setCell]; exact f2 j
  clear hW2 c02 c10 c11 c12 c20 c21 c22 f1 f2 HO1 hb1'
  refine (toBoolS_any ev bs w2 (H2.out.below hb2) hx2).mono ?_
  rintro e w3 ⟨ev', rfl, ho3, hb3⟩
  obtain ⟨a3, n3, p3, rfl⟩ := owns_slice ho3
  have HO3 := Lib.hid ho3
  have HO2 := Lib.hid (owns_below ho2 hb3)
  clear ho3 ho2
  have s3 := hb3.size
  have c10 : w3.cell? ⟨w.heap.size + 1, 0, none⟩ = some (.int .i64 0) := (hb3.cell (p := ⟨w.heap.size + 1, 0, none⟩) (by show w.heap.size + 1 < _; omega)).trans (by assumption)
  have c11 : w3.cell? ⟨w.heap.size + 1, 1, none⟩ = some (.slice none 0 0) := (hb3.cell (p := ⟨w.heap.size + 1, 1, none⟩) (by show w.heap.size + 1 < _; omega)).trans (by assumption)
  have c12 : w3.cell? ⟨w.heap.size + 1, 2, none⟩ = some (.slice none 0 0) := (hb3.cell (p := ⟨w.heap.size + 1, 2, none⟩) (by show w.heap.size + 1 < _; omega)).trans (by assumption)
  have c20 : w3.cell? ⟨w.heap.size + 1 + 1, 0, none⟩ = some (.int .i64 st) := (hb3.cell (p := ⟨w.heap.size + 1 + 1, 0, none⟩) (by show w.heap.size + 1 + 1 < _; omega)).trans (by assumption)
  have c21 : w3.cell? ⟨w.heap.size + 1 + 1, 1, none⟩ = some (.slice a1 n1 p1) := (hb3.cell (p := ⟨w.heap.size + 1 + 1, 1, none⟩) (by show w.heap.size + 1 + 1 < _; omega)).trans (by assumption)
  have c22 : w3.cell? ⟨w.heap.size + 1 + 1, 2, none⟩ = some (.slice none 0 0) := (hb3.cell (p := ⟨w.heap.size + 1 + 1, 2, none⟩) (by show w.heap.size + 1 + 1 < _; omega)).trans (by assumption)
  have f1 : ∀ j, w3.frozen? ⟨w.heap.size + 1, j, none⟩ = false := fun j => (hb3.frozen (p := ⟨w.heap.size + 1, j, none⟩) (by show w.heap.size + 1 < _; omega)).trans (g1 j)
  have f2 : ∀ j, w3.frozen? ⟨w.heap.size + 1 + 1, j, none⟩ = false := fun j => (hb3.frozen (p := ⟨w.heap.size + 1 + 1, j, none⟩) (by show w.heap.size + 1 + 1 < _; omega)).trans (g2 j)
  have hb3' : Below w.heap.size w w3 := hb2.trans (hb3.mono hb2.size)
  clear d10 d11 d12 d20 d21 d22 g1 g2 hb2 hb3
  have q10 := f1 0
  have q11 := f1 1
  have q12 := f1 2
  have q22 := f2 2
  clear f1 f2
  go_wp2
  have e1 : ∀ (W : World), W = (((w3.setCell ⟨w.heap.size + 1 + 1, 2, none⟩ (.slice a3 n3 p3)).setCell ⟨w.heap.size + 1, 0, none⟩ (.int .i64 st)).setCell ⟨w.heap.size + 1, 1, none⟩ (.slice a1 n1 p1)).setCell ⟨w.heap.size + 1, 2, none⟩ (.slice a3 n3 p3) →
      W.cell? ⟨w.heap.size + 1, 0, none⟩ = some (.int .i64 st) ∧ W.cell? ⟨w.heap.size + 1, 1, none⟩ = some (.slice a1 n1 p1) ∧ W.cell? ⟨w.heap.size + 1, 2, none⟩ = some (.slice a3 n3 p3) ∧ IsInts W (.slice a1 n1 p1) xs ∧ IsBools W (.slice a3 n3 p3) bs ∧ Below w.heap.size w W := by
    rintro W rfl
    refine ⟨by go_simp, by go_simp, by go_simp, ?_, ?_, ?_⟩
    · exact IsInts.of_owns (ownsRow_setCell_below (ownsRow_setCell_below (ownsRow_setCell_below (ownsRow_setCell_below HO2.out (a := ⟨w.heap.size + 1 + 1, 2, none⟩) (by show w.heap.size + 1 + 1 < _; omega) _) (a := ⟨w.heap.size + 1, 0, none⟩) (by show w.heap.size + 1 < _; omega) _) (a := ⟨w.heap.size + 1, 1, none⟩) (by show w.heap.size + 1 < _; omega) _) (a := ⟨w.heap.size + 1, 2, none⟩) (by show w.heap.size + 1 < _; omega) _)
    · exact IsBools.of_owns (ownsRow_setCell_below (ownsRow_setCell_below (ownsRow_setCell_below (ownsRow_setCell_below HO3.out (a := ⟨w.heap.size + 1 + 1, 2, none⟩) (by show w.heap.size + 1 + 1 < _; omega) _) (a := ⟨w.heap.size + 1, 0, none⟩) (by show w.heap.size + 1 < _; omega) _) (a := ⟨w.heap.size + 1, 1, none⟩) (by show w.heap.size + 1 < _; omega) _) (a := ⟨w.heap.size + 1, 2, none⟩) (by show w.heap.size + 1 < _; omega) _)
    · exact (((hb3'.setCell (p := ⟨w.heap.size + 1 + 1, 2, none⟩) (by show _ ≤ w.heap.size + 1 + 1; omega) _).setCell (p := ⟨w.heap.size + 1, 0, none⟩) (by show _ ≤ w.heap.size + 1; omega) _).setCell (p := ⟨w.heap.size + 1, 1, none⟩) (by show _ ≤ w.heap.size + 1; omega) _).setCell (p := ⟨w.heap.size + 1, 2, none⟩) (by show _ ≤ w.heap.size + 1; omega) _
  obtain ⟨x0, x1, x2, hi, hbo, hbe⟩ := e1 _ rfl
  refine bodyPost_ret (v := .agg #[.int .i64 st, .slice a1 n1 p1, .slice a3 n3 p3]) ?_ rfl ⟨_, _, rfl, hi, hbo, hbe⟩
  simp [results, Try.results54, go_sem, x0, x1, x2]

set_option maxHeartbeats 800000 in
theorem eqMachine_same (m : M) (nv ev nv' ev' : Value) (w : World) (h1 : IsInts w nv m.next) (h2 : IsBools w ev m.ends) (h3 : IsInts w nv' m.next) (h4 : IsBools w ev' m.ends) :
    Calls Try.prog 55 #[.agg #[.int .i64 m.st, nv, ev], .agg #[.int .i64 m.st, nv', ev']] w fun e w' => e = .returned (.bool true) ∧ Below w.heap.size w w' := by
  obtain ⟨st, xs, bs⟩ := m
  simp only at h1 h2 h3 h4 ⊢
  have hB : Below w.heap.size w ((w.alloc (.cells #[.int .i64 st, nv, ev] 26)).alloc (.cells #[.int .i64 st, nv', ev'] 26)) := ((Below.refl _ _).alloc (Nat.le_refl _) _).alloc (by simp) _
  have C1 := Lib.hid (eqIntS_any nv nv' xs xs _ (h1.below hB) (h3.below hB))
  have HX : Hid ((xs == xs) = true) := by have : (xs == xs) = true := by simp
                                          exact Lib.hid this
  have HY : Hid ((bs == bs) = true) := by have : (bs == bs) = true := by simp
                                          exact Lib.hid this
  have H2 := Lib.hid (h2.below hB)
  have H4 := Lib.hid (h4.below hB)
  have HB := Lib.hid hB
  clear h1 h2 h3 h4 hB
  have hne : (st != st) = false := by simp
  go_enter Try.func55, Try.ntmps55
  go_wp2_with fail
  refine C1.out.mono ?_
  rintro e w1 ⟨rfl, n1, rfl⟩
  rw [HX.out]
  have hd := below_drewN (Below.refl (((w.alloc (.cells #[.int .i64 st, nv, ev] 26)).alloc (.cells #[.int .i64 st, nv', ev'] 26))).heap.size ((w.alloc (.cells #[.int .i64 st, nv, ev] 26)).alloc (.cells #[.int .i64 st, nv', ev'] 26))) n1
  have C2 := Lib.hid (eqBoolS_any ev ev' bs bs _ (H2.out.below hd) (H4.out.below hd))
  clear hd
  go_wp2_with fail
  refine C2.out.mono ?_
  rintro e w1 ⟨rfl, n2, rfl⟩
  rw [HY.out]
  go_wp2_with fail
  go_ret
  exact ⟨rfl, below_drewN HB.out _⟩
end Go.Proofs.Ytpcependeealfaa
