/- How slices of marks lie in memory: five cells a mark. No condition. -/
import Derived.Test.YtlbblfbiiceofaaTermMath
import Derived.Test.YtlbblfbiiceofaaReads
import Derived.Test.YtlbblfbiiceofaaFrame
namespace Go.Proofs.Ytlbblfbiiceofaa
open Go.RowKit Go.ChangeShapes Go.WideShapes Go.ChangeAt Go.Deep

/-- the five cells of a mark -/
def Mk.cells (m : Mk) : List Value := [.int .i64 m.kind, .int .i64 m.its.kind, .string m.its.letter, .string m.its.thn, .int .i64 m.its.many]
def Mk.val (m : Mk) : Value := .agg #[.int .i64 m.kind, .int .i64 m.its.kind, .string m.its.letter, .string m.its.thn, .int .i64 m.its.many]
def markAt (w : World) (g o : Nat) (m : Mk) : Prop :=
  w.cell? ⟨g, o, none⟩ = some (.int .i64 m.kind) ∧ w.cell? ⟨g, o + 1, none⟩ = some (.int .i64 m.its.kind) ∧ w.cell? ⟨g, o + 2, none⟩ = some (.string m.its.letter) ∧ w.cell? ⟨g, o + 3, none⟩ = some (.string m.its.thn) ∧ w.cell? ⟨g, o + 4, none⟩ = some (.int .i64 m.its.many)
/-- what every mark in memory keeps -/
def Mk.wf (m : Mk) : Prop := (Lit.int .i64 m.kind).wf = true ∧ (Lit.int .i64 m.its.kind).wf = true ∧ m.its.letter.size ≤ maxLen ∧ m.its.thn.size ≤ maxLen ∧ (Lit.int .i64 m.its.many).wf = true
def IsMarks (w : World) (v : Value) (ms : List Mk) : Prop :=
  ∃ (a : Option Addr) (cap : Nat), v = .slice a ms.length cap ∧ ms.length ≤ cap ∧ cap ≤ maxLen ∧
    (ms = [] ∨ ∃ g off : Nat, a = some ⟨g, off, none⟩ ∧ g < w.heap.size ∧ ∀ k (h : k < ms.length), markAt w g (off + k * 5) ms[k])
theorem IsMarks.nil (w : World) : IsMarks w (.slice none 0 0) [] := ⟨none, 0, rfl, Nat.le_refl _, Nat.zero_le _, .inl rfl⟩
theorem markAt.below {w w' : World} {g o : Nat} {m : Mk} {B : Nat} (h : markAt w g o m) (hb : Below B w w') (hg : g < B) : markAt w' g o m := by
  obtain ⟨h0, h1, h2, h3, h4⟩ := h
  exact ⟨(hb.cell (p := ⟨g, o, none⟩) hg).trans h0, (hb.cell (p := ⟨g, o + 1, none⟩) hg).trans h1, (hb.cell (p := ⟨g, o + 2, none⟩) hg).trans h2, (hb.cell (p := ⟨g, o + 3, none⟩) hg).trans h3, (hb.cell (p := ⟨g, o + 4, none⟩) hg).trans h4⟩
theorem IsMarks.below {w w' : World} {v : Value} {ms : List Mk} (h : IsMarks w v ms) (hb : Below w.heap.size w w') : IsMarks w' v ms := by
  obtain ⟨a, cap, hv, h1, h2, h3⟩ := h
  exact ⟨a, cap, hv, h1, h2, h3.imp id fun ⟨g, off, ha, hg, hc⟩ => ⟨g, off, ha, Nat.lt_of_lt_of_le hg hb.size, fun k hk => (hc k hk).below hb hg⟩⟩
def cellsM : List Mk → List Value
  | [] => []
  | m :: ms => m.cells ++ cellsM ms
theorem cellsM_length (ms : List Mk) : (cellsM ms).length = ms.length * 5 := by
  induction ms with
  | nil => rfl
  | cons m ms ih => simp only [cellsM, List.length_append, ih, List.length_cons, Mk.cells, List.length_nil]; omega
theorem cellsM_append (a b : List Mk) : cellsM (a ++ b) = cellsM a ++ cellsM b := by
  induction a with
  | nil => rfl
  | cons m a ih => simp [cellsM, ih]
theorem cellsM_at (ms : List Mk) : ∀ k (h : k < ms.length) j, j < 5 → (cellsM ms)[k * 5 + j]? = (ms[k]).cells[j]? := by
  induction ms with
  | nil => intro k h; exact absurd h (Nat.not_lt_zero k)
  | cons m ms ih =>
    intro k h j hj
    have hl : m.cells.length = 5 := rfl
    match k, h with
    | 0, _ =>
      simp only [cellsM, Nat.zero_mul, Nat.zero_add, List.getElem_cons_zero]
      rw [List.getElem?_append_left (by rw [hl]; exact hj)]
    | k + 1, h =>
      simp only [cellsM, List.getElem_cons_succ]
      rw [List.getElem?_append_right (by rw [hl]; omega), hl, show (k + 1) * 5 + j - 5 = k * 5 + j by omega]
      exact ih k (by simpa using h) j hj
theorem IsMarks.of_owns {w : World} {base : Nat} {e : TypeId} {v : Value} {ms : List Mk} (h : w.ownsRow base e 5 v ms.length (cellsM ms)) : IsMarks w v ms := by
  rcases h.2 with ⟨rfl, hn⟩ | ⟨g, cap, cur, rfl, hb, hg, h1, h2, h3, h4⟩
  · obtain rfl : ms = [] := List.eq_nil_of_length_eq_zero hn
    exact IsMarks.nil w
  · refine ⟨some ⟨g, 0, none⟩, cap, rfl, h1, h2, .inr ⟨g, 0, rfl, (h.lt g rfl).2, fun k hk => ?_⟩⟩
    have hc : ∀ j, j < 5 → w.cell? ⟨g, 0 + k * 5 + j, none⟩ = (ms[k]).cells[j]? := fun j hj => by
      rw [Nat.zero_add, h.cellAt (k * 5 + j) (by omega)]
      exact cellsM_at ms k hk j hj
    exact ⟨hc 0 (by omega), hc 1 (by omega), hc 2 (by omega), hc 3 (by omega), hc 4 (by omega)⟩

section
variable {H : Type} {enc : TypeId × Value → H} {P : Program} {w : World}
theorem marks_read {t e r i s : TypeId} {f0 f1 g0 g1 g2 g3 : Field} {fuel : Nat} {v : Value} {x : DataW H × List MemPlace}
    (ht : P.underlying t = some (.slice e)) (he : P.underlying e = some (.struct #[f0, f1])) (hr : P.underlying r = some (.struct #[g0, g1, g2, g3])) (hi : P.underlying i = some (.int .i64)) (hs : P.underlying s = some .string)
    (hf : f0.type = i ∧ f0.offset = 0 ∧ f1.type = r ∧ f1.offset = 1) (hg : g0.type = i ∧ g0.offset = 0 ∧ g1.type = s ∧ g1.offset = 1 ∧ g2.type = s ∧ g2.offset = 2 ∧ g3.type = i ∧ g3.offset = 3)
    (hci : P.cellsOf i = 1) (hcs : P.cellsOf s = 1) (hcr : P.cellsOf r = 4) (hce : P.cellsOf e = 5)
    (h : DataW.trod enc P w 0 (fun _ => true) true fuel t [v] = some x) : ∃ ms : List Mk, IsMarks w v ms ∧ ∀ m ∈ ms, m.wf := by
  rcases open_slice ht h with ⟨hcs', _⟩ | ⟨a, len, cap, m, n, D, Pl, hcs', _, hl, hm, hmm, _, hcell⟩
  · simp only [List.cons.injEq, and_true] at hcs'
    subst hcs'
    exact ⟨[], IsMarks.nil w, fun n h => by cases h⟩
  · simp only [List.cons.injEq, and_true] at hcs'
    subst hcs'
    have hmc : m = cap := by simpa using hmm
    subst hmc
    obtain ⟨e0, o0, e1, o1⟩ := hf
    obtain ⟨t0, p0, t1, p1, t2, p2, t3, p3⟩ := hg
    rw [hce] at hcell
    have hv : ∀ k, k < m → ∃ M : Mk, (∀ j, j < 5 → w.cell? ((a.add (k * 5)).add j) = M.cells[j]?) ∧ M.wf := fun k hk => by
      obtain ⟨cs, h1, h2⟩ := hcell k hk
      obtain ⟨_, hlen, hat⟩ := World.cells?_some h1
      match cs, hlen with
      | [x0, x1, x2, x3, x4], _ =>
        obtain ⟨y0, y1, n1, _, _, k0, k1⟩ := trod_struct2 he h2
        rw [e0, o0, hci] at k0
        rw [e1, o1, hcr] at k1
        simp only [List.drop_zero, List.take_succ_cons, List.take_zero, List.drop_succ_cons] at k0 k1
        obtain ⟨kd, hk0, _, w0⟩ := DataW.trod_int hi k0
        simp only [List.cons.injEq, and_true] at hk0
        obtain ⟨z0, z1, z2, z3, n2, _, _, q0, q1, q2, q3⟩ := Go.Joins.trod_struct4 hr k1
        rw [t0, p0, hci] at q0
        rw [t1, p1, hcs] at q1
        rw [t2, p2, hcs] at q2
        rw [t3, p3, hci] at q3
        simp only [List.drop_zero, List.take_succ_cons, List.take_zero, List.drop_succ_cons] at q0 q1 q2 q3
        obtain ⟨rk, hq0, _, u0⟩ := DataW.trod_int hi q0
        obtain ⟨le, hq1, _, u1⟩ := DataW.trod_string hs q1
        obtain ⟨te, hq2, _, u2⟩ := DataW.trod_string hs q2
        obtain ⟨mn, hq3, _, u3⟩ := DataW.trod_int hi q3
        simp only [List.cons.injEq, and_true] at hq0 hq1 hq2 hq3
        subst hk0 hq0 hq1 hq2 hq3
        exact ⟨⟨kd, rk, le, te, mn⟩, fun j hj => hat j hj, w0, u0, u1, u2, u3⟩
    obtain ⟨M, hM⟩ := choose_lt (α := Mk) (p := fun k M => (∀ j, j < 5 → w.cell? ((a.add (k * 5)).add j) = M.cells[j]?) ∧ M.wf) hv
    refine ⟨(List.range len).map M, ⟨some a, m, by simp, by simpa using hl, hm, ?_⟩, fun x hx => ?_⟩
    · by_cases h0 : len = 0
      · exact .inl (by rw [h0]; rfl)
      · have hfirst : w.cell? (a.add 0) = some (.int .i64 (M 0).kind) := by
          have := (hM 0 (by omega)).1 0 (by omega)
          simpa [Addr.add, Mk.cells] using this
        obtain ⟨g, off, rfl, hgl⟩ := plain_addr hfirst
        refine .inr ⟨g, off, rfl, hgl, fun k hk => ?_⟩
        have hk' : k < len := by simpa using hk
        have hc : ∀ j, j < 5 → w.cell? ⟨g, off + k * 5 + j, none⟩ = (M k).cells[j]? := fun j hj => by
          have := (hM k (by omega)).1 j hj
          rwa [add_off, add_off] at this
        simp only [List.getElem_map, List.getElem_range]
        exact ⟨hc 0 (by omega), hc 1 (by omega), hc 2 (by omega), hc 3 (by omega), hc 4 (by omega)⟩
    · obtain ⟨k, hk, rfl⟩ := List.mem_map.1 hx
      exact (hM k (by have := List.mem_range.1 hk; omega)).2
end
end Go.Proofs.Ytlbblfbiiceofaa
