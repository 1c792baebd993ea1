/- spec.l2Order answers the machine of a search over classes. No condition. -/
import Derived.Test.YtlbblfbiiceofaaSpecLive
import Derived.Test.YtlbblfbiiceofaaFromWalk
import Derived.Deep.QuietTactic
import Derived.BigQuiet
namespace Go.Proofs.Ytlbblfbiiceofaa
open Go.RowKit

theorem idxOf_at {α : Type} [DecidableEq α] : ∀ {l : List α} {a : α} (_h : a ∈ l), ∃ h' : l.idxOf a < l.length, l[l.idxOf a] = a
  | x :: l, a, h => by
    by_cases e : x = a
    · subst e
      exact ⟨by rw [List.idxOf_cons_self]; simp, by simp⟩
    · have hm : a ∈ l := by rcases List.mem_cons.1 h with r | r; exact absurd r.symm e; exact r
      obtain ⟨h1, h2⟩ := idxOf_at hm
      have e2 : (x :: l).idxOf a = l.idxOf a + 1 := by
        have h : (x == a) = false := by simpa using e
        rw [List.idxOf_cons, h, cond_false]
      refine ⟨by rw [e2]; simpa using h1, ?_⟩
      simp only [e2, List.getElem_cons_succ]; exact h2
theorem idxOf_not {α : Type} [DecidableEq α] : ∀ {l : List α} {a : α} {j : Nat} (_h : j < l.idxOf a) (h' : j < l.length), l[j] ≠ a
  | x :: l, a, j, h, h' => by
    by_cases e : x = a
    · subst e; rw [List.idxOf_cons_self] at h; omega
    · have e2 : (x :: l).idxOf a = l.idxOf a + 1 := by
        have h : (x == a) = false := by simpa using e
        rw [List.idxOf_cons, h, cond_false]
      rw [e2] at h
      cases j with
      | zero => simpa using e
      | succ j => simp only [List.getElem_cons_succ]; exact idxOf_not (by omega) _
theorem idxOf_nodup {α : Type} [DecidableEq α] {l : List α} {k : Nat} (hn : l.Nodup) (h : k < l.length) : l.idxOf l[k] = k := by
  obtain ⟨h1, h2⟩ := idxOf_at (List.getElem_mem h)
  rcases Nat.lt_trichotomy (l.idxOf l[k]) k with e | e | e
  · exact absurd h2 (List.pairwise_iff_getElem.1 hn _ _ h1 h e)
  · exact e
  · exact absurd h2.symm (List.pairwise_iff_getElem.1 hn _ _ h h1 e)

/-- the first state of a class -/
def ordRep (cls : List Int) (c : Int) : Nat := cls.idxOf c
/-- how classes go on -/
def ordOn (m : M) (cls : List Int) (X : List Bool) (c : Int) (l : Nat) : Option Int :=
  if 0 ≤ m.nx (ordRep cls c : Int) (l : Int) ∧ X.getD (m.nx (ordRep cls c : Int) (l : Int)).toNat false = true then some (cls.getD (m.nx (ordRep cls c : Int) (l : Int)).toNat 0) else none
def ordEnds (m : M) (cls : List Int) (c : Int) : Bool := m.endAt (ordRep cls c : Int)
/-- where a class stands among the first ones of a row -/
def fnd (q : List Int) (b : Int) (k : Nat) : Int := if b ∈ q.take k then (q.idxOf b : Int) else -1
theorem fnd_zero (q : List Int) (b : Int) : fnd q b 0 = -1 := by simp [fnd]
theorem mem_take_succ {q : List Int} {b : Int} {k : Nat} (h : k < q.length) : b ∈ q.take (k + 1) ↔ b ∈ q.take k ∨ b = q[k] := by
  rw [List.take_succ_eq_append_getElem h, List.mem_append, List.mem_singleton]
theorem fnd_hit {q : List Int} {b : Int} {k : Nat} (hn : q.Nodup) (h : k < q.length) (e : q[k] = b) : fnd q b (k + 1) = k := by
  subst e
  rw [fnd, if_pos ((mem_take_succ h).2 (.inr rfl)), idxOf_nodup hn h]
theorem fnd_miss {q : List Int} {b : Int} {k : Nat} (h : k < q.length) (e : q[k] ≠ b) : fnd q b (k + 1) = fnd q b k := by
  unfold fnd
  have hi : b ∈ q.take (k + 1) ↔ b ∈ q.take k := (mem_take_succ h).trans ⟨fun r => r.resolve_right (fun x => e x.symm), .inl⟩
  by_cases hb : b ∈ q.take k
  · rw [if_pos hb, if_pos (hi.2 hb)]
  · rw [if_neg hb, if_neg (fun x => hb (hi.1 x))]
theorem fnd_all (q : List Int) (b : Int) : fnd q b q.length = if b ∈ q then (q.idxOf b : Int) else -1 := by rw [fnd, List.take_length]

/-- a machine that is being made, in an order -/
structure Ord (w0 : World) (R6 R7 : Nat) (q : List Int) (qv : Value) (nx : List Int) (nv : Value) (es : List Bool) (ev : Value) (w : World) : Prop where
  keep : Below w0.heap.size w0 w
  ap : Apart w0.heap.size [cellsT R7 #[.int .i64 0, nv, ev] 115, rowT 3 1 nv nx.length (nx.map (Value.int .i64)), rowT 4 1 ev es.length (es.map Value.bool), rowT 3 1 qv q.length (q.map (Value.int .i64)),
    cellsT R6 #[.int .i64 0, .slice none 0 0, .slice none 0 0] 115] w
section
variable {w0 : World} {R6 R7 : Nat} {q : List Int} {qv : Value} {nx : List Int} {nv : Value} {es : List Bool} {ev : Value} {w w' : World}
theorem Ord.size (h : Ord w0 R6 R7 q qv nx nv es ev w) : w0.heap.size ≤ w.heap.size := h.keep.size
theorem Ord.same (h : Ord w0 R6 R7 q qv nx nv es ev w) (hg : w.grownBy w' none) : Ord w0 R6 R7 q qv nx nv es ev w' := ⟨h.keep.grown hg h.size (fun _ e => by cases e), h.ap.same hg⟩
theorem Ord.cell (h : Ord w0 R6 R7 q qv nx nv es ev w) : w.cell? ⟨R7, 0, none⟩ = some (.int .i64 0) ∧ w.cell? ⟨R7, 1, none⟩ = some nv ∧ w.cell? ⟨R7, 2, none⟩ = some ev :=
  ⟨cellsT_cell h.ap.head 0, cellsT_cell h.ap.head 1, cellsT_cell h.ap.head 2⟩
theorem Ord.froz (h : Ord w0 R6 R7 q qv nx nv es ev w) (i : Nat) : w.frozen? ⟨R7, i, none⟩ = false := cellsT_frozen h.ap.head i
theorem Ord.rowN (h : Ord w0 R6 R7 q qv nx nv es ev w) : w.ownsRow 0 3 1 nv nx.length (nx.map (Value.int .i64)) := h.ap.at 1 (by simp)
theorem Ord.rowE (h : Ord w0 R6 R7 q qv nx nv es ev w) : w.ownsRow 0 4 1 ev es.length (es.map Value.bool) := h.ap.at 2 (by simp)
theorem Ord.rowQ (h : Ord w0 R6 R7 q qv nx nv es ev w) : w.ownsRow 0 3 1 qv q.length (q.map (Value.int .i64)) := h.ap.at 3 (by simp)
theorem Ord.nextN {x : Int} {t : TypeId} {g cp : Nat} {w1 : World} (h : Ord w0 R6 R7 q qv nx nv es ev w) (hg : (w.alloc (.cells #[.int .i64 x] t)).grownBy w1 nv.ownBlock)
    (ho : w1.ownsRow 0 3 1 (.slice (some ⟨g, 0, none⟩) (nx.length + 1) cp) (nx.length + 1) (nx.map (Value.int .i64) ++ [.int .i64 x])) (hat : nv.ownBlock = some g ∨ g = (w.alloc (.cells #[.int .i64 x] t)).heap.size) :
    Ord w0 R6 R7 q qv (nx ++ [x]) (.slice (some ⟨g, 0, none⟩) (nx.length + 1) cp) es ev (w1.setCell ⟨R7, 1, none⟩ (.slice (some ⟨g, 0, none⟩) (nx.length + 1) cp)) ∧ w1.cell? ⟨R7, 1, none⟩ = some nv ∧ w1.frozen? ⟨R7, 1, none⟩ = false := by
  have h1 := h.same (World.grownBy_alloc w (.cells #[.int .i64 x] t) none)
  have hlt := h1.ap.ltAt 1 (by simp)
  have a1 := h1.ap.turnAt 1 (by simp) hg (rowT 3 1 (.slice (some ⟨g, 0, none⟩) (nx.length + 1) cp) (nx ++ [x]).length ((nx ++ [x]).map (Value.int .i64)))
    (by show w1.ownsRow 0 _ _ _ _ _; rw [List.length_append, List.map_append]; exact ho) h1.size
    (fun j e => ⟨by cases e; exact hat.imp id (fun e => Nat.le_of_eq e.symm), (World.ownsRow.lt ho j e).2⟩)
  have hs1 : w0.heap.size ≤ w1.heap.size := Nat.le_trans h1.size hg.size
  have hb1 := (h.ap.lt R7 rfl).1
  exact ⟨⟨((h1.keep.grown hg h1.size (fun j e => (hlt j e).1)).setCell (p := ⟨R7, 1, none⟩) hb1 _), Apart.set a1 hs1 1 _⟩, cellsT_cell a1.head 1, cellsT_frozen a1.head 1⟩
theorem Ord.nextE {x : Bool} {t : TypeId} {g cp : Nat} {w1 : World} (h : Ord w0 R6 R7 q qv nx nv es ev w) (hg : (w.alloc (.cells #[.bool x] t)).grownBy w1 ev.ownBlock)
    (ho : w1.ownsRow 0 4 1 (.slice (some ⟨g, 0, none⟩) (es.length + 1) cp) (es.length + 1) (es.map Value.bool ++ [.bool x])) (hat : ev.ownBlock = some g ∨ g = (w.alloc (.cells #[.bool x] t)).heap.size) :
    Ord w0 R6 R7 q qv nx nv (es ++ [x]) (.slice (some ⟨g, 0, none⟩) (es.length + 1) cp) (w1.setCell ⟨R7, 2, none⟩ (.slice (some ⟨g, 0, none⟩) (es.length + 1) cp)) ∧ w1.cell? ⟨R7, 2, none⟩ = some ev ∧ w1.frozen? ⟨R7, 2, none⟩ = false := by
  have h1 := h.same (World.grownBy_alloc w (.cells #[.bool x] t) none)
  have hlt := h1.ap.ltAt 2 (by simp)
  have a1 := h1.ap.turnAt 2 (by simp) hg (rowT 4 1 (.slice (some ⟨g, 0, none⟩) (es.length + 1) cp) (es ++ [x]).length ((es ++ [x]).map Value.bool))
    (by show w1.ownsRow 0 _ _ _ _ _; rw [List.length_append, List.map_append]; exact ho) h1.size
    (fun j e => ⟨by cases e; exact hat.imp id (fun e => Nat.le_of_eq e.symm), (World.ownsRow.lt ho j e).2⟩)
  have hs1 : w0.heap.size ≤ w1.heap.size := Nat.le_trans h1.size hg.size
  have hb1 := (h.ap.lt R7 rfl).1
  exact ⟨⟨((h1.keep.grown hg h1.size (fun j e => (hlt j e).1)).setCell (p := ⟨R7, 2, none⟩) hb1 _), Apart.set a1 hs1 2 _⟩, cellsT_cell a1.head 2, cellsT_frozen a1.head 2⟩
theorem Ord.push {x : Int} {t : TypeId} {g cp : Nat} {w1 : World} (h : Ord w0 R6 R7 q qv nx nv es ev w) (hg : (w.alloc (.cells #[.int .i64 x] t)).grownBy w1 qv.ownBlock)
    (ho : w1.ownsRow 0 3 1 (.slice (some ⟨g, 0, none⟩) (q.length + 1) cp) (q.length + 1) (q.map (Value.int .i64) ++ [.int .i64 x])) (hat : qv.ownBlock = some g ∨ g = (w.alloc (.cells #[.int .i64 x] t)).heap.size) :
    Ord w0 R6 R7 (q ++ [x]) (.slice (some ⟨g, 0, none⟩) (q.length + 1) cp) nx nv es ev w1 := by
  have h1 := h.same (World.grownBy_alloc w (.cells #[.int .i64 x] t) none)
  have hlt := h1.ap.ltAt 3 (by simp)
  have a1 := h1.ap.turnAt 3 (by simp) hg (rowT 3 1 (.slice (some ⟨g, 0, none⟩) (q.length + 1) cp) (q ++ [x]).length ((q ++ [x]).map (Value.int .i64)))
    (by show w1.ownsRow 0 _ _ _ _ _; rw [List.length_append, List.map_append]; exact ho) h1.size
    (fun j e => ⟨by cases e; exact hat.imp id (fun e => Nat.le_of_eq e.symm), (World.ownsRow.lt ho j e).2⟩)
  exact ⟨h1.keep.grown hg h1.size (fun j e => (hlt j e).1), a1⟩
theorem Ord.len (h : Ord w0 R6 R7 q qv nx nv es ev w) (u : Int) {W : World} (hW : W = w.setCell ⟨R7, 0, none⟩ (.int .i64 u)) :
    W.cell? ⟨R7, 0, none⟩ = some (.int .i64 u) ∧ W.cell? ⟨R7, 1, none⟩ = some nv ∧ W.cell? ⟨R7, 2, none⟩ = some ev ∧ (cellsT R6 #[.int .i64 0, .slice none 0 0, .slice none 0 0] 115).says W := by
  subst hW
  have a := h.ap.set h.size 0 (.int .i64 u)
  exact ⟨cellsT_cell a.head 0, cellsT_cell a.head 1, cellsT_cell a.head 2, a.at 4 (by simp)⟩
theorem Ord.done (h : Ord w0 R6 R7 q qv nx nv es ev w) (u : Int) {x y z : Value} {W : World} (hW : W = (((w.setCell ⟨R7, 0, none⟩ (.int .i64 u)).setCell ⟨R6, 0, none⟩ x).setCell ⟨R6, 1, none⟩ y).setCell ⟨R6, 2, none⟩ z) :
    Apart w0.heap.size [rowT 3 1 nv nx.length (nx.map (Value.int .i64)), rowT 4 1 ev es.length (es.map Value.bool)] W ∧ Below w0.heap.size w0 W ∧
    W.cell? ⟨R6, 0, none⟩ = some x ∧ W.cell? ⟨R6, 1, none⟩ = some y ∧ W.cell? ⟨R6, 2, none⟩ = some z := by
  subst hW
  have hb7 := (h.ap.lt R7 rfl).1
  have hb6 := (h.ap.ltAt 4 (by simp) R6 rfl).1
  have a1 := h.ap.set h.size 0 (.int .i64 u)
  have a2 := a1.setAt 4 (by simp) rfl (by simpa using h.size) 0 x
  have a3 := a2.setAt 4 (by simp) rfl (by simpa using h.size) 1 y
  have a4 := a3.setAt 4 (by simp) rfl (by simpa using h.size) 2 z
  have c := a4.at 4 (by simp)
  refine ⟨a4.sub ?_, (((h.keep.setCell (p := ⟨R7, 0, none⟩) hb7 _).setCell (p := ⟨R6, 0, none⟩) hb6 _).setCell (p := ⟨R6, 1, none⟩) hb6 _).setCell (p := ⟨R6, 2, none⟩) hb6 _, cellsT_cell c 0, cellsT_cell c 1, cellsT_cell c 2⟩
  exact List.Sublist.cons _ (List.Sublist.cons_cons _ (List.Sublist.cons_cons _ (List.Sublist.cons _ (List.Sublist.cons _ List.Sublist.slnil))))
end

theorem ord_start (w0 : World) (s0 : Int) :
    Ord w0 w0.heap.size (w0.heap.size + 1) [s0] (.slice (some ⟨w0.heap.size + 1 + 1, 0, none⟩) 1 1) [] (.slice none 0 0) [] (.slice none 0 0)
      (((w0.alloc (.cells #[.int .i64 0, .slice none 0 0, .slice none 0 0] 115)).alloc (.cells #[.int .i64 0, .slice none 0 0, .slice none 0 0] 115)).alloc (.cells #[.int .i64 s0] 3)) := by
  have A1 := (Apart.nil w0.heap.size w0).more (World.grownBy_alloc w0 _ none) (cellsT w0.heap.size #[.int .i64 0, .slice none 0 0, .slice none 0 0] 115) (heap_alloc_new w0 _) (Nat.le_refl _) (fun j e => by cases e; simp)
  have A2 := A1.more (World.grownBy_alloc _ (.cells #[.int .i64 0, .slice none 0 0, .slice none 0 0] 115) none) (cellsT (w0.heap.size + 1) #[.int .i64 0, .slice none 0 0, .slice none 0 0] 115) (by have := heap_alloc_new (w0.alloc (.cells #[.int .i64 0, .slice none 0 0, .slice none 0 0] 115)) (.cells #[.int .i64 0, .slice none 0 0, .slice none 0 0] 115); rw [World.size_alloc] at this; exact this) (by simp) (fun j e => by cases e; simp)
  have A3 := A2.more (World.grownBy_alloc _ (.cells #[.int .i64 s0] 3) none) (rowT 3 1 (.slice (some ⟨w0.heap.size + 1 + 1, 0, none⟩) 1 1) 1 [.int .i64 s0]) (by
    have := World.ownsRow_lit (base := 0) (e := 3) (size := 1) ((w0.alloc (.cells #[.int .i64 0, .slice none 0 0, .slice none 0 0] 115)).alloc (.cells #[.int .i64 0, .slice none 0 0, .slice none 0 0] 115)) #[.int .i64 s0] 1 (Nat.zero_le _) (by unfold maxLen; omega) rfl
    rw [World.size_alloc, World.size_alloc] at this; exact this) (by simp; omega) (fun j e => by cases e; simp)
  have A6 := (A3.idle (rowT 4 1 (.slice none 0 0) 0 []) (World.ownsRow_nil _ _ _ _) rfl).idle (rowT 3 1 (.slice none 0 0) 0 []) (World.ownsRow_nil _ _ _ _) rfl
  refine ⟨(((Below.refl w0.heap.size w0).alloc (Nat.le_refl _) (.cells #[.int .i64 0, .slice none 0 0, .slice none 0 0] 115)).alloc (by simp) (.cells #[.int .i64 0, .slice none 0 0, .slice none 0 0] 115)).alloc (by simp; omega) (.cells #[.int .i64 s0] 3), A6.perm ?_⟩
  have p : ∀ (a b q r7 r6 : Thing), [a, b, q, r7, r6].Perm [r7, a, b, q, r6] := fun a b q r7 r6 => List.perm_middle (l₁ := [a, b, q]) (l₂ := [r6])
  exact p _ _ _ _ _
end Go.Proofs.Ytlbblfbiiceofaa
