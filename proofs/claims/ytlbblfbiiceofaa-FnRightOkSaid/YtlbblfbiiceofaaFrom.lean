/- machineFrom over numbers: what lies in memory while it runs, and its walk, whatever the two functions are. No condition. -/
import Derived.Test.YtlbblfbiiceofaaQueue
import Derived.Test.YtlbblfbiiceofaaWords
import Derived.Test.YtlbblfbiiceofaaBfs
import Derived.Test.YtlbblfbiiceofaaMach
import Derived.Deep.RegionLaw
import Derived.Deep.AppendLies
namespace Go.Proofs.Ytlbblfbiiceofaa
open Go.RowKit Go.Maps

theorem ownsRow_slice {w : World} {b : Nat} {e : TypeId} {size : Nat} {v : Value} {n : Nat} {xs : List Value} (h : w.ownsRow b e size v n xs) : ∃ a c, v = .slice a n c := by
  rcases h.2 with ⟨rfl, rfl⟩ | ⟨g, cap, _, rfl, _⟩
  · exact ⟨_, _, rfl⟩
  · exact ⟨_, _, rfl⟩
/-- the key of a number -/
def intKey (x : Int) : Lit := .int .i64 x
theorem intKey_is (x : Int) : WideAt.IsKeyLit (intKey x) := trivial
theorem intKey_inj {x y : Int} (h : intKey x = intKey y) : x = y := by simpa [intKey] using h
theorem infoIntF : (Try.prog.info? 3).map (fun i => (i.zero, i.size, i.bytes)) = some (some (.int .i64 0), 1, 8) := by kernel_rfl
theorem infoBoolF : (Try.prog.info? 4).map (fun i => (i.zero, i.size, i.bytes)) = some (some (.bool false), 1, 1) := by kernel_rfl
theorem zeroIntF (w : World) : (zeroValue 3).run Try.prog w = .ok (.int .i64 0) w := by kernel_rfl
theorem lawIntF : Keyed Try.prog 3 := int_keyed Try.underlying3

/-- a machine that is being made from a search -/
structure From (w0 : World) (R6 R7 MB : Nat) (q : List Int) (qv : Value) (nx : List Int) (nv : Value) (es : List Bool) (ev : Value) (w : World) : Prop where
  keep : Below w0.heap.size w0 w
  ap : Apart w0.heap.size [cellsT R7 #[.int .i64 0, nv, ev] 115, rowT 3 1 nv nx.length (nx.map (Value.int .i64)), rowT 4 1 ev es.length (es.map Value.bool), rowT 3 1 qv q.length (q.map (Value.int .i64)),
    mapT (H := Unit) Try.prog 3 (plainElem Try.prog 3) MB q.length (qD intKey q), cellsT R6 #[.int .i64 0, .slice none 0 0, .slice none 0 0] 115] w

section
variable {w0 : World} {R6 R7 MB : Nat} {q : List Int} {qv : Value} {nx : List Int} {nv : Value} {es : List Bool} {ev : Value} {w w' : World}
theorem From.size (h : From w0 R6 R7 MB q qv nx nv es ev w) : w0.heap.size ≤ w.heap.size := h.keep.size
theorem From.below (h : From w0 R6 R7 MB q qv nx nv es ev w) (hb : Below w.heap.size w w') : From w0 R6 R7 MB q qv nx nv es ev w' := ⟨h.keep.trans (hb.mono h.size), h.ap.below hb⟩
theorem From.same (h : From w0 R6 R7 MB q qv nx nv es ev w) (hg : w.grownBy w' none) : From w0 R6 R7 MB q qv nx nv es ev w' := ⟨h.keep.grown hg h.size (fun _ e => by cases e), h.ap.same hg⟩
theorem From.cell (h : From w0 R6 R7 MB q qv nx nv es ev w) : w.cell? ⟨R7, 0, none⟩ = some (.int .i64 0) ∧ w.cell? ⟨R7, 1, none⟩ = some nv ∧ w.cell? ⟨R7, 2, none⟩ = some ev :=
  ⟨cellsT_cell h.ap.head 0, cellsT_cell h.ap.head 1, cellsT_cell h.ap.head 2⟩
theorem From.froz (h : From w0 R6 R7 MB q qv nx nv es ev w) (i : Nat) : w.frozen? ⟨R7, i, none⟩ = false := cellsT_frozen h.ap.head i
theorem From.rowN (h : From w0 R6 R7 MB q qv nx nv es ev w) : w.ownsRow 0 3 1 nv nx.length (nx.map (Value.int .i64)) := h.ap.at 1 (by simp)
theorem From.rowE (h : From w0 R6 R7 MB q qv nx nv es ev w) : w.ownsRow 0 4 1 ev es.length (es.map Value.bool) := h.ap.at 2 (by simp)
theorem From.rowQ (h : From w0 R6 R7 MB q qv nx nv es ev w) : w.ownsRow 0 3 1 qv q.length (q.map (Value.int .i64)) := h.ap.at 3 (by simp)
theorem From.map (h : From w0 R6 R7 MB q qv nx nv es ev w) : w.ownsMap (H := Unit) Try.prog 3 (plainElem Try.prog 3) MB q.length (qD intKey q) := h.ap.at 4 (by simp)
theorem From.cell6 (h : From w0 R6 R7 MB q qv nx nv es ev w) : (cellsT R6 #[.int .i64 0, .slice none 0 0, .slice none 0 0] 115).says w := h.ap.at 5 (by simp)
theorem From.rowQ_kept {w1 : World} (h : From w0 R6 R7 MB q qv nx nv es ev w) (hg1 : w.grownBy w1 (some MB)) : w1.ownsRow 0 3 1 qv q.length (q.map (Value.int .i64)) :=
  (rowT 3 1 qv q.length (q.map (Value.int .i64))).st w w1 (fun k e => hg1.block k (h.ap.ltAt 3 (by simp) k e).2 (fun e2 => by
    cases e2
    exact (List.pairwise_iff_getElem.1 h.ap.two 3 4 (by simp) (by simp) (by omega)) MB e rfl)) hg1.size h.rowQ
/-- one number more -/
theorem From.nextN {x : Int} {t : TypeId} {g cp : Nat} {w1 : World} (h : From w0 R6 R7 MB q qv nx nv es ev w) (hg : (w.alloc (.cells #[.int .i64 x] t)).grownBy w1 nv.ownBlock)
    (ho : w1.ownsRow 0 3 1 (.slice (some ⟨g, 0, none⟩) (nx.length + 1) cp) (nx.length + 1) (nx.map (Value.int .i64) ++ [.int .i64 x])) (hat : nv.ownBlock = some g ∨ g = (w.alloc (.cells #[.int .i64 x] t)).heap.size) :
    From w0 R6 R7 MB q qv (nx ++ [x]) (.slice (some ⟨g, 0, none⟩) (nx.length + 1) cp) es ev (w1.setCell ⟨R7, 1, none⟩ (.slice (some ⟨g, 0, none⟩) (nx.length + 1) cp)) ∧ w1.cell? ⟨R7, 1, none⟩ = some nv ∧ w1.frozen? ⟨R7, 1, none⟩ = false := by
  have h1 := h.same (World.grownBy_alloc w (.cells #[.int .i64 x] t) none)
  have hlt := h1.ap.ltAt 1 (by simp)
  have a1 := h1.ap.turnAt 1 (by simp) hg (rowT 3 1 (.slice (some ⟨g, 0, none⟩) (nx.length + 1) cp) (nx ++ [x]).length ((nx ++ [x]).map (Value.int .i64)))
    (by show w1.ownsRow 0 _ _ _ _ _; rw [List.length_append, List.map_append]; exact ho) h1.size
    (fun j e => ⟨by cases e; exact hat.imp id (fun e => Nat.le_of_eq e.symm), (World.ownsRow.lt ho j e).2⟩)
  have hs1 : w0.heap.size ≤ w1.heap.size := Nat.le_trans h1.size hg.size
  have hb1 := (h.ap.lt R7 rfl).1
  refine ⟨⟨((h1.keep.grown hg h1.size (fun j e => (hlt j e).1)).setCell (p := ⟨R7, 1, none⟩) hb1 _), ?_⟩, cellsT_cell a1.head 1, cellsT_frozen a1.head 1⟩
  exact Apart.set a1 hs1 1 _
/-- one end more -/
theorem From.nextE {x : Bool} {t : TypeId} {g cp : Nat} {w1 : World} (h : From w0 R6 R7 MB q qv nx nv es ev w) (hg : (w.alloc (.cells #[.bool x] t)).grownBy w1 ev.ownBlock)
    (ho : w1.ownsRow 0 4 1 (.slice (some ⟨g, 0, none⟩) (es.length + 1) cp) (es.length + 1) (es.map Value.bool ++ [.bool x])) (hat : ev.ownBlock = some g ∨ g = (w.alloc (.cells #[.bool x] t)).heap.size) :
    From w0 R6 R7 MB q qv nx nv (es ++ [x]) (.slice (some ⟨g, 0, none⟩) (es.length + 1) cp) (w1.setCell ⟨R7, 2, none⟩ (.slice (some ⟨g, 0, none⟩) (es.length + 1) cp)) ∧ w1.cell? ⟨R7, 2, none⟩ = some ev ∧ w1.frozen? ⟨R7, 2, none⟩ = false := by
  have h1 := h.same (World.grownBy_alloc w (.cells #[.bool x] t) none)
  have hlt := h1.ap.ltAt 2 (by simp)
  have a1 := h1.ap.turnAt 2 (by simp) hg (rowT 4 1 (.slice (some ⟨g, 0, none⟩) (es.length + 1) cp) (es ++ [x]).length ((es ++ [x]).map Value.bool))
    (by show w1.ownsRow 0 _ _ _ _ _; rw [List.length_append, List.map_append]; exact ho) h1.size
    (fun j e => ⟨by cases e; exact hat.imp id (fun e => Nat.le_of_eq e.symm), (World.ownsRow.lt ho j e).2⟩)
  have hs1 : w0.heap.size ≤ w1.heap.size := Nat.le_trans h1.size hg.size
  have hb1 := (h.ap.lt R7 rfl).1
  refine ⟨⟨((h1.keep.grown hg h1.size (fun j e => (hlt j e).1)).setCell (p := ⟨R7, 2, none⟩) hb1 _), ?_⟩, cellsT_cell a1.head 2, cellsT_frozen a1.head 2⟩
  exact Apart.set a1 hs1 2 _
/-- one state more: in the map, then in the queue -/
theorem From.push {x : Int} {t : TypeId} {g cp : Nat} {w1 w2 : World} (h : From w0 R6 R7 MB q qv nx nv es ev w) (hg1 : w.grownBy w1 (some MB)) (hm : w1.ownsMap (H := Unit) Try.prog 3 (plainElem Try.prog 3) MB (q.length + 1) ((qD intKey q).put (intKey x) (.lit (.int .i64 (q.length : Int)))))
    (hg : (w1.alloc (.cells #[.int .i64 x] t)).grownBy w2 qv.ownBlock)
    (ho : w2.ownsRow 0 3 1 (.slice (some ⟨g, 0, none⟩) (q.length + 1) cp) (q.length + 1) (q.map (Value.int .i64) ++ [.int .i64 x])) (hat : qv.ownBlock = some g ∨ g = (w1.alloc (.cells #[.int .i64 x] t)).heap.size) :
    From w0 R6 R7 MB (q ++ [x]) (.slice (some ⟨g, 0, none⟩) (q.length + 1) cp) nx nv es ev w2 := by
  have hltM := h.ap.ltAt 4 (by simp)
  have a0 := h.ap.turnAt 4 (by simp) hg1 (mapT (H := Unit) Try.prog 3 (plainElem Try.prog 3) MB (q ++ [x]).length (qD intKey (q ++ [x])))
    (by show w1.ownsMap _ _ _ _ _ _; rw [List.length_append, qD_snoc]; exact hm) h.size (fun j e => ⟨.inl e, by have := hltM j e; exact Nat.lt_of_lt_of_le this.2 hg1.size⟩)
  have k0 := h.keep.grown hg1 h.size (fun j e => (hltM j e).1)
  have hs0 : w0.heap.size ≤ w1.heap.size := Nat.le_trans h.size hg1.size
  have a1 := a0.same (World.grownBy_alloc w1 (.cells #[.int .i64 x] t) none)
  have k1 := k0.grown (World.grownBy_alloc w1 (.cells #[.int .i64 x] t) none) hs0 (fun _ e => by cases e)
  have hs1 := k1.size
  have hlt := a1.ltAt 3 (by simp)
  have a2 := a1.turnAt 3 (by simp) hg (rowT 3 1 (.slice (some ⟨g, 0, none⟩) (q.length + 1) cp) (q ++ [x]).length ((q ++ [x]).map (Value.int .i64)))
    (by show w2.ownsRow 0 _ _ _ _ _; rw [List.length_append, List.map_append]; exact ho) hs1
    (fun j e => ⟨by cases e; exact hat.imp id (fun e => Nat.le_of_eq e.symm), (World.ownsRow.lt ho j e).2⟩)
  exact ⟨k1.grown hg hs1 (fun j e => (hlt j e).1), a2⟩
/-- the number of states is laid down -/
theorem From.len (h : From w0 R6 R7 MB q qv nx nv es ev w) (u : Int) {W : World} (hW : W = w.setCell ⟨R7, 0, none⟩ (.int .i64 u)) :
    W.cell? ⟨R7, 0, none⟩ = some (.int .i64 u) ∧ W.cell? ⟨R7, 1, none⟩ = some nv ∧ W.cell? ⟨R7, 2, none⟩ = some ev ∧ (cellsT R6 #[.int .i64 0, .slice none 0 0, .slice none 0 0] 115).says W := by
  subst hW
  have a := h.ap.set h.size 0 (.int .i64 u)
  exact ⟨cellsT_cell a.head 0, cellsT_cell a.head 1, cellsT_cell a.head 2, a.at 5 (by simp)⟩
/-- the end: the result is laid down -/
theorem From.done (h : From w0 R6 R7 MB q qv nx nv es ev w) (u : Int) {x y z : Value} {W : World} (hW : W = (((w.setCell ⟨R7, 0, none⟩ (.int .i64 u)).setCell ⟨R6, 0, none⟩ x).setCell ⟨R6, 1, none⟩ y).setCell ⟨R6, 2, none⟩ z) :
    Apart w0.heap.size [rowT 3 1 nv nx.length (nx.map (Value.int .i64)), rowT 4 1 ev es.length (es.map Value.bool)] W ∧ Below w0.heap.size w0 W ∧
    W.cell? ⟨R6, 0, none⟩ = some x ∧ W.cell? ⟨R6, 1, none⟩ = some y ∧ W.cell? ⟨R6, 2, none⟩ = some z := by
  subst hW
  have hb7 := (h.ap.lt R7 rfl).1
  have hb6 := (h.ap.ltAt 5 (by simp) R6 rfl).1
  have a1 := h.ap.set h.size 0 (.int .i64 u)
  have a2 := a1.setAt 5 (by simp) rfl (by simpa using h.size) 0 x
  have a3 := a2.setAt 5 (by simp) rfl (by simpa using h.size) 1 y
  have a4 := a3.setAt 5 (by simp) rfl (by simpa using h.size) 2 z
  have c := a4.at 5 (by simp)
  refine ⟨a4.sub ?_, (((h.keep.setCell (p := ⟨R7, 0, none⟩) hb7 _).setCell (p := ⟨R6, 0, none⟩) hb6 _).setCell (p := ⟨R6, 1, none⟩) hb6 _).setCell (p := ⟨R6, 2, none⟩) hb6 _, cellsT_cell c 0, cellsT_cell c 1, cellsT_cell c 2⟩
  exact List.Sublist.cons _ (List.Sublist.cons_cons _ (List.Sublist.cons_cons _ (List.Sublist.cons _ (List.Sublist.cons _ (List.Sublist.cons _ List.Sublist.slnil)))))
end
end Go.Proofs.Ytlbblfbiiceofaa
