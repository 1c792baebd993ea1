/- machineFrom over pairs: what lies in memory while it runs. No condition. The walk of machineFrom over pairs, for the functions of pairMachine. No condition. The program's machines of pairs: BothMachines and EitherMachine. No condition. The walk of machineFrom over numbers, for one pair of functions. No condition. The program's NotMachine. No condition. -/
import Derived.Test.YtaghjddndgpljaaPairBase
import Derived.Test.YtaghjddndgpljaaPairClos
import Derived.Test.YtaghjddndgpljaaFromWalk

namespace Go.Proofs.Ytaghjddndgpljaa
open Go.RowKit Go.Maps

/-- a machine that is being made from a search -/
structure FromP (w0 : World) (R6 R7 MB : Nat) (q : List Int) (qv : Value) (nx : List Int) (nv : Value) (es : List Bool) (ev : Value) (w : World) : Prop where
  keep : Below w0.heap.size w0 w
  ap : Apart w0.heap.size [cellsT R7 #[.int .i64 0, nv, ev] 26, rowT 3 1 nv nx.length (nx.map (Value.int .i64)), rowT 4 1 ev es.length (es.map Value.bool), rowT 131 2 qv q.length (prs q),
    mapT (H := Unit) Try.prog 131 (plainElem Try.prog 3) MB q.length (qD key2 q), cellsT R6 #[.int .i64 0, .slice none 0 0, .slice none 0 0] 26] w

section
variable {w0 : World} {R6 R7 MB : Nat} {q : List Int} {qv : Value} {nx : List Int} {nv : Value} {es : List Bool} {ev : Value} {w w' : World}
theorem FromP.size (h : FromP w0 R6 R7 MB q qv nx nv es ev w) : w0.heap.size ≤ w.heap.size := h.keep.size
theorem FromP.below (h : FromP w0 R6 R7 MB q qv nx nv es ev w) (hb : Below w.heap.size w w') : FromP w0 R6 R7 MB q qv nx nv es ev w' := ⟨h.keep.trans (hb.mono h.size), h.ap.below hb⟩
theorem FromP.same (h : FromP w0 R6 R7 MB q qv nx nv es ev w) (hg : w.grownBy w' none) : FromP w0 R6 R7 MB q qv nx nv es ev w' := ⟨h.keep.grown hg h.size (fun _ e => by cases e), h.ap.same hg⟩
theorem FromP.cell (h : FromP w0 R6 R7 MB q qv nx nv es ev w) : w.cell? ⟨R7, 0, none⟩ = some (.int .i64 0) ∧ w.cell? ⟨R7, 1, none⟩ = some nv ∧ w.cell? ⟨R7, 2, none⟩ = some ev :=
  ⟨cellsT_cell h.ap.head 0, cellsT_cell h.ap.head 1, cellsT_cell h.ap.head 2⟩
theorem FromP.froz (h : FromP w0 R6 R7 MB q qv nx nv es ev w) (i : Nat) : w.frozen? ⟨R7, i, none⟩ = false := cellsT_frozen h.ap.head i
theorem FromP.rowN (h : FromP w0 R6 R7 MB q qv nx nv es ev w) : w.ownsRow 0 3 1 nv nx.length (nx.map (Value.int .i64)) := h.ap.at 1 (by simp)
theorem FromP.rowE (h : FromP w0 R6 R7 MB q qv nx nv es ev w) : w.ownsRow 0 4 1 ev es.length (es.map Value.bool) := h.ap.at 2 (by simp)
theorem FromP.rowQ (h : FromP w0 R6 R7 MB q qv nx nv es ev w) : w.ownsRow 0 131 2 qv q.length (prs q) := h.ap.at 3 (by simp)
theorem FromP.map (h : FromP w0 R6 R7 MB q qv nx nv es ev w) : w.ownsMap (H := Unit) Try.prog 131 (plainElem Try.prog 3) MB q.length (qD key2 q) := h.ap.at 4 (by simp)
theorem FromP.cell6 (h : FromP w0 R6 R7 MB q qv nx nv es ev w) : (cellsT R6 #[.int .i64 0, .slice none 0 0, .slice none 0 0] 26).says w := h.ap.at 5 (by simp)
theorem FromP.rowQ_kept {w1 : World} (h : FromP w0 R6 R7 MB q qv nx nv es ev w) (hg1 : w.grownBy w1 (some MB)) : w1.ownsRow 0 131 2 qv q.length (prs q) :=
  (rowT 131 2 qv q.length (prs q)).st w w1 (fun k e => hg1.block k (h.ap.ltAt 3 (by simp) k e).2 (fun e2 => by
    cases e2
    exact (List.pairwise_iff_getElem.1 h.ap.two 3 4 (by simp) (by simp) (by omega)) MB e rfl)) hg1.size h.rowQ
/-- one number more -/
theorem FromP.nextN {x : Int} {t : TypeId} {g cp : Nat} {w1 : World} (h : FromP w0 R6 R7 MB q qv nx nv es ev w) (hg : (w.alloc (.cells #[.int .i64 x] t)).grownBy w1 nv.ownBlock)
    (ho : w1.ownsRow 0 3 1 (.slice (some ⟨g, 0, none⟩) (nx.length + 1) cp) (nx.length + 1) (nx.map (Value.int .i64) ++ [.int .i64 x])) (hat : nv.ownBlock = some g ∨ g = (w.alloc (.cells #[.int .i64 x] t)).heap.size) :
    FromP w0 R6 R7 MB q qv (nx ++ [x]) (.slice (some ⟨g, 0, none⟩) (nx.length + 1) cp) es ev (w1.setCell ⟨R7, 1, none⟩ (.slice (some ⟨g, 0, none⟩) (nx.length + 1) cp)) ∧ w1.cell? ⟨R7, 1, none⟩ = some nv ∧ w1.frozen? ⟨R7, 1, none⟩ = false := by
  have h1 := h.same (World.grownBy_alloc w (.cells #[.int .i64 x] t) none)
  have hlt := h1.ap.ltAt 1 (by simp)
  have a1 := h1.ap.turnAt 1 (by simp) hg (rowT 3 1 (.slice (some ⟨g, 0, none⟩) (nx.length + 1) cp) (nx ++ [x]).length ((nx ++ [x]).map (Value.int .i64)))
    (by show w1.ownsRow 0 _ _ _ _ _; rw [List.length_append, List.map_append]; exact ho) h1.size
    (fun j e => ⟨by cases e; exact hat.imp id (fun e => Nat.le_of_eq e.symm), (World.ownsRow.lt ho j e).2⟩)
  have hs1 : w0.heap.size ≤ w1.heap.size := Nat.le_trans h1.size hg.size
  have hb1 := (h.ap.lt R7 rfl).1
  refine ⟨⟨((h1.keep.grown hg h1.size (fun j e => (hlt j e).1)).setCell (p := ⟨R7, 1, none⟩) hb1 _), ?_⟩, cellsT_cell a1.head 1, cellsT_frozen a1.head 1⟩
  exact Apart.set a1 hs1 1 _
/-- one end more -/
theorem FromP.nextE {x : Bool} {t : TypeId} {g cp : Nat} {w1 : World} (h : FromP w0 R6 R7 MB q qv nx nv es ev w) (hg : (w.alloc (.cells #[.bool x] t)).grownBy w1 ev.ownBlock)
    (ho : w1.ownsRow 0 4 1 (.slice (some ⟨g, 0, none⟩) (es.length + 1) cp) (es.length + 1) (es.map Value.bool ++ [.bool x])) (hat : ev.ownBlock = some g ∨ g = (w.alloc (.cells #[.bool x] t)).heap.size) :
    FromP w0 R6 R7 MB q qv nx nv (es ++ [x]) (.slice (some ⟨g, 0, none⟩) (es.length + 1) cp) (w1.setCell ⟨R7, 2, none⟩ (.slice (some ⟨g, 0, none⟩) (es.length + 1) cp)) ∧ w1.cell? ⟨R7, 2, none⟩ = some ev ∧ w1.frozen? ⟨R7, 2, none⟩ = false := by
  have h1 := h.same (World.grownBy_alloc w (.cells #[.bool x] t) none)
  have hlt := h1.ap.ltAt 2 (by simp)
  have a1 := h1.ap.turnAt 2 (by simp) hg (rowT 4 1 (.slice (some ⟨g, 0, none⟩) (es.length + 1) cp) (es ++ [x]).length ((es ++ [x]).map Value.bool))
    (by show w1.ownsRow 0 _ _ _ _ _; rw [List.length_append, List.map_append]; exact ho) h1.size
    (fun j e => ⟨by cases e; exact hat.imp id (fun e => Nat.le_of_eq e.symm), (World.ownsRow.lt ho j e).2⟩)
  have hs1 : w0.heap.size ≤ w1.heap.size := Nat.le_trans h1.size hg.size
  have hb1 := (h.ap.lt R7 rfl).1
  refine ⟨⟨((h1.keep.grown hg h1.size (fun j e => (hlt j e).1)).setCell (p := ⟨R7, 2, none⟩) hb1 _), ?_⟩, cellsT_cell a1.head 2, cellsT_frozen a1.head 2⟩
  exact Apart.set a1 hs1 2 _
/-- one state more: in the map, then in the queue -/
theorem FromP.push {x : Int} {t : TypeId} {g cp : Nat} {w1 w2 : World} (h : FromP w0 R6 R7 MB q qv nx nv es ev w) (hg1 : w.grownBy w1 (some MB)) (hm : w1.ownsMap (H := Unit) Try.prog 131 (plainElem Try.prog 3) MB (q.length + 1) ((qD key2 q).put (key2 x) (.lit (.int .i64 (q.length : Int)))))
    (hg : (w1.alloc (.cells #[.int .i64 (p1 x), .int .i64 (p2 x)] t)).grownBy w2 qv.ownBlock)
    (ho : w2.ownsRow 0 131 2 (.slice (some ⟨g, 0, none⟩) (q.length + 1) cp) (q.length + 1) (prs q ++ [.int .i64 (p1 x), .int .i64 (p2 x)])) (hat : qv.ownBlock = some g ∨ g = (w1.alloc (.cells #[.int .i64 (p1 x), .int .i64 (p2 x)] t)).heap.size) :
    FromP w0 R6 R7 MB (q ++ [x]) (.slice (some ⟨g, 0, none⟩) (q.length + 1) cp) nx nv es ev w2 := by
  have hltM := h.ap.ltAt 4 (by simp)
  have a0 := h.ap.turnAt 4 (by simp) hg1 (mapT (H := Unit) Try.prog 131 (plainElem Try.prog 3) MB (q ++ [x]).length (qD key2 (q ++ [x])))
    (by show w1.ownsMap _ _ _ _ _ _; rw [List.length_append, qD_snoc]; exact hm) h.size (fun j e => ⟨.inl e, by have := hltM j e; exact Nat.lt_of_lt_of_le this.2 hg1.size⟩)
  have k0 := h.keep.grown hg1 h.size (fun j e => (hltM j e).1)
  have hs0 : w0.heap.size ≤ w1.heap.size := Nat.le_trans h.size hg1.size
  have a1 := a0.same (World.grownBy_alloc w1 (.cells #[.int .i64 (p1 x), .int .i64 (p2 x)] t) none)
  have k1 := k0.grown (World.grownBy_alloc w1 (.cells #[.int .i64 (p1 x), .int .i64 (p2 x)] t) none) hs0 (fun _ e => by cases e)
  have hs1 := k1.size
  have hlt := a1.ltAt 3 (by simp)
  have a2 := a1.turnAt 3 (by simp) hg (rowT 131 2 (.slice (some ⟨g, 0, none⟩) (q.length + 1) cp) (q ++ [x]).length (prs (q ++ [x])))
    (by show w2.ownsRow 0 _ _ _ _ _; rw [List.length_append, prs_snoc]; exact ho) hs1
    (fun j e => ⟨by cases e; exact hat.imp id (fun e => Nat.le_of_eq e.symm), (World.ownsRow.lt ho j e).2⟩)
  exact ⟨k1.grown hg hs1 (fun j e => (hlt j e).1), a2⟩
/-- the number of states is laid down -/
theorem FromP.len (h : FromP w0 R6 R7 MB q qv nx nv es ev w) (u : Int) {W : World} (hW : W = w.setCell ⟨R7, 0, none⟩ (.int .i64 u)) :
    W.cell? ⟨R7, 0, none⟩ = some (.int .i64 u) ∧ W.cell? ⟨R7, 1, none⟩ = some nv ∧ W.cell? ⟨R7, 2, none⟩ = some ev ∧ (cellsT R6 #[.int .i64 0, .slice none 0 0, .slice none 0 0] 26).says W := by
  subst hW
  have a := h.ap.set h.size 0 (.int .i64 u)
  exact ⟨cellsT_cell a.head 0, cellsT_cell a.head 1, cellsT_cell a.head 2, a.at 5 (by simp)⟩
/-- the end: the result is laid down -/
theorem FromP.done (h : FromP w0 R6 R7 MB q qv nx nv es ev w) (u : Int) {x y z : Value} {W : World} (hW : W = (((w.setCell ⟨R7, 0, none⟩ (.int .i64 u)).setCell ⟨R6, 0, none⟩ x).setCell ⟨R6, 1, none⟩ y).setCell ⟨R6, 2, none⟩ z) :
    Apart w0.heap.size [rowT 3 1 nv nx.length (nx.map (Value.int .i64)), rowT 4 1 ev es.length (es.map Value.bool)] W ∧ Below w0.heap.size w0 W ∧
    W.cell? ⟨R6, 0, none⟩ = some x ∧ W.cell? ⟨R6, 1, none⟩ = some y ∧ W.cell? ⟨R6, 2, none⟩ = some z := by
  subst hW
  have hb7 := (h.ap.lt R7 rfl).1
  have hb6 := (h.ap.ltAt 5 (by simp) R6 rfl).1
  have a1 := h.ap.set h.size 0 (.int .i64 u)
  have a2 := a1.setAt 5 (by simp) rfl (by simpa using h.size) 0 x
  have a3 := a2.setAt 5 (by simp) rfl (by simpa using h.size) 1 y
  have a4 := a3.setAt 5 (by simp) rfl (by simpa using h.size) 2 z
  have c := a4.at 5 (by simp)
  refine ⟨a4.sub ?_, (((h.keep.setCell (p := ⟨R7, 0, none⟩) hb7 _).setCell (p := ⟨R6, 0, none⟩) hb6 _).setCell (p := ⟨R6, 1, none⟩) hb6 _).setCell (p := ⟨R6, 2, none⟩) hb6 _, cellsT_cell c 0, cellsT_cell c 1, cellsT_cell c 2⟩
  exact List.Sublist.cons _ (List.Sublist.cons_cons _ (List.Sublist.cons_cons _ (List.Sublist.cons _ (List.Sublist.cons _ (List.Sublist.cons _ List.Sublist.slnil)))))
end

theorem from_startP (w0 : World) (s0 : Int) (t : TypeId) {w1 : World} {M0 : World} (hM0 : M0 = (((w0.alloc (.cells #[.int .i64 0, .slice none 0 0, .slice none 0 0] 26)).alloc (.cells #[.int .i64 0, .slice none 0 0, .slice none 0 0] 26)).alloc (.cells #[.int .i64 (p1 s0), .int .i64 (p2 s0)] t)).alloc (.map #[] 0))
    (hm : w1.ownsMap (H := Unit) Try.prog 131 (plainElem Try.prog 3) (w0.heap.size + 1 + 1 + 1) 1 ((DataW.map []).put (key2 s0) (.lit (.int .i64 0)))) (hg : M0.grownBy w1 (some (w0.heap.size + 1 + 1 + 1))) (ht : t = 131) :
    FromP w0 w0.heap.size (w0.heap.size + 1) (w0.heap.size + 1 + 1 + 1) [s0] (.slice (some ⟨w0.heap.size + 1 + 1, 0, none⟩) 1 1) [] (.slice none 0 0) [] (.slice none 0 0) w1 := by
  subst hM0 ht
  have A1 := (Apart.nil w0.heap.size w0).more (World.grownBy_alloc w0 _ none) (cellsT w0.heap.size #[.int .i64 0, .slice none 0 0, .slice none 0 0] 26) (heap_alloc_new w0 _) (Nat.le_refl _) (fun j e => by cases e; simp)
  have A2 := A1.more (World.grownBy_alloc _ (.cells #[.int .i64 0, .slice none 0 0, .slice none 0 0] 26) none) (cellsT (w0.heap.size + 1) #[.int .i64 0, .slice none 0 0, .slice none 0 0] 26) (by have := heap_alloc_new (w0.alloc (.cells #[.int .i64 0, .slice none 0 0, .slice none 0 0] 26)) (.cells #[.int .i64 0, .slice none 0 0, .slice none 0 0] 26); rw [World.size_alloc] at this; exact this) (by simp) (fun j e => by cases e; simp)
  have A3 := A2.more (World.grownBy_alloc _ (.cells #[.int .i64 (p1 s0), .int .i64 (p2 s0)] 131) none) (rowT 131 2 (.slice (some ⟨w0.heap.size + 1 + 1, 0, none⟩) 1 1) 1 [.int .i64 (p1 s0), .int .i64 (p2 s0)]) (by
    have := World.ownsRow_lit (base := 0) (e := 131) (size := 2) ((w0.alloc (.cells #[.int .i64 0, .slice none 0 0, .slice none 0 0] 26)).alloc (.cells #[.int .i64 0, .slice none 0 0, .slice none 0 0] 26)) #[.int .i64 (p1 s0), .int .i64 (p2 s0)] 1 (Nat.zero_le _) (by unfold maxLen; omega) rfl
    rw [World.size_alloc, World.size_alloc] at this; exact this) (by simp; omega) (fun j e => by cases e; simp)
  have A4 := A3.more (World.grownBy_alloc _ (.map #[] 0) none) (mapT (H := Unit) Try.prog 131 (plainElem Try.prog 3) (w0.heap.size + 1 + 1 + 1) 0 (.map [])) (by
    have := World.ownsMap_made (H := Unit) (((w0.alloc (.cells #[.int .i64 0, .slice none 0 0, .slice none 0 0] 26)).alloc (.cells #[.int .i64 0, .slice none 0 0, .slice none 0 0] 26)).alloc (.cells #[.int .i64 (p1 s0), .int .i64 (p2 s0)] 131)) Try.prog 131 (plainElem Try.prog 3)
    rw [World.size_alloc, World.size_alloc, World.size_alloc] at this; exact this) (by simp; omega) (fun j e => by cases e; simp)
  have A5 := A4.turn hg (mapT (H := Unit) Try.prog 131 (plainElem Try.prog 3) (w0.heap.size + 1 + 1 + 1) 1 (qD key2 [s0])) hm (by simp; omega) (fun j e => ⟨.inl e, by have := A4.lt j e; exact Nat.lt_of_lt_of_le this.2 hg.size⟩)
  have A6 := (A5.idle (rowT 4 1 (.slice none 0 0) 0 []) (World.ownsRow_nil _ _ _ _) rfl).idle (rowT 3 1 (.slice none 0 0) 0 []) (World.ownsRow_nil _ _ _ _) rfl
  refine ⟨?_, ?_⟩
  · have hb := ((((Below.refl w0.heap.size w0).alloc (Nat.le_refl _) (.cells #[.int .i64 0, .slice none 0 0, .slice none 0 0] 26)).alloc (by simp) (.cells #[.int .i64 0, .slice none 0 0, .slice none 0 0] 26)).alloc (by simp; omega) (.cells #[.int .i64 (p1 s0), .int .i64 (p2 s0)] 131)).alloc (by simp; omega) (.map #[] 0)
    exact hb.grown hg hb.size (fun j e => by cases e; omega)
  · refine A6.perm ?_
    have p : ∀ (a b m q r7 r6 : Thing), [a, b, m, q, r7, r6].Perm [r7, a, b, q, m, r6] := fun a b m q r7 r6 => by
      have h1 : [a, b, m, q, r7, r6].Perm [a, b, q, m, r7, r6] := ((List.Perm.swap q m [r7, r6]).cons b).cons a
      have h2 : [a, b, q, m, r7, r6].Perm (r7 :: [a, b, q, m, r6]) := List.perm_middle (l₁ := [a, b, q, m]) (l₂ := [r6])
      exact h1.trans h2
    exact p _ _ _ _ _ _
end Go.Proofs.Ytaghjddndgpljaa

namespace Go.Proofs.Ytaghjddndgpljaa
open Go.RowKit Go.Maps

theorem cell_two_new (w : World) (x y : Value) (t : TypeId) : ∀ j u, [x, y][j]? = some u → (w.alloc (.cells #[x, y] t)).cell? ((⟨w.heap.size, 0, none⟩ : Addr).add j) = some u := by
  intro j u hj
  match j, hj with
  | 0, hj =>
    simp at hj
    subst hj
    simp [Addr.add]
  | 1, hj =>
    simp at hj
    subst hj
    simp [Addr.add]
theorem cellsT_mono {w w' : World} {T M : Nat} {cs : Array Value} {t : TypeId} (h : (cellsT T cs t).says w) (hg : w.grownBy w' (some M)) (hlt : T < w.heap.size) (hne : ¬ (T = M)) : (cellsT T cs t).says w' :=
  (hg.block T hlt (fun e => hne (Option.some.inj e))).trans h
set_option maxHeartbeats 4000000 in
set_option maxRecDepth 100000 in
theorem machineFromPair_any (on : Int → Nat → Option Int) (ends : Int → Bool) (s0 : Int) (N : Nat) (P : Int → Prop) (v1 v2 v3 : Value) (w : World)
    (hN : (bfsTo on s0 N).1.length = N) (hN4 : N ≤ 4000) (h0 : P s0) (hs : ∀ x, P x → ∀ l b, l < 3 → on x l = some b → P b) (hw : ∀ x, P x → wf2 x)
    (HOn : ∀ W, Below w.heap.size w W → ∀ x, P x → ∀ l : Nat, l < 3 → Calls Try.prog 128 #[.agg #[.int .i64 (p1 x), .int .i64 (p2 x)], .int .i64 (l : Int), v1, v2] W fun e W' => ∃ v, e = .returned (.tuple #[.agg #[.int .i64 (p1 v), .int .i64 (p2 v)], .bool true]) ∧ on x l = some v ∧ Below W.heap.size W W')
    (HEnds : ∀ W, Below w.heap.size w W → ∀ x, P x → Calls Try.prog 129 #[.agg #[.int .i64 (p1 x), .int .i64 (p2 x)], v3, v1, v2] W fun e W' => e = .returned (.bool (ends x)) ∧ Below W.heap.size W W') :
    Calls Try.prog 127 #[.agg #[.int .i64 (p1 s0), .int .i64 (p2 s0)], .func (.func 128) #[] #[v1, v2], .func (.func 129) #[] #[v3, v1, v2]] w (MachNew ⟨N, (bfsTo on s0 N).2, (bfsTo on s0 N).1.map ends⟩ w) := by
  have hmm := @run_makeMap Try.prog
  obtain ⟨i0, hi, hz0, hz1, hz2⟩ := info_parts infoIntF
  obtain ⟨j0, hj, hy0, hy1, hy2⟩ := info_parts infoBoolF
  obtain ⟨k0, hkp, hx0, hx1, hx2⟩ := info_parts infoPairF
  have HKP := Lib.hid (And.intro hkp (And.intro hx0 (And.intro hx1 hx2)))
  clear hkp hx0 hx1 hx2
  have HI := Lib.hid (And.intro hi (And.intro hz0 (And.intro hz1 hz2)))
  have HJ := Lib.hid (And.intro hj (And.intro hy0 (And.intro hy1 hy2)))
  clear hi hz0 hz1 hz2 hj hy0 hy1 hy2
  have hbw : Below w.heap.size w (w.alloc (.cells #[.int .i64 (p1 s0), .int .i64 (p2 s0)] 131)) := (Below.refl _ _).alloc (Nat.le_refl _) _
  have HBW := Lib.hid hbw
  have HON := Lib.hid (fun W (hW : Below (w.alloc (.cells #[.int .i64 (p1 s0), .int .i64 (p2 s0)] 131)).heap.size (w.alloc (.cells #[.int .i64 (p1 s0), .int .i64 (p2 s0)] 131)) W) => HOn W (hbw.trans (hW.mono hbw.size)))
  have HENDS := Lib.hid (fun W (hW : Below (w.alloc (.cells #[.int .i64 (p1 s0), .int .i64 (p2 s0)] 131)).heap.size (w.alloc (.cells #[.int .i64 (p1 s0), .int .i64 (p2 s0)] 131)) W) => HEnds W (hbw.trans (hW.mono hbw.size)))
  have hall := Lib.hid (bfsTo_all h0 hs)
  have HNN := Lib.hid hN
  have HS := Lib.hid hs
  have HWF := Lib.hid hw
  have hle := Lib.hid (bfsTo_le hN)
  have wf0 := hw s0 h0
  clear HOn HEnds hN hs hw hbw
  obtain ⟨w1, hrun, hown1, hg1⟩ : ∃ w', (Instr.mapUpdate 154 (.map (some (w.heap.size + 1 + 1 + 1 + 1))) (.agg #[.int .i64 (p1 s0), .int .i64 (p2 s0)]) (.int .i64 0)).run Try.prog (((((w.alloc (.cells #[.int .i64 (p1 s0), .int .i64 (p2 s0)] 131)).alloc (.cells #[.int .i64 0, .slice none 0 0, .slice none 0 0] 26)).alloc (.cells #[.int .i64 0, .slice none 0 0, .slice none 0 0] 26)).alloc (.cells #[.int .i64 (p1 s0), .int .i64 (p2 s0)] 131)).alloc (.map #[] 0)) = .ok () w' ∧ w'.ownsMap (H := Unit) Try.prog 131 (plainElem Try.prog 3) (w.heap.size + 1 + 1 + 1 + 1) 1 ((DataW.map []).put (key2 s0) (.lit (.int .i64 0))) ∧ World.grownBy (((((w.alloc (.cells #[.int .i64 (p1 s0), .int .i64 (p2 s0)] 131)).alloc (.cells #[.int .i64 0, .slice none 0 0, .slice none 0 0] 26)).alloc (.cells #[.int .i64 0, .slice none 0 0, .slice none 0 0] 26)).alloc (.cells #[.int .i64 (p1 s0), .int .i64 (p2 s0)] 131)).alloc (.map #[] 0)) w' (some (w.heap.size + 1 + 1 + 1 + 1)) := by
    have hm := World.ownsMap_made (H := Unit) ((((w.alloc (.cells #[.int .i64 (p1 s0), .int .i64 (p2 s0)] 131)).alloc (.cells #[.int .i64 0, .slice none 0 0, .slice none 0 0] 26)).alloc (.cells #[.int .i64 0, .slice none 0 0, .slice none 0 0] 26)).alloc (.cells #[.int .i64 (p1 s0), .int .i64 (p2 s0)] 131)) Try.prog 131 (plainElem Try.prog 3)
    rw [World.size_alloc, World.size_alloc, World.size_alloc, World.size_alloc] at hm
    exact hm.update lawK2 Try.underlying154 (by unfold maxLen; omega) (key2_of s0 wf0) (plainElem_int Try.underlying3 (by decide))
  have hF0 := from_startP (w.alloc (.cells #[.int .i64 (p1 s0), .int .i64 (p2 s0)] 131)) s0 131 rfl (by rw [World.size_alloc]; exact hown1) (by rw [World.size_alloc]; exact hg1) rfl
  simp only [World.size_alloc] at hF0
  have F0 := Lib.hid hF0
  clear hF0 hown1 hg1
  go_enter Try.func127, Try.ntmps127
  go_wp2_with fail
  have hS0 : (w.alloc (.cells #[.int .i64 (p1 s0), .int .i64 (p2 s0)] 131)).heap.size = w.heap.size + 1 := World.size_alloc _ _
  generalize hW0 : (w.alloc (.cells #[.int .i64 (p1 s0), .int .i64 (p2 s0)] 131)) = W0 at *
  generalize hR6 : w.heap.size + 1 = R6 at *
  generalize R6 + 1 + 1 + 1 = MB at *
  generalize hR7 : R6 + 1 = R7 at *
  generalize (.slice (some ⟨R7 + 1, 0, none⟩) 1 1 : Value) = qv0 at *
  have HS0 := Lib.hid hS0
  clear hS0 hW0
  clear hrun
  go_loopw [8, 10] (fun qv i wr => ∃ (n : Nat) (q : List Int) (nx : List Int) (nv ev : Value), n ≤ N ∧ n ≤ q.length ∧ i = .int .i64 n ∧ bfsTo on s0 n = (q, nx) ∧ FromP W0 R6 R7 MB q qv nx nv ((q.take n).map ends) ev wr) (fun _ i _ => N - (intOf i).toNat)
  case atStart => exact ⟨0, [s0], [], _, _, Nat.zero_le _, Nat.zero_le _, rfl, rfl, F0.out⟩
  case round =>
    obtain ⟨n, q, nx, nv, ev, hn, hnq, rfl, hq, hF⟩ := hrel
    have F1 := Lib.hid hF
    obtain ⟨a8, c8, rfl⟩ := ownsRow_slice hF.rowQ
    clear hF
    have HQ := Lib.hid hq
    have hqN : q.length ≤ N := by have := hle.out n; rw [hq] at this; exact this
    have hPq : Hid (∀ y ∈ q, P y) := by have := hall.out n; rw [hq] at this; exact Lib.hid this
    by_cases hlt : n < q.length
    · have hx := Lib.hid (hPq.out _ (List.getElem_mem hlt))
      generalize hxe : q[n] = x at hx
      have HX := Lib.hid hxe
      clear hq hxe
      go_wp2_with fail
      go_loopw [8, 27] (fun qv' li wr => ∃ (l : Nat) (q' nx' : List Int) (nv' : Value), l ≤ 3 ∧ li = .int .i64 l ∧ bfsL on x (q, nx) l = (q', nx') ∧ FromP W0 R6 R7 MB q' qv' nx' nv' ((q.take n).map ends) ev wr) (fun _ li _ => 3 - (intOf li).toNat)
      case atStart => exact ⟨0, q, nx, nv, by omega, rfl, rfl, F1.out⟩
      case round =>
        obtain ⟨l, q', nx', nv', hl, rfl, hq', hF'⟩ := hrel
        have F2 := Lib.hid hF'
        have HQ' := Lib.hid hq'
        obtain ⟨hn', hxn⟩ := bfsL_at hq' hlt
        rw [HX.out] at hxn
        obtain ⟨g, c8', rfl, -, -⟩ := World.ownsRow.form hF'.rowQ (by omega)
        have hcell := World.ownsRow.cellAt hF'.rowQ (n * 2) (by omega)
        have hcelb := World.ownsRow.cellAt hF'.rowQ (n * 2 + 1) (by omega)
        rw [(prs_at q' n hn').1, hxn] at hcell
        rw [(prs_at q' n hn').2, hxn] at hcelb
        clear hF' hq' hxn
        by_cases hl3 : l < 3
        · go_wp2_with fail
          refine (HON.out _ F2.out.keep x hx.out l hl3).mono ?_
          rintro e w2 ⟨v, rfl, hon, hb⟩
          have F3 := Lib.hid (F2.out.below hb)
          have HB1 : Hid (bfsL on x (q, nx) (l + 1) = bfs1 (q', nx') (on x l)) := by
            have : bfsL on x (q, nx) (l + 1) = bfs1 (q', nx') (on x l) := by rw [bfsL, HQ'.out]
            exact Lib.hid this
          have HPQ : Hid (∀ y ∈ q', P y) := by
            have h1 := bfsL_all (P := P) on x (p := (q, nx)) hPq.out (fun l b hl h => HS.out x hx.out l b hl h) l hl
            rw [HQ'.out] at h1
            exact Lib.hid h1
          have hq'N : q'.length ≤ N := by
            have h1 := (bfsL_mono on x (q, nx) hl).length_le
            have h2 := hle.out (n + 1)
            rw [bfsTo_step (by rw [HQ.out]; exact hlt)] at h2
            simp only [HQ.out, HX.out] at h2
            rw [HQ'.out] at h1
            simp only at h1
            omega
          clear F2 hb hcell hcelb
          have hnl : nx'.length ≤ 13000 := by
            have h1 := bfsL_len on x (q, nx) l
            have h2 := bfsTo_len (on := on) (s0 := s0) n (by rw [HQ.out]; show n ≤ q.length; omega)
            rw [HQ'.out] at h1
            rw [HQ.out] at h2
            simp only at h1 h2
            omega
          have hbt : Below w2.heap.size w2 (w2.alloc (.cells #[.int .i64 (p1 v), .int .i64 (p2 v)] 131)) := (Below.refl _ _).alloc (Nat.le_refl _) _
          have hct : (cellsT w2.heap.size #[.int .i64 (p1 v), .int .i64 (p2 v)] 131).says (w2.alloc (.cells #[.int .i64 (p1 v), .int .i64 (p2 v)] 131)) := heap_alloc_new w2 _
          have F3' := Lib.hid (F3.out.below hbt)
          have HCT := Lib.hid hct
          have hTM : ¬ (w2.heap.size = MB) := by have := F3.out.ap.ltAt 4 (by simp) MB rfl; omega
          have hTs : w2.heap.size < (w2.alloc (.cells #[.int .i64 (p1 v), .int .i64 (p2 v)] 131)).heap.size := by simp
          go_upto_region 11 with fail
          generalize hWT : w2.alloc (.cells #[.int .i64 (p1 v), .int .i64 (p2 v)] 131) = wt at *
          generalize hTB : w2.heap.size = tb at *
          clear hWT hbt hct F3 hTB
          have t0 := cellsT_cell HCT.out 0
          have t1 := cellsT_cell HCT.out 1
          have y0 := F3'.out.cell.1
          have y1 := F3'.out.cell.2.1
          have y2 := F3'.out.cell.2.2
          have HON1 : Hid (on x l = some v) := Lib.hid hon
          have hPv := HS.out x hx.out l v hl3 hon
          have wfv := HWF.out v hPv
          have hwq : ∀ y ∈ q', wf2 y := fun y hy => HWF.out y (HPQ.out y hy)
          have HWQ := Lib.hid hwq
          have HH := Lib.hid (has_k2 (q := q') v hwq wfv)
          clear hwq
          have hnd : Hid (q'.Nodup) := by
            have h1 := bfsL_nodup on x (p := (q, nx)) (by have := bfsTo_nodup on s0 n; rw [HQ.out] at this; exact this) l
            rw [HQ'.out] at h1
            exact Lib.hid h1
          clear hon
          by_cases hm : v ∈ q'
          · have HM := Lib.hid hm
            have HHt : Hid (Maps.has (qD (H := Unit) key2 q') (key2 v) = true) := Lib.hid (HH.out.trans (by simp [hm]))
            clear hm
            go_wp2_with (first | (at_lookup; refine wpList_lookup_own_ok_int _ rfl _ _ 154 rfl 131 3 .i64 lawK2 Try.underlying154 Try.underlying3 (zeroIntF _) MB q'.length (qD (H := Unit) key2 q') rfl F3'.out.map (arr2 v) (key2 v) rfl (key2_of v wfv) ?_; intro c hat0 hwc; rw [HHt.out]) | (at_builtin; refine wpList_append_lies _ rfl _ _ 23 rfl 0 3 i0 (.int .i64 0) 1 8 Try.underlying23 HI.out.1 HI.out.2.1 HI.out.2.2.1 HI.out.2.2.2 rfl (by decide) nv' nx'.length (nx'.map (Value.int .i64)) rfl (F3'.out.rowN.alloc _) ⟨wt.heap.size, 0, none⟩ 1 1 [.int .i64 _] rfl rfl (cell_one_new _ _ _) (by simp [Value.oneCell']) (by omega) (by unfold maxLen; omega) (by omega) (Nat.zero_le _) _ rfl ?_; intro g3 cp w4 hown hgrow hat hlt3; obtain ⟨F4, x31, f31⟩ := F3'.out.nextN hgrow hown hat))
            go_roundw
            case rel =>
              have hc := at_k2 v HWQ.out wfv c hnd.out HM.out hat0
              subst hc
              exact ⟨l + 1, q', nx' ++ [(q'.idxOf v : Int)], _, by omega, by go_num, by rw [HB1.out, HON1.out, bfs1_old HM.out], F4⟩
            case measure => simp [intOf]; omega
          · have HM := Lib.hid hm
            have HHf : Hid (Maps.has (qD (H := Unit) key2 q') (key2 v) = false) := Lib.hid (HH.out.trans (by simp [hm]))
            clear hm
            go_wp2_with (first | (at_lookup; refine wpList_lookup_own_ok_int _ rfl _ _ 154 rfl 131 3 .i64 lawK2 Try.underlying154 Try.underlying3 (zeroIntF _) MB q'.length (qD (H := Unit) key2 q') rfl F3'.out.map (arr2 v) (key2 v) rfl (key2_of v wfv) ?_; intro c hat0 hwc; rw [HHf.out]) | (at_mapUpdate; refine wpList_mapUpdate_own _ rfl _ _ _ 154 rfl 131 3 lawK2 Try.underlying154 _ MB q'.length (qD (H := Unit) key2 q') rfl F3'.out.map (by unfold maxLen; omega) (arr2 v) _ (key2 v) rfl rfl (key2_of v wfv) (.lit (.int .i64 (q'.length : Int))) [] (plainElem_int Try.underlying3 (WalkArith.wf_i64 (by omega))) ?_; intro w3 hown3 hgrow3; have hct3 := cellsT_mono (T := tb) HCT.out hgrow3 hTs hTM; have t30 := cellsT_cell hct3 0; have t31 := cellsT_cell hct3 1) | (at_builtin; refine wpList_append_lies _ rfl _ _ 153 rfl 0 131 k0 (.agg #[.int .i64 0, .int .i64 0]) 2 16 Try.underlying153 HKP.out.1 HKP.out.2.1 HKP.out.2.2.1 HKP.out.2.2.2 rfl (by decide) (.slice (some ⟨g, 0, none⟩) q'.length c8') q'.length (prs q') rfl ((F3'.out.rowQ_kept hgrow3).alloc _) ⟨w3.heap.size, 0, none⟩ 1 1 [.int .i64 (p1 v), .int .i64 (p2 v)] rfl rfl (cell_two_new _ _ _ _) (by simp [Value.oneCell']) (by omega) (by unfold maxLen; omega) (by omega) (Nat.zero_le _) _ rfl ?_; intro g3 cp w4 hown hgrow hat hlt3; have F4 := Lib.hid (F3'.out.push hgrow3 hown3 hgrow hown hat); have y0 := F4.out.cell.1; have y1 := F4.out.cell.2.1; have y2 := F4.out.cell.2.2) | (at_builtin; refine wpList_append_lies _ rfl _ _ 23 rfl 0 3 i0 (.int .i64 0) 1 8 Try.underlying23 HI.out.1 HI.out.2.1 HI.out.2.2.1 HI.out.2.2.2 rfl (by decide) nv' nx'.length (nx'.map (Value.int .i64)) rfl (F4.out.rowN.alloc _) ⟨w4.heap.size, 0, none⟩ 1 1 [.int .i64 _] rfl rfl (cell_one_new _ _ _) (by simp [Value.oneCell']) (by omega) (by unfold maxLen; omega) (by omega) (Nat.zero_le _) _ rfl ?_; intro g5 cp5 w5 hown5 hgrow5 hat5 hlt5; obtain ⟨F5, x31, f31⟩ := F4.out.nextN hgrow5 hown5 hat5))
            go_roundw
            case rel => exact ⟨l + 1, q' ++ [v], nx' ++ [(q'.length : Int)], _, by omega, by go_num, by rw [HB1.out, HON1.out, bfs1_new HM.out], F5⟩
            case measure => simp [intOf]; omega
        · obtain rfl : l = 3 := by omega
          have HB3 : Hid (bfsTo on s0 (n + 1) = (q', nx')) := by
            have : bfsTo on s0 (n + 1) = (q', nx') := by
              rw [bfsTo_step (by rw [HQ.out]; exact hlt)]
              simp only [HQ.out, HX.out]
              exact HQ'.out
            exact Lib.hid this
          have hn1 : n < N := by omega
          have HT : Hid ((q'.take (n + 1)).map ends = (q.take n).map ends ++ [ends x]) := Lib.hid (bfsL_take HQ'.out hlt HX.out)
          have hes : ((q.take n).map ends).length ≤ 4000 := by rw [List.length_map, List.length_take]; omega
          generalize (q.take n).map ends = es at *
          go_wp2_with fail
          have Fd := Lib.hid (F2.out.same (grown_drew _ none))
          have z12 := Fd.out.cell.2.2
          have hcell2 : wr.drew.cell? ⟨g, n * 2, none⟩ = some (.int .i64 (p1 x)) := hcell
          have hcelb2 : wr.drew.cell? ⟨g, n * 2 + 1, none⟩ = some (.int .i64 (p2 x)) := hcelb
          have HK := Lib.hid Fd.out.keep
          go_region_law (first | (go_simp; go_at_call 129; refine (HENDS.out _ HK.out x hx.out).mono ?_; rintro e w2 ⟨rfl, hb⟩; have F3 := Lib.hid (Fd.out.below hb); have x12 := F3.out.cell.2.2; have x13 := fun b => (F3.out.same (World.grownBy_alloc w2 (.cells #[.bool b] 4) none)).cell.2.2) | (refine step_append_lies _ rfl _ _ 24 rfl 0 4 j0 (.bool false) 1 1 Try.underlying24 HJ.out.1 HJ.out.2.1 HJ.out.2.2.1 HJ.out.2.2.2 rfl (by decide) ev es.length (es.map Value.bool) rfl (F3.out.rowE.alloc _) ⟨w2.heap.size, 0, none⟩ 1 1 [.bool (ends x)] rfl rfl (cell_one_new _ _ _) (by simp [Value.oneCell']) (by omega) (by unfold maxLen; omega) (by omega) (Nat.zero_le _) _ rfl ?_; intro g3 cp w4 hown hgrow hat hlt3; obtain ⟨F4, x31, f31⟩ := F3.out.nextE hgrow hown hat))
          all_goals
            clear z12 x12 x13
            go_wp2
            go_roundw
            case rel => exact ⟨n + 1, q', nx', nv', _, hn1, hn', by go_num, HB3.out, by rw [HT.out]; exact F4⟩
            case measure => simp [intOf]; omega
    · have hqn : q.length = n := by omega
      have hnN : n = N := bfsTo_one (by rw [HQ.out]; exact hqn) HNN.out
      subst hnN
      have F5 := F1.out
      rw [List.take_of_length_le (by omega)] at F5
      clear F1
      obtain ⟨a1, c1, rfl⟩ := ownsRow_slice F5.rowN
      obtain ⟨a2, c2, rfl⟩ := ownsRow_slice F5.rowE
      have F1 := Lib.hid F5
      clear F5
      have y0 := F1.out.cell.1
      have y0f := F1.out.froz 0
      obtain ⟨x0, x1, x2, x6⟩ := F1.out.len (n : Int) rfl
      have g00 : (wr.setCell ⟨R7, 0, none⟩ (.int .i64 (n : Int))).cell? ⟨R6, 0, none⟩ = some (.int .i64 0) := cellsT_cell x6 0
      have g01 : (wr.setCell ⟨R7, 0, none⟩ (.int .i64 (n : Int))).cell? ⟨R6, 1, none⟩ = some (.slice none 0 0) := cellsT_cell x6 1
      have g02 : (wr.setCell ⟨R7, 0, none⟩ (.int .i64 (n : Int))).cell? ⟨R6, 2, none⟩ = some (.slice none 0 0) := cellsT_cell x6 2
      have f00 := cellsT_frozen x6 0
      have f01 := cellsT_frozen x6 1
      have f02 := cellsT_frozen x6 2
      clear x6
      go_wp2_with fail
      obtain ⟨r1, r2, r3, r4, r5⟩ := F1.out.done (n : Int) rfl
      have hM : (⟨(n : Int), (bfsTo on s0 n).2, (bfsTo on s0 n).1.map ends⟩ : M) = ⟨(n : Int), nx, q.map ends⟩ := by rw [HQ.out]
      refine bodyPost_ret (v := .agg #[.int .i64 (n : Int), .slice a1 nx.length c1, .slice a2 n c2]) ?_ rfl (by rw [hM]; exact ⟨a1, a2, c1, c2, by simp only [List.length_map, hqn], r1.mono (by have := HS0.out; omega), HBW.out.trans (r2.mono (by have := HS0.out; omega))⟩)
      simp [results, Try.results127, go_sem, r3, r4, r5]
end Go.Proofs.Ytaghjddndgpljaa

namespace Go.Proofs.Ytaghjddndgpljaa
open Go.RowKit

theorem bothFn_any (a b : Bool) (W : World) : Calls Try.prog 75 #[.bool a, .bool b] W fun e W' => e = .returned (.bool (a && b)) ∧ Below W.heap.size W W' := by
  cases a <;> cases b <;> (go_enter Try.func75, Try.ntmps75; go_wp2; go_ret; exact ⟨rfl, Below.refl _ _⟩)
theorem eitherFn_any (a b : Bool) (W : World) : Calls Try.prog 170 #[.bool a, .bool b] W fun e W' => e = .returned (.bool (a || b)) ∧ Below W.heap.size W W' := by
  cases a <;> cases b <;> (go_enter Try.func170, Try.ntmps170; go_wp2; go_ret; exact ⟨rfl, Below.refl _ _⟩)
/-- two machines in boxes, a pair, and a function in a box -/
structure Pfx (a b c f : Nat) (ms ks : Int) (nv ev mv uv : Value) (x y : Int) (fv : Value) (W : World) : Prop where
  pb : Pbx a b c ms ks nv ev mv uv x y W
  lf : f < W.heap.size
  cf : W.cell? ⟨f, 0, none⟩ = some fv
theorem Pfx.below {a b c f : Nat} {ms ks : Int} {nv ev mv uv : Value} {x y : Int} {fv : Value} {W W' : World} (h : Pfx a b c f ms ks nv ev mv uv x y fv W) (hb : Below W.heap.size W W') : Pfx a b c f ms ks nv ev mv uv x y fv W' :=
  ⟨h.pb.below hb, Nat.lt_of_lt_of_le h.lf hb.size, (hb.cell (p := ⟨f, 0, none⟩) h.lf).trans h.cf⟩
theorem Pfx.cells {a b c f : Nat} {ms ks : Int} {nv ev mv uv : Value} {x y : Int} {fv : Value} {W : World} (h : Pfx a b c f ms ks nv ev mv uv x y fv W) :
    W.cell? ⟨f, 0, none⟩ = some fv ∧ W.cell? ⟨a, 0, none⟩ = some (.int .i64 ms) ∧ W.cell? ⟨a, 1, none⟩ = some nv ∧ W.cell? ⟨a, 2, none⟩ = some ev ∧ W.cell? ⟨b, 0, none⟩ = some (.int .i64 ks) ∧ W.cell? ⟨b, 1, none⟩ = some mv ∧ W.cell? ⟨b, 2, none⟩ = some uv ∧ W.cell? ⟨c, 0, none⟩ = some (.int .i64 x) ∧ W.cell? ⟨c, 1, none⟩ = some (.int .i64 y) := ⟨h.cf, h.pb.cells⟩

set_option maxHeartbeats 1600000 in
theorem pairEndsBoth_any (A B : M) (an ae bn be : Value) (bA bB fB : Nat) (W : World) (hT : Two bA bB A B an ae bn be W) (hA : A.good) (hB : B.good) (hf : W.cell? ⟨fB, 0, none⟩ = some (.func (.func 75) #[] #[])) (hfl : fB < W.heap.size) (x : Int) (hx : inP A B x) :
    Calls Try.prog 129 #[.agg #[.int .i64 (p1 x), .int .i64 (p2 x)], .pointer (some ⟨fB, 0, none⟩), .pointer (some ⟨bA, 0, none⟩), .pointer (some ⟨bB, 0, none⟩)] W
      fun e W' => e = .returned (.bool (pEnds A B (fun a b => a && b) x)) ∧ Below W.heap.size W W' := by
  have hb0 : Below W.heap.size W (W.alloc (.cells #[.int .i64 (p1 x), .int .i64 (p2 x)] 131)) := (Below.refl _ _).alloc (Nat.le_refl _) _
  have T0 := hT.below hb0
  have X0 : Pfx bA bB W.heap.size fB A.st B.st an ae bn be (p1 x) (p2 x) (.func (.func 75) #[] #[]) (W.alloc (.cells #[.int .i64 (p1 x), .int .i64 (p2 x)] 131)) := by
    refine ⟨⟨⟨T0.a.hB, T0.b.hB, T0.a.c0, T0.a.c1, T0.a.c2, T0.b.c0, T0.b.c1, T0.b.c2⟩, by simp, World.cell?_alloc_new _ _ _ 0, World.cell?_alloc_new _ _ _ 1⟩, by simp; omega, (hb0.cell (p := ⟨fB, 0, none⟩) hfl).trans hf⟩
  have HX := Lib.hid X0
  have HQ := Lib.hid hb0
  have H1 : Hid (∀ V, Below W.heap.size W V → Calls Try.prog 73 #[.agg #[.int .i64 A.st, an, ae], .int .i64 (p1 x)] V fun e w' => e = .returned (.bool (A.endAt (p1 x))) ∧ Below V.heap.size V w') :=
    Lib.hid (fun V hV => implEndOk_any A (p1 x) an ae V (hT.below hV).a.bools hA hx.1 hx.2.1)
  have H2 : Hid (∀ V, Below W.heap.size W V → Calls Try.prog 73 #[.agg #[.int .i64 B.st, bn, be], .int .i64 (p2 x)] V fun e w' => e = .returned (.bool (B.endAt (p2 x))) ∧ Below V.heap.size V w') :=
    Lib.hid (fun V hV => implEndOk_any B (p2 x) bn be V (hT.below hV).b.bools hB hx.2.2.1 hx.2.2.2)
  have HPE : Hid (pEnds A B (fun a b => a && b) x = (A.endAt (p1 x) && B.endAt (p2 x))) := Lib.hid rfl
  clear hb0 T0 X0 hT hx hA hB hf hfl
  obtain ⟨y8, y0, y1, y2, y3, y4, y5, y6, y7⟩ := HX.out.cells
  go_enter Try.func129, Try.ntmps129
  go_upto_region 1 with fail
  generalize hW2 : W.alloc (.cells #[.int .i64 (p1 x), .int .i64 (p2 x)] 131) = w2 at *
  clear hW2
  have BD := Lib.hid ((Below.refl w2.heap.size w2).drew)
  have HSX : Hid (∀ V, Below w2.heap.size w2 V → Pfx bA bB W.heap.size fB A.st B.st an ae bn be (p1 x) (p2 x) (.func (.func 75) #[] #[]) V) := Lib.hid (fun V h => HX.out.below h)
  have HH1 : Hid (∀ V, Below w2.heap.size w2 V → Calls Try.prog 73 #[.agg #[.int .i64 A.st, an, ae], .int .i64 (p1 x)] V fun e w' => e = .returned (.bool (A.endAt (p1 x))) ∧ Below V.heap.size V w') := Lib.hid (fun V h => H1.out V (HQ.out.trans (h.mono HQ.out.size)))
  have HH2 : Hid (∀ V, Below w2.heap.size w2 V → Calls Try.prog 73 #[.agg #[.int .i64 B.st, bn, be], .int .i64 (p2 x)] V fun e w' => e = .returned (.bool (B.endAt (p2 x))) ∧ Below V.heap.size V w') := Lib.hid (fun V h => H2.out V (HQ.out.trans (h.mono HQ.out.size)))
  have XD := HSX.out _ BD.out
  clear H1 H2 HX
  generalize A.endAt (p1 x) = ea at *
  generalize B.endAt (p2 x) = eb at *
  go_region_held3 (fun w' => w'.cell? ⟨fB, 0, none⟩ = some (.func (.func 75) #[] #[]) ∧ w'.cell? ⟨bA, 0, none⟩ = some (.int .i64 A.st) ∧ w'.cell? ⟨bA, 1, none⟩ = some an ∧ w'.cell? ⟨bA, 2, none⟩ = some ae ∧ w'.cell? ⟨bB, 0, none⟩ = some (.int .i64 B.st) ∧ w'.cell? ⟨bB, 1, none⟩ = some bn ∧ w'.cell? ⟨bB, 2, none⟩ = some be ∧ w'.cell? ⟨W.heap.size, 0, none⟩ = some (.int .i64 (p1 x)) ∧ w'.cell? ⟨W.heap.size, 1, none⟩ = some (.int .i64 (p2 x)))
    (first | (with_reducible exact XD.cells) | (with_reducible exact X3.cells) | (with_reducible exact X4.cells) | (with_reducible exact X5.cells))
    (first | (go_at_call 73; with_reducible refine Calls.mono (HH1.out _ ?_) ?_; (· (with_reducible exact BD.out)); rintro e w3 ⟨rfl, hb3⟩; with_reducible have B3 := Lib.hid (Below.then' BD.out hb3); have X3 := HSX.out _ B3.out; clear hb3) | (go_at_call 73; with_reducible refine Calls.mono (HH2.out _ ?_) ?_; (· (with_reducible exact B3.out)); rintro e w4 ⟨rfl, hb4⟩; have B4 := Lib.hid (Below.then' B3.out hb4); clear hb4; have X4 := HSX.out _ B4.out) | (go_at_call 75; refine Calls.mono (bothFn_any ea eb _) ?_; rintro e w5 ⟨rfl, hb5⟩; have B5 := Lib.hid (Below.then' B4.out hb5); clear hb5; have X5 := HSX.out _ B5.out))
  all_goals
    clear XD X3 X4 X5 HSX HH1 HH2 y0 y1 y2 y3 y4 y5 y6 y7 y8
    go_wp2
    go_ret
    exact ⟨ret_bool HPE.out.symm, HQ.out.trans (B5.out.mono HQ.out.size)⟩
set_option maxHeartbeats 1600000 in
theorem pairEndsEither_any (A B : M) (an ae bn be : Value) (bA bB fB : Nat) (W : World) (hT : Two bA bB A B an ae bn be W) (hA : A.good) (hB : B.good) (hf : W.cell? ⟨fB, 0, none⟩ = some (.func (.func 170) #[] #[])) (hfl : fB < W.heap.size) (x : Int) (hx : inP A B x) :
    Calls Try.prog 129 #[.agg #[.int .i64 (p1 x), .int .i64 (p2 x)], .pointer (some ⟨fB, 0, none⟩), .pointer (some ⟨bA, 0, none⟩), .pointer (some ⟨bB, 0, none⟩)] W
      fun e W' => e = .returned (.bool (pEnds A B (fun a b => a || b) x)) ∧ Below W.heap.size W W' := by
  have hb0 : Below W.heap.size W (W.alloc (.cells #[.int .i64 (p1 x), .int .i64 (p2 x)] 131)) := (Below.refl _ _).alloc (Nat.le_refl _) _
  have T0 := hT.below hb0
  have X0 : Pfx bA bB W.heap.size fB A.st B.st an ae bn be (p1 x) (p2 x) (.func (.func 170) #[] #[]) (W.alloc (.cells #[.int .i64 (p1 x), .int .i64 (p2 x)] 131)) := by
    refine ⟨⟨⟨T0.a.hB, T0.b.hB, T0.a.c0, T0.a.c1, T0.a.c2, T0.b.c0, T0.b.c1, T0.b.c2⟩, by simp, World.cell?_alloc_new _ _ _ 0, World.cell?_alloc_new _ _ _ 1⟩, by simp; omega, (hb0.cell (p := ⟨fB, 0, none⟩) hfl).trans hf⟩
  have HX := Lib.hid X0
  have HQ := Lib.hid hb0
  have H1 : Hid (∀ V, Below W.heap.size W V → Calls Try.prog 73 #[.agg #[.int .i64 A.st, an, ae], .int .i64 (p1 x)] V fun e w' => e = .returned (.bool (A.endAt (p1 x))) ∧ Below V.heap.size V w') :=
    Lib.hid (fun V hV => implEndOk_any A (p1 x) an ae V (hT.below hV).a.bools hA hx.1 hx.2.1)
  have H2 : Hid (∀ V, Below W.heap.size W V → Calls Try.prog 73 #[.agg #[.int .i64 B.st, bn, be], .int .i64 (p2 x)] V fun e w' => e = .returned (.bool (B.endAt (p2 x))) ∧ Below V.heap.size V w') :=
    Lib.hid (fun V hV => implEndOk_any B (p2 x) bn be V (hT.below hV).b.bools hB hx.2.2.1 hx.2.2.2)
  have HPE : Hid (pEnds A B (fun a b => a || b) x = (A.endAt (p1 x) || B.endAt (p2 x))) := Lib.hid rfl
  clear hb0 T0 X0 hT hx hA hB hf hfl
  obtain ⟨y8, y0, y1, y2, y3, y4, y5, y6, y7⟩ := HX.out.cells
  go_enter Try.func129, Try.ntmps129
  go_upto_region 1 with fail
  generalize hW2 : W.alloc (.cells #[.int .i64 (p1 x), .int .i64 (p2 x)] 131) = w2 at *
  clear hW2
  have BD := Lib.hid ((Below.refl w2.heap.size w2).drew)
  have HSX : Hid (∀ V, Below w2.heap.size w2 V → Pfx bA bB W.heap.size fB A.st B.st an ae bn be (p1 x) (p2 x) (.func (.func 170) #[] #[]) V) := Lib.hid (fun V h => HX.out.below h)
  have HH1 : Hid (∀ V, Below w2.heap.size w2 V → Calls Try.prog 73 #[.agg #[.int .i64 A.st, an, ae], .int .i64 (p1 x)] V fun e w' => e = .returned (.bool (A.endAt (p1 x))) ∧ Below V.heap.size V w') := Lib.hid (fun V h => H1.out V (HQ.out.trans (h.mono HQ.out.size)))
  have HH2 : Hid (∀ V, Below w2.heap.size w2 V → Calls Try.prog 73 #[.agg #[.int .i64 B.st, bn, be], .int .i64 (p2 x)] V fun e w' => e = .returned (.bool (B.endAt (p2 x))) ∧ Below V.heap.size V w') := Lib.hid (fun V h => H2.out V (HQ.out.trans (h.mono HQ.out.size)))
  have XD := HSX.out _ BD.out
  clear H1 H2 HX
  generalize A.endAt (p1 x) = ea at *
  generalize B.endAt (p2 x) = eb at *
  go_region_held3 (fun w' => w'.cell? ⟨fB, 0, none⟩ = some (.func (.func 170) #[] #[]) ∧ w'.cell? ⟨bA, 0, none⟩ = some (.int .i64 A.st) ∧ w'.cell? ⟨bA, 1, none⟩ = some an ∧ w'.cell? ⟨bA, 2, none⟩ = some ae ∧ w'.cell? ⟨bB, 0, none⟩ = some (.int .i64 B.st) ∧ w'.cell? ⟨bB, 1, none⟩ = some bn ∧ w'.cell? ⟨bB, 2, none⟩ = some be ∧ w'.cell? ⟨W.heap.size, 0, none⟩ = some (.int .i64 (p1 x)) ∧ w'.cell? ⟨W.heap.size, 1, none⟩ = some (.int .i64 (p2 x)))
    (first | (with_reducible exact XD.cells) | (with_reducible exact X3.cells) | (with_reducible exact X4.cells) | (with_reducible exact X5.cells))
    (first | (go_at_call 73; with_reducible refine Calls.mono (HH1.out _ ?_) ?_; (· (with_reducible exact BD.out)); rintro e w3 ⟨rfl, hb3⟩; with_reducible have B3 := Lib.hid (Below.then' BD.out hb3); have X3 := HSX.out _ B3.out; clear hb3) | (go_at_call 73; with_reducible refine Calls.mono (HH2.out _ ?_) ?_; (· (with_reducible exact B3.out)); rintro e w4 ⟨rfl, hb4⟩; have B4 := Lib.hid (Below.then' B3.out hb4); clear hb4; have X4 := HSX.out _ B4.out) | (go_at_call 170; refine Calls.mono (eitherFn_any ea eb _) ?_; rintro e w5 ⟨rfl, hb5⟩; have B5 := Lib.hid (Below.then' B4.out hb5); clear hb5; have X5 := HSX.out _ B5.out))
  all_goals
    clear XD X3 X4 X5 HSX HH1 HH2 y0 y1 y2 y3 y4 y5 y6 y7 y8
    go_wp2
    go_ret
    exact ⟨ret_bool HPE.out.symm, HQ.out.trans (B5.out.mono HQ.out.size)⟩
/-- what pairMachine holds -/
structure Pm (a : Nat) (A B : M) (an ae bn be fv : Value) (W : World) : Prop where
  t : Two a (a + 1) A B an ae bn be W
  lf : a + 1 + 1 < W.heap.size
  cf : W.cell? ⟨a + 1 + 1, 0, none⟩ = some fv
  z : Z0 (a + 1 + 1 + 1) W
theorem Pm.below {a : Nat} {A B : M} {an ae bn be fv : Value} {W W' : World} (h : Pm a A B an ae bn be fv W) (hb : Below W.heap.size W W') : Pm a A B an ae bn be fv W' :=
  ⟨h.t.below hb, Nat.lt_of_lt_of_le h.lf hb.size, (hb.cell (p := ⟨a + 1 + 1, 0, none⟩) h.lf).trans h.cf, h.z.below hb⟩
theorem Pm.new {A B : M} {an ae bn be fv : Value} {w : World} (h1 : IsInts w an A.next) (h2 : IsBools w ae A.ends) (h3 : IsInts w bn B.next) (h4 : IsBools w be B.ends) :
    Pm w.heap.size A B an ae bn be fv ((((w.alloc (.cells #[.int .i64 A.st, an, ae] 26)).alloc (.cells #[.int .i64 B.st, bn, be] 26)).alloc (.cells #[fv] 81)).alloc (.cells #[.int .i64 0, .slice none 0 0, .slice none 0 0] 26)) ∧
      Below w.heap.size w ((((w.alloc (.cells #[.int .i64 A.st, an, ae] 26)).alloc (.cells #[.int .i64 B.st, bn, be] 26)).alloc (.cells #[fv] 81)).alloc (.cells #[.int .i64 0, .slice none 0 0, .slice none 0 0] 26)) := by
  obtain ⟨T2, q2⟩ := Two.new 26 h1 h2 h3 h4
  have hs2 : ((w.alloc (.cells #[.int .i64 A.st, an, ae] 26)).alloc (.cells #[.int .i64 B.st, bn, be] 26)).heap.size = w.heap.size + 1 + 1 := by simp
  generalize (w.alloc (.cells #[.int .i64 A.st, an, ae] 26)).alloc (.cells #[.int .i64 B.st, bn, be] 26) = w2 at *
  have hb := ((Below.refl w2.heap.size w2).alloc (Nat.le_refl _) (.cells #[fv] 81)).alloc (by simp) (.cells #[.int .i64 0, .slice none 0 0, .slice none 0 0] 26)
  have hz := Z0.new (w2.alloc (.cells #[fv] 81))
  rw [World.size_alloc, hs2] at hz
  refine ⟨⟨T2.below hb, by simp [hs2], ?_, hz⟩, q2.trans (hb.mono q2.size)⟩
  have h5 := World.cell?_alloc_lt (w2.alloc (.cells #[fv] 81)) (.cells #[.int .i64 0, .slice none 0 0, .slice none 0 0] 26) ⟨w2.heap.size, 0, none⟩ (by simp)
  rw [World.cell?_alloc_new w2 #[fv] _ 0, hs2] at h5
  exact h5

set_option maxHeartbeats 1600000 in
set_option maxRecDepth 100000 in
theorem pairMachine_any (g : Bool → Bool → Bool) (fi : Nat)
    (HE : ∀ (A B : M) (an ae bn be : Value) (bA bB fB : Nat) (W : World), Two bA bB A B an ae bn be W → A.good → B.good → W.cell? ⟨fB, 0, none⟩ = some (.func (.func fi) #[] #[]) → fB < W.heap.size → ∀ x, inP A B x → Calls Try.prog 129 #[.agg #[.int .i64 (p1 x), .int .i64 (p2 x)], .pointer (some ⟨fB, 0, none⟩), .pointer (some ⟨bA, 0, none⟩), .pointer (some ⟨bB, 0, none⟩)] W fun e W' => e = .returned (.bool (pEnds A B g x)) ∧ Below W.heap.size W W')
    (A B : M) (an ae bn be : Value) (w : World) (h1 : IsInts w an A.next) (h2 : IsBools w ae A.ends) (h3 : IsInts w bn B.next) (h4 : IsBools w be B.ends) (hs1 : (Lit.int .i64 A.st).wf = true) (hs2 : (Lit.int .i64 B.st).wf = true) :
    Calls Try.prog 74 #[.agg #[.int .i64 A.st, an, ae], .agg #[.int .i64 B.st, bn, be], .func (.func fi) #[] #[]] w (JoinNew (A.ok && B.ok) (fun u => g (A.lang 0 u) (B.lang 0 u)) w) := by
  obtain ⟨P4, q4⟩ := Pm.new (fv := .func (.func fi) #[] #[]) h1 h2 h3 h4
  have HP := Lib.hid P4
  have HQ := Lib.hid q4
  have y0 := P4.t.a.c0
  have y1 := P4.t.a.c1
  have y2 := P4.t.a.c2
  have HEE := Lib.hid HE
  clear P4 q4 h1 h2 h3 h4 HE
  go_enter Try.func74, Try.ntmps74
  go_wp2_with fail
  generalize hW2 : (((w.alloc (.cells #[.int .i64 A.st, an, ae] 26)).alloc (.cells #[.int .i64 B.st, bn, be] 26)).alloc (.cells #[.func (.func fi) #[] #[]] 81)).alloc (.cells #[.int .i64 0, .slice none 0 0, .slice none 0 0] 26) = w2 at *
  clear hW2 y0 y1 y2
  refine (implMachineOk_any A an ae w2 HP.out.t.a.ints HP.out.t.a.bools hs1).mono ?_
  rintro e w3 ⟨rfl, hb3⟩
  have P3 := Lib.hid (HP.out.below hb3)
  have Q3 := Lib.hid (HQ.out.trans (hb3.mono HQ.out.size))
  clear hb3
  cases hk1 : A.ok with
  | false =>
    have HJ : Hid (IsJoin (A.ok && B.ok) (fun u => g (A.lang 0 u) (B.lang 0 u)) ⟨0, [], []⟩ false) := Lib.hid (.inr ⟨rfl, rfl, fun h => by rw [hk1] at h; cases h⟩)
    have z0 := P3.out.z.c0
    have z1 := P3.out.z.c1
    have z2 := P3.out.z.c2
    have f0 := P3.out.z.f0
    have f1 := P3.out.z.f1
    have f2 := P3.out.z.f2
    have FI := Lib.hid (fin_cells (x := .int .i64 0) (y := .slice none 0 0) (z := .slice none 0 0) (apart_nils w3.heap.size w3) Q3.out (by omega) P3.out.z.lt (some3 z0 z1 z2) Q3.out.size)
    rw [← hk1]
    go_wp2
    obtain ⟨r1, r2, r3, r4, r5⟩ := FI.out _ rfl
    refine bodyPost_ret (v := .tuple #[.agg #[.int .i64 0, .slice none 0 0, .slice none 0 0], .bool false]) ?_ rfl ⟨⟨0, [], []⟩, false, none, none, 0, 0, HJ.out, rfl, r1, r2⟩
    simp [results, Try.results74, go_sem, r3, r4, r5]
  | true =>
    have y0 := P3.out.t.b.c0
    have y1 := P3.out.t.b.c1
    have y2 := P3.out.t.b.c2
    go_wp2_with fail
    clear y0 y1 y2
    refine (implMachineOk_any B bn be w3 P3.out.t.b.ints P3.out.t.b.bools hs2).mono ?_
    rintro e w4 ⟨rfl, hb4⟩
    have P4 := Lib.hid (P3.out.below hb4)
    have Q4 := Lib.hid (Q3.out.trans (hb4.mono Q3.out.size))
    clear hb4
    cases hk2 : B.ok with
    | false =>
      have HJ : Hid (IsJoin (A.ok && B.ok) (fun u => g (A.lang 0 u) (B.lang 0 u)) ⟨0, [], []⟩ false) := Lib.hid (.inr ⟨rfl, rfl, fun h => by rw [hk1, hk2] at h; cases h⟩)
      have z0 := P4.out.z.c0
      have z1 := P4.out.z.c1
      have z2 := P4.out.z.c2
      have f0 := P4.out.z.f0
      have f1 := P4.out.z.f1
      have f2 := P4.out.z.f2
      have FI := Lib.hid (fin_cells (x := .int .i64 0) (y := .slice none 0 0) (z := .slice none 0 0) (apart_nils w4.heap.size w4) Q4.out (by omega) P4.out.z.lt (some3 z0 z1 z2) Q4.out.size)
      go_wp2
      obtain ⟨r1, r2, r3, r4, r5⟩ := FI.out _ rfl
      refine bodyPost_ret (v := .tuple #[.agg #[.int .i64 0, .slice none 0 0, .slice none 0 0], .bool false]) ?_ rfl ⟨⟨0, [], []⟩, false, none, none, 0, 0, HJ.out, rfl, r1, r2⟩
      simp [results, Try.results74, go_sem, r3, r4, r5]
    | true =>
      have HA := M.ok_good hk1
      have HB := M.ok_good hk2
      have s1 := M.ok_shape hk1
      have s2 := M.ok_shape hk2
      obtain ⟨N, hN24, hN⟩ := pair_n (A := A) (B := B) s1.1 s1.2.1 s2.2.1 s2.1 (on := pOn A B) (fun x hx l b hl h => pOn_in HA HB s2.2.1 x hx l b hl h)
      obtain ⟨Mx, hMx⟩ : ∃ Mx, Mx = bM (pOn A B) (pc 0 0) N (pEnds A B g) := ⟨_, rfl⟩
      have HF : Calls Try.prog 127 #[.agg #[.int .i64 0, .int .i64 0], .func (.func 128) #[] #[.pointer (some ⟨w.heap.size, 0, none⟩), .pointer (some ⟨w.heap.size + 1, 0, none⟩)], .func (.func 129) #[] #[.pointer (some ⟨w.heap.size + 1 + 1, 0, none⟩), .pointer (some ⟨w.heap.size, 0, none⟩), .pointer (some ⟨w.heap.size + 1, 0, none⟩)]] w4 (MachNew Mx w4) := by
        have h := machineFromPair_any (pOn A B) (pEnds A B g) (pc 0 0) N (inP A B) (.pointer (some ⟨w.heap.size, 0, none⟩)) (.pointer (some ⟨w.heap.size + 1, 0, none⟩)) (.pointer (some ⟨w.heap.size + 1 + 1, 0, none⟩)) w4 hN (by omega) (inP_zero s1.1 s2.2.1 s2.1)
          (fun x hx l b hl h => pOn_in HA HB s2.2.1 x hx l b hl h)
          (fun x hx => ⟨WalkArith.wf_i64 (by have := hx.1; have := hx.2.1; omega), WalkArith.wf_i64 (by have := hx.2.2.1; have := hx.2.2.2; omega)⟩)
          (fun W hW x hx l hl => pairOn_any A B an ae bn be _ _ W (P4.out.below hW).t HA HB s2.2.1 x hx l hl)
          (fun W hW x hx => HEE.out A B an ae bn be _ _ _ W (P4.out.below hW).t HA HB (P4.out.below hW).cf (P4.out.below hW).lf x hx)
        rw [show p1 (pc 0 0) = 0 from rfl, show p2 (pc 0 0) = 0 from rfl] at h
        rw [hMx]
        exact h
      have hMg : Mx.good := by rw [hMx]; exact bM_good hN (by omega)
      have hML : Mx.lang 0 = fun u => g (A.lang 0 u) (B.lang 0 u) := by rw [hMx]; exact pOn_lang HA HB s2.2.1 g hN
      have HMG := Lib.hid hMg
      have HML := Lib.hid hML
      have HFH := Lib.hid HF
      have HKK := Lib.hid (And.intro hk1 hk2)
      clear HA HB s1 s2 hN24 hN hMx HF hMg hML hk1 hk2
      go_wp2_with fail
      refine HFH.out.mono ?_
      rintro e w5 ⟨a1, a2, c1, c2, rfl, hA5, hb5⟩
      have P5 := Lib.hid (P4.out.below hb5)
      have Q5 := Lib.hid (Q4.out.trans (hb5.mono Q4.out.size))
      have HI := Lib.hid (And.intro (IsInts.of_owns hA5.head) (IsBools.of_owns hA5.tail.head))
      clear hA5 hb5
      go_wp2_with fail
      refine (implLeastOf_any Mx _ _ w5 HI.out.1 HI.out.2 HMG.out).mono ?_
      intro e w6 hL
      obtain ⟨K, r, d1, d2, e1, e2, hJ, rfl, hA6, hb6⟩ := hL.join HMG.out
      rw [HML.out] at hJ
      have HJ : Hid (IsJoin (A.ok && B.ok) (fun u => g (A.lang 0 u) (B.lang 0 u)) K r) := Lib.hid (by rw [HKK.out.1, HKK.out.2]; exact hJ)
      have P6 := Lib.hid (P5.out.below hb6)
      have Q6 := Lib.hid (Q5.out.trans (hb6.mono Q5.out.size))
      have z0 := P6.out.z.c0
      have z1 := P6.out.z.c1
      have z2 := P6.out.z.c2
      have f0 := P6.out.z.f0
      have f1 := P6.out.z.f1
      have f2 := P6.out.z.f2
      have FI := Lib.hid (fin_cells (x := .int .i64 K.st) (y := .slice d1 K.next.length e1) (z := .slice d2 K.ends.length e2) hA6 Q6.out (by omega) P5.out.z.lt (some3 z0 z1 z2) Q5.out.size)
      clear hL hJ hA6 hb6
      go_wp2
      obtain ⟨r1, r2, r3, r4, r5⟩ := FI.out _ rfl
      refine bodyPost_ret (v := .tuple #[.agg #[.int .i64 K.st, .slice d1 K.next.length e1, .slice d2 K.ends.length e2], .bool r]) ?_ rfl ⟨K, r, d1, d2, e1, e2, HJ.out, rfl, r1, r2⟩
      simp [results, Try.results74, go_sem, r3, r4, r5]
set_option maxHeartbeats 1600000 in
theorem implBoth_any (A B : M) (an ae bn be : Value) (w : World) (h1 : IsInts w an A.next) (h2 : IsBools w ae A.ends) (h3 : IsInts w bn B.next) (h4 : IsBools w be B.ends) (hs1 : (Lit.int .i64 A.st).wf = true) (hs2 : (Lit.int .i64 B.st).wf = true) :
    Calls Try.prog 22 #[.agg #[.int .i64 A.st, an, ae], .agg #[.int .i64 B.st, bn, be]] w (JoinNew (A.ok && B.ok) (fun u => A.lang 0 u && B.lang 0 u) w) := by
  obtain ⟨T2, q2⟩ := Two.new 26 h1 h2 h3 h4
  have hbz := (Below.refl _ ((w.alloc (.cells #[.int .i64 A.st, an, ae] 26)).alloc (.cells #[.int .i64 B.st, bn, be] 26))).alloc (Nat.le_refl _) (.cells #[.int .i64 0, .slice none 0 0, .slice none 0 0] 26)
  have HT := Lib.hid (T2.below hbz)
  have HQ := Lib.hid (q2.trans (hbz.mono q2.size))
  have hz := Z0.new ((w.alloc (.cells #[.int .i64 A.st, an, ae] 26)).alloc (.cells #[.int .i64 B.st, bn, be] 26))
  rw [World.size_alloc, World.size_alloc] at hz
  have HZ := Lib.hid hz
  have y0 := HT.out.a.c0
  have y1 := HT.out.a.c1
  have y2 := HT.out.a.c2
  have y3 := HT.out.b.c0
  have y4 := HT.out.b.c1
  have y5 := HT.out.b.c2
  clear T2 q2 h1 h2 h3 h4 hz hbz
  go_enter Try.func22, Try.ntmps22
  go_wp2_with fail
  generalize hW2 : ((w.alloc (.cells #[.int .i64 A.st, an, ae] 26)).alloc (.cells #[.int .i64 B.st, bn, be] 26)).alloc (.cells #[.int .i64 0, .slice none 0 0, .slice none 0 0] 26) = w2 at *
  clear hW2 y0 y1 y2 y3 y4 y5
  refine (pairMachine_any (fun a b => a && b) 75 (fun A B an ae bn be bA bB fB W hT hA hB hf hfl x hx => pairEndsBoth_any A B an ae bn be bA bB fB W hT hA hB hf hfl x hx) A B an ae bn be w2 HT.out.a.ints HT.out.a.bools HT.out.b.ints HT.out.b.bools hs1 hs2).mono ?_
  rintro e w6 ⟨K, r, d1, d2, e1, e2, hJ, rfl, hA6, hb6⟩
  have HJ := Lib.hid hJ
  have Z6 := Lib.hid (HZ.out.below hb6)
  have Q6 := Lib.hid (HQ.out.trans (hb6.mono HQ.out.size))
  have z0 := Z6.out.c0
  have z1 := Z6.out.c1
  have z2 := Z6.out.c2
  have f0 := Z6.out.f0
  have f1 := Z6.out.f1
  have f2 := Z6.out.f2
  have FI := Lib.hid (fin_cells (x := .int .i64 K.st) (y := .slice d1 K.next.length e1) (z := .slice d2 K.ends.length e2) hA6 Q6.out (by omega) HZ.out.lt (some3 z0 z1 z2) HQ.out.size)
  clear hJ hA6 hb6
  go_wp2
  obtain ⟨r1, r2, r3, r4, r5⟩ := FI.out _ rfl
  refine bodyPost_ret (v := .tuple #[.agg #[.int .i64 K.st, .slice d1 K.next.length e1, .slice d2 K.ends.length e2], .bool r]) ?_ rfl ⟨K, r, d1, d2, e1, e2, HJ.out, rfl, r1, r2⟩
  simp [results, Try.results22, go_sem, r3, r4, r5]

set_option maxHeartbeats 1600000 in
theorem implEither_any (A B : M) (an ae bn be : Value) (w : World) (h1 : IsInts w an A.next) (h2 : IsBools w ae A.ends) (h3 : IsInts w bn B.next) (h4 : IsBools w be B.ends) (hs1 : (Lit.int .i64 A.st).wf = true) (hs2 : (Lit.int .i64 B.st).wf = true) :
    Calls Try.prog 152 #[.agg #[.int .i64 A.st, an, ae], .agg #[.int .i64 B.st, bn, be]] w (JoinNew (A.ok && B.ok) (fun u => A.lang 0 u || B.lang 0 u) w) := by
  obtain ⟨T2, q2⟩ := Two.new 26 h1 h2 h3 h4
  have hbz := (Below.refl _ ((w.alloc (.cells #[.int .i64 A.st, an, ae] 26)).alloc (.cells #[.int .i64 B.st, bn, be] 26))).alloc (Nat.le_refl _) (.cells #[.int .i64 0, .slice none 0 0, .slice none 0 0] 26)
  have HT := Lib.hid (T2.below hbz)
  have HQ := Lib.hid (q2.trans (hbz.mono q2.size))
  have hz := Z0.new ((w.alloc (.cells #[.int .i64 A.st, an, ae] 26)).alloc (.cells #[.int .i64 B.st, bn, be] 26))
  rw [World.size_alloc, World.size_alloc] at hz
  have HZ := Lib.hid hz
  have y0 := HT.out.a.c0
  have y1 := HT.out.a.c1
  have y2 := HT.out.a.c2
  have y3 := HT.out.b.c0
  have y4 := HT.out.b.c1
  have y5 := HT.out.b.c2
  clear T2 q2 h1 h2 h3 h4 hz hbz
  go_enter Try.func152, Try.ntmps152
  go_wp2_with fail
  generalize hW2 : ((w.alloc (.cells #[.int .i64 A.st, an, ae] 26)).alloc (.cells #[.int .i64 B.st, bn, be] 26)).alloc (.cells #[.int .i64 0, .slice none 0 0, .slice none 0 0] 26) = w2 at *
  clear hW2 y0 y1 y2 y3 y4 y5
  refine (pairMachine_any (fun a b => a || b) 170 (fun A B an ae bn be bA bB fB W hT hA hB hf hfl x hx => pairEndsEither_any A B an ae bn be bA bB fB W hT hA hB hf hfl x hx) A B an ae bn be w2 HT.out.a.ints HT.out.a.bools HT.out.b.ints HT.out.b.bools hs1 hs2).mono ?_
  rintro e w6 ⟨K, r, d1, d2, e1, e2, hJ, rfl, hA6, hb6⟩
  have HJ := Lib.hid hJ
  have Z6 := Lib.hid (HZ.out.below hb6)
  have Q6 := Lib.hid (HQ.out.trans (hb6.mono HQ.out.size))
  have z0 := Z6.out.c0
  have z1 := Z6.out.c1
  have z2 := Z6.out.c2
  have f0 := Z6.out.f0
  have f1 := Z6.out.f1
  have f2 := Z6.out.f2
  have FI := Lib.hid (fin_cells (x := .int .i64 K.st) (y := .slice d1 K.next.length e1) (z := .slice d2 K.ends.length e2) hA6 Q6.out (by omega) HZ.out.lt (some3 z0 z1 z2) HQ.out.size)
  clear hJ hA6 hb6
  go_wp2
  obtain ⟨r1, r2, r3, r4, r5⟩ := FI.out _ rfl
  refine bodyPost_ret (v := .tuple #[.agg #[.int .i64 K.st, .slice d1 K.next.length e1, .slice d2 K.ends.length e2], .bool r]) ?_ rfl ⟨K, r, d1, d2, e1, e2, HJ.out, rfl, r1, r2⟩
  simp [results, Try.results152, go_sem, r3, r4, r5]
end Go.Proofs.Ytaghjddndgpljaa

namespace Go.Proofs.Ytaghjddndgpljaa
open Go.RowKit Go.Maps

set_option maxHeartbeats 4000000 in
theorem machineFromNot_any (on : Int → Nat → Option Int) (ends : Int → Bool) (s0 : Int) (N : Nat) (P : Int → Prop) (p1 : Value) (w : World)
    (hN : (bfsTo on s0 N).1.length = N) (hN4 : N ≤ 4000) (h0 : P s0) (hs : ∀ x, P x → ∀ l b, l < 3 → on x l = some b → P b) (hw : ∀ x, P x → (Lit.int .i64 x).wf = true)
    (HOn : ∀ W, Below w.heap.size w W → ∀ x, P x → ∀ l : Nat, l < 3 → Calls Try.prog 70 #[.int .i64 x, .int .i64 (l : Int), p1] W fun e W' => ∃ v b, e = .returned (.tuple #[.int .i64 v, .bool b]) ∧ on x l = (if b = true then some v else none) ∧ Below W.heap.size W W')
    (HEnds : ∀ W, Below w.heap.size w W → ∀ x, P x → Calls Try.prog 72 #[.int .i64 x, p1] W fun e W' => e = .returned (.bool (ends x)) ∧ Below W.heap.size W W') :
    Calls Try.prog 69 #[.int .i64 s0, .func (.func 70) #[] #[p1], .func (.func 72) #[] #[p1]] w (MachNew ⟨N, (bfsTo on s0 N).2, (bfsTo on s0 N).1.map ends⟩ w) := by
  have hmm := @run_makeMap Try.prog
  obtain ⟨i0, hi, hz0, hz1, hz2⟩ := info_parts infoIntF
  obtain ⟨j0, hj, hy0, hy1, hy2⟩ := info_parts infoBoolF
  have HI := Lib.hid (And.intro hi (And.intro hz0 (And.intro hz1 hz2)))
  have HJ := Lib.hid (And.intro hj (And.intro hy0 (And.intro hy1 hy2)))
  clear hi hz0 hz1 hz2 hj hy0 hy1 hy2
  have HON := Lib.hid HOn
  have HENDS := Lib.hid HEnds
  have hall := Lib.hid (bfsTo_all h0 hs)
  have HNN := Lib.hid hN
  have HS := Lib.hid hs
  have HWF := Lib.hid hw
  have hle := Lib.hid (bfsTo_le hN)
  have wf0 := hw s0 h0
  clear HOn HEnds hN hs hw
  obtain ⟨w1, hrun, hown1, hg1⟩ : ∃ w', (Instr.mapUpdate 127 (.map (some (w.heap.size + 1 + 1 + 1))) (.int .i64 s0) (.int .i64 0)).run Try.prog ((((w.alloc (.cells #[.int .i64 0, .slice none 0 0, .slice none 0 0] 26)).alloc (.cells #[.int .i64 0, .slice none 0 0, .slice none 0 0] 26)).alloc (.cells #[.int .i64 s0] 3)).alloc (.map #[] 0)) = .ok () w' ∧ w'.ownsMap (H := Unit) Try.prog 3 (plainElem Try.prog 3) (w.heap.size + 1 + 1 + 1) 1 ((DataW.map []).put (intKey s0) (.lit (.int .i64 0))) ∧ World.grownBy ((((w.alloc (.cells #[.int .i64 0, .slice none 0 0, .slice none 0 0] 26)).alloc (.cells #[.int .i64 0, .slice none 0 0, .slice none 0 0] 26)).alloc (.cells #[.int .i64 s0] 3)).alloc (.map #[] 0)) w' (some (w.heap.size + 1 + 1 + 1)) := by
    have hm := World.ownsMap_made (H := Unit) (((w.alloc (.cells #[.int .i64 0, .slice none 0 0, .slice none 0 0] 26)).alloc (.cells #[.int .i64 0, .slice none 0 0, .slice none 0 0] 26)).alloc (.cells #[.int .i64 s0] 3)) Try.prog 3 (plainElem Try.prog 3)
    rw [World.size_alloc, World.size_alloc, World.size_alloc] at hm
    exact hm.update lawIntF Try.underlying127 (by unfold maxLen; omega) (keyOf_int_mk Try.underlying3 wf0) (plainElem_int Try.underlying3 (by decide))
  have F0 := Lib.hid (from_start w s0 3 rfl hown1 hg1 rfl)
  clear hown1 hg1
  go_enter Try.func69, Try.ntmps69
  go_wp2_with fail
  generalize hR6 : w.heap.size = R6 at *
  generalize R6 + 1 + 1 + 1 = MB at *
  generalize hR7 : R6 + 1 = R7 at *
  generalize (.slice (some ⟨R7 + 1, 0, none⟩) 1 1 : Value) = qv0 at *
  clear hrun
  go_loopw [8, 10] (fun qv i wr => ∃ (n : Nat) (q : List Int) (nx : List Int) (nv ev : Value), n ≤ N ∧ n ≤ q.length ∧ i = .int .i64 n ∧ bfsTo on s0 n = (q, nx) ∧ From w R6 R7 MB q qv nx nv ((q.take n).map ends) ev wr) (fun _ i _ => N - (intOf i).toNat)
  case atStart => exact ⟨0, [s0], [], _, _, Nat.zero_le _, Nat.zero_le _, rfl, rfl, F0.out⟩
  case round =>
    obtain ⟨n, q, nx, nv, ev, hn, hnq, rfl, hq, hF⟩ := hrel
    have F1 := Lib.hid hF
    obtain ⟨a8, c8, rfl⟩ := ownsRow_slice hF.rowQ
    clear hF
    have HQ := Lib.hid hq
    have hqN : q.length ≤ N := by have := hle.out n; rw [hq] at this; exact this
    have hPq : Hid (∀ y ∈ q, P y) := by have := hall.out n; rw [hq] at this; exact Lib.hid this
    by_cases hlt : n < q.length
    · have hx := Lib.hid (hPq.out _ (List.getElem_mem hlt))
      generalize hxe : q[n] = x at hx
      have HX := Lib.hid hxe
      clear hq hxe
      go_wp2_with fail
      go_loopw [8, 27] (fun qv' li wr => ∃ (l : Nat) (q' nx' : List Int) (nv' : Value), l ≤ 3 ∧ li = .int .i64 l ∧ bfsL on x (q, nx) l = (q', nx') ∧ From w R6 R7 MB q' qv' nx' nv' ((q.take n).map ends) ev wr) (fun _ li _ => 3 - (intOf li).toNat)
      case atStart => exact ⟨0, q, nx, nv, by omega, rfl, rfl, F1.out⟩
      case round =>
        obtain ⟨l, q', nx', nv', hl, rfl, hq', hF'⟩ := hrel
        have F2 := Lib.hid hF'
        have HQ' := Lib.hid hq'
        obtain ⟨hn', hxn⟩ := bfsL_at hq' hlt
        rw [HX.out] at hxn
        obtain ⟨g, c8', rfl, -, -⟩ := World.ownsRow.form hF'.rowQ (by omega)
        have hcell := World.ownsRow.cellAt hF'.rowQ n (by omega)
        rw [List.getElem?_map, List.getElem?_eq_getElem hn', hxn] at hcell
        simp only [Option.map_some] at hcell
        clear hF' hq' hxn
        by_cases hl3 : l < 3
        · go_wp2_with fail
          refine (HON.out _ (by rw [← hR6]; exact F2.out.keep) x hx.out l hl3).mono ?_
          rintro e w2 ⟨v, b, rfl, hon, hb⟩
          have F3 := Lib.hid (F2.out.below hb)
          have HB1 : Hid (bfsL on x (q, nx) (l + 1) = bfs1 (q', nx') (on x l)) := by
            have : bfsL on x (q, nx) (l + 1) = bfs1 (q', nx') (on x l) := by rw [bfsL, HQ'.out]
            exact Lib.hid this
          have hq'N : q'.length ≤ N := by
            have h1 := (bfsL_mono on x (q, nx) hl).length_le
            have h2 := hle.out (n + 1)
            rw [bfsTo_step (by rw [HQ.out]; exact hlt)] at h2
            simp only [HQ.out, HX.out] at h2
            rw [HQ'.out] at h1
            simp only at h1
            omega
          clear F2 hb hcell
          have y0 := F3.out.cell.1
          have y1 := F3.out.cell.2.1
          have y2 := F3.out.cell.2.2
          have hnl : nx'.length ≤ 13000 := by
            have h1 := bfsL_len on x (q, nx) l
            have h2 := bfsTo_len (on := on) (s0 := s0) n (by rw [HQ.out]; show n ≤ q.length; omega)
            rw [HQ'.out] at h1
            rw [HQ.out] at h2
            simp only at h1 h2
            omega
          cases b with
          | false =>
            have HON1 : Hid (on x l = none) := Lib.hid hon
            clear hon
            go_wp2_with (at_builtin; refine wpList_append_lies _ rfl _ _ 23 rfl 0 3 i0 (.int .i64 0) 1 8 Try.underlying23 HI.out.1 HI.out.2.1 HI.out.2.2.1 HI.out.2.2.2 rfl (by decide) nv' nx'.length (nx'.map (Value.int .i64)) rfl (F3.out.rowN.alloc _) ⟨w2.heap.size, 0, none⟩ 1 1 [.int .i64 (-1)] rfl rfl (cell_one_new _ _ _) (by simp [Value.oneCell']) (by omega) (by unfold maxLen; omega) (by omega) (Nat.zero_le _) _ rfl ?_; intro g3 cp w4 hown hgrow hat hlt3; obtain ⟨F4, x31, f31⟩ := F3.out.nextN hgrow hown hat)
            go_roundw
            case rel => exact ⟨l + 1, q', nx' ++ [-1], _, by omega, by go_num, by rw [HB1.out, HON1.out, bfs1_none], F4⟩
            case measure => simp [intOf]; omega
          | true =>
            have HON1 : Hid (on x l = some v) := Lib.hid hon
            have hPv := HS.out x hx.out l v hl3 hon
            have wfv := HWF.out v hPv
            have HH := Lib.hid (has_int (q := q') v)
            have hnd : Hid (q'.Nodup) := by
              have h1 := bfsL_nodup on x (p := (q, nx)) (by have := bfsTo_nodup on s0 n; rw [HQ.out] at this; exact this) l
              rw [HQ'.out] at h1
              exact Lib.hid h1
            clear hon
            by_cases hm : v ∈ q'
            · have HM := Lib.hid hm
              have HHt : Hid (Maps.has (qD (H := Unit) intKey q') (.int .i64 v) = true) := Lib.hid (HH.out.trans (by simp [hm]))
              clear hm
              go_wp2_with (first | (at_lookup; refine wpList_lookup_own_ok_int _ rfl _ _ 127 rfl 3 3 .i64 lawIntF Try.underlying127 Try.underlying3 (zeroIntF _) MB q'.length (qD (H := Unit) intKey q') rfl F3.out.map _ _ rfl (keyOf_int_mk Try.underlying3 wfv) ?_; intro c hat0 hwc; rw [HHt.out]) | (at_builtin; refine wpList_append_lies _ rfl _ _ 23 rfl 0 3 i0 (.int .i64 0) 1 8 Try.underlying23 HI.out.1 HI.out.2.1 HI.out.2.2.1 HI.out.2.2.2 rfl (by decide) nv' nx'.length (nx'.map (Value.int .i64)) rfl (F3.out.rowN.alloc _) ⟨w2.heap.size, 0, none⟩ 1 1 [.int .i64 _] rfl rfl (cell_one_new _ _ _) (by simp [Value.oneCell']) (by omega) (by unfold maxLen; omega) (by omega) (Nat.zero_le _) _ rfl ?_; intro g3 cp w4 hown hgrow hat hlt3; obtain ⟨F4, x31, f31⟩ := F3.out.nextN hgrow hown hat))
              go_roundw
              case rel =>
                have hc := at_int v c hnd.out HM.out hat0
                subst hc
                exact ⟨l + 1, q', nx' ++ [(q'.idxOf v : Int)], _, by omega, by go_num, by rw [HB1.out, HON1.out, bfs1_old HM.out], F4⟩
              case measure => simp [intOf]; omega
            · have HM := Lib.hid hm
              have HHf : Hid (Maps.has (qD (H := Unit) intKey q') (.int .i64 v) = false) := Lib.hid (HH.out.trans (by simp [hm]))
              clear hm
              go_wp2_with (first | (at_lookup; refine wpList_lookup_own_ok_int _ rfl _ _ 127 rfl 3 3 .i64 lawIntF Try.underlying127 Try.underlying3 (zeroIntF _) MB q'.length (qD (H := Unit) intKey q') rfl F3.out.map _ _ rfl (keyOf_int_mk Try.underlying3 wfv) ?_; intro c hat0 hwc; rw [HHf.out]) | (at_mapUpdate; refine wpList_mapUpdate_own _ rfl _ _ _ 127 rfl 3 3 lawIntF Try.underlying127 _ MB q'.length (qD (H := Unit) intKey q') rfl F3.out.map (by unfold maxLen; omega) _ _ (intKey v) rfl rfl (keyOf_int_mk Try.underlying3 wfv) (.lit (.int .i64 (q'.length : Int))) [] (plainElem_int Try.underlying3 (WalkArith.wf_i64 (by omega))) ?_; intro w3 hown3 hgrow3) | (at_builtin; refine wpList_append_lies _ rfl _ _ 23 rfl 0 3 i0 (.int .i64 0) 1 8 Try.underlying23 HI.out.1 HI.out.2.1 HI.out.2.2.1 HI.out.2.2.2 rfl (by decide) (.slice (some ⟨g, 0, none⟩) q'.length c8') q'.length (q'.map (Value.int .i64)) rfl ((F3.out.rowQ_kept hgrow3).alloc _) ⟨w3.heap.size, 0, none⟩ 1 1 [.int .i64 v] rfl rfl (cell_one_new _ _ _) (by simp [Value.oneCell']) (by omega) (by unfold maxLen; omega) (by omega) (Nat.zero_le _) _ rfl ?_; intro g3 cp w4 hown hgrow hat hlt3; have F4 := Lib.hid (F3.out.push hgrow3 hown3 hgrow hown hat); have y0 := F4.out.cell.1; have y1 := F4.out.cell.2.1; have y2 := F4.out.cell.2.2) | (at_builtin; refine wpList_append_lies _ rfl _ _ 23 rfl 0 3 i0 (.int .i64 0) 1 8 Try.underlying23 HI.out.1 HI.out.2.1 HI.out.2.2.1 HI.out.2.2.2 rfl (by decide) nv' nx'.length (nx'.map (Value.int .i64)) rfl (F4.out.rowN.alloc _) ⟨w4.heap.size, 0, none⟩ 1 1 [.int .i64 _] rfl rfl (cell_one_new _ _ _) (by simp [Value.oneCell']) (by omega) (by unfold maxLen; omega) (by omega) (Nat.zero_le _) _ rfl ?_; intro g5 cp5 w5 hown5 hgrow5 hat5 hlt5; obtain ⟨F5, x31, f31⟩ := F4.out.nextN hgrow5 hown5 hat5))
              go_roundw
              case rel => exact ⟨l + 1, q' ++ [v], nx' ++ [(q'.length : Int)], _, by omega, by go_num, by rw [HB1.out, HON1.out, bfs1_new HM.out], F5⟩
              case measure => simp [intOf]; omega
        · obtain rfl : l = 3 := by omega
          have HB3 : Hid (bfsTo on s0 (n + 1) = (q', nx')) := by
            have : bfsTo on s0 (n + 1) = (q', nx') := by
              rw [bfsTo_step (by rw [HQ.out]; exact hlt)]
              simp only [HQ.out, HX.out]
              exact HQ'.out
            exact Lib.hid this
          have hn1 : n < N := by omega
          have HT : Hid ((q'.take (n + 1)).map ends = (q.take n).map ends ++ [ends x]) := Lib.hid (bfsL_take HQ'.out hlt HX.out)
          have hes : ((q.take n).map ends).length ≤ 4000 := by rw [List.length_map, List.length_take]; omega
          generalize (q.take n).map ends = es at *
          go_wp2_with fail
          have Fd := Lib.hid (F2.out.same (grown_drew _ none))
          have z12 := Fd.out.cell.2.2
          have hcell2 : wr.drew.cell? ⟨g, n, none⟩ = some (.int .i64 x) := hcell
          have hkd : Below R6 w wr.drew := by rw [← hR6]; exact Fd.out.keep
          have HK := Lib.hid hkd
          clear hkd
          go_region_law (first | (go_simp; go_at_call 72; refine (HENDS.out _ HK.out x hx.out).mono ?_; rintro e w2 ⟨rfl, hb⟩; have F3 := Lib.hid (Fd.out.below hb); have x12 := F3.out.cell.2.2; have x13 := fun b => (F3.out.same (World.grownBy_alloc w2 (.cells #[.bool b] 4) none)).cell.2.2) | (refine step_append_lies _ rfl _ _ 24 rfl 0 4 j0 (.bool false) 1 1 Try.underlying24 HJ.out.1 HJ.out.2.1 HJ.out.2.2.1 HJ.out.2.2.2 rfl (by decide) ev es.length (es.map Value.bool) rfl (F3.out.rowE.alloc _) ⟨w2.heap.size, 0, none⟩ 1 1 [.bool (ends x)] rfl rfl (cell_one_new _ _ _) (by simp [Value.oneCell']) (by omega) (by unfold maxLen; omega) (by omega) (Nat.zero_le _) _ rfl ?_; intro g3 cp w4 hown hgrow hat hlt3; obtain ⟨F4, x31, f31⟩ := F3.out.nextE hgrow hown hat))
          all_goals
            clear z12 x12 x13
            go_wp2
            go_roundw
            case rel => exact ⟨n + 1, q', nx', nv', _, hn1, hn', by go_num, HB3.out, by rw [HT.out]; exact F4⟩
            case measure => simp [intOf]; omega
    · have hqn : q.length = n := by omega
      have hnN : n = N := bfsTo_one (by rw [HQ.out]; exact hqn) HNN.out
      subst hnN
      have F5 := F1.out
      rw [List.take_of_length_le (by omega)] at F5
      clear F1
      obtain ⟨a1, c1, rfl⟩ := ownsRow_slice F5.rowN
      obtain ⟨a2, c2, rfl⟩ := ownsRow_slice F5.rowE
      have F1 := Lib.hid F5
      clear F5
      have y0 := F1.out.cell.1
      have y0f := F1.out.froz 0
      obtain ⟨x0, x1, x2, x6⟩ := F1.out.len (n : Int) rfl
      have g00 : (wr.setCell ⟨R7, 0, none⟩ (.int .i64 (n : Int))).cell? ⟨R6, 0, none⟩ = some (.int .i64 0) := cellsT_cell x6 0
      have g01 : (wr.setCell ⟨R7, 0, none⟩ (.int .i64 (n : Int))).cell? ⟨R6, 1, none⟩ = some (.slice none 0 0) := cellsT_cell x6 1
      have g02 : (wr.setCell ⟨R7, 0, none⟩ (.int .i64 (n : Int))).cell? ⟨R6, 2, none⟩ = some (.slice none 0 0) := cellsT_cell x6 2
      have f00 := cellsT_frozen x6 0
      have f01 := cellsT_frozen x6 1
      have f02 := cellsT_frozen x6 2
      clear x6
      go_wp2_with fail
      obtain ⟨r1, r2, r3, r4, r5⟩ := F1.out.done (n : Int) rfl
      have hM : (⟨(n : Int), (bfsTo on s0 n).2, (bfsTo on s0 n).1.map ends⟩ : M) = ⟨(n : Int), nx, q.map ends⟩ := by rw [HQ.out]
      refine bodyPost_ret (v := .agg #[.int .i64 (n : Int), .slice a1 nx.length c1, .slice a2 n c2]) ?_ rfl (by rw [hM]; exact ⟨a1, a2, c1, c2, by simp only [List.length_map, hqn], r1, r2⟩)
      simp [results, Try.results69, go_sem, r3, r4, r5]
end Go.Proofs.Ytaghjddndgpljaa

namespace Go.Proofs.Ytaghjddndgpljaa
open Go.RowKit

theorem notOn_any (m : M) (nv ev : Value) (B : Nat) (W : World) (hM : MachBox B m.st nv m.next ev m.ends W) (hg : m.good) (s : Int) (hs : inN m s) (l : Nat) (hl : l < 3) :
    Calls Try.prog 70 #[.int .i64 s, .int .i64 (l : Int), .pointer (some ⟨B, 0, none⟩)] W
      fun e W' => ∃ v b, e = .returned (.tuple #[.int .i64 v, .bool b]) ∧ nOn m s l = (if b = true then some v else none) ∧ Below W.heap.size W W' := by
  have y0 := hM.c0
  have y1 := hM.c1
  have y2 := hM.c2
  have HI := Lib.hid hM.ints
  have HG := Lib.hid hg
  have HS := Lib.hid hs
  clear hM hg hs
  go_enter Try.func70, Try.ntmps70
  go_wp2_with fail
  refine (implNextOfG_any m s (l : Int) nv ev _ HI.out HG.out HS.out.1 HS.out.2 (by omega) (by omega)).mono ?_
  rintro e w2 ⟨rfl, hb⟩
  have HB := Lib.hid hb
  clear hb y0 y1 y2
  go_wp2
  go_ret2
  exact ⟨_, true, rfl, rfl, HB.out⟩
theorem notEnds_any (m : M) (nv ev : Value) (B : Nat) (W : World) (hM : MachBox B m.st nv m.next ev m.ends W) (hg : m.good) (s : Int) (hs : inN m s) :
    Calls Try.prog 72 #[.int .i64 s, .pointer (some ⟨B, 0, none⟩)] W fun e W' => e = .returned (.bool (!m.endAt s)) ∧ Below W.heap.size W W' := by
  have y0 := hM.c0
  have y1 := hM.c1
  have y2 := hM.c2
  have HI := Lib.hid hM.bools
  have HG := Lib.hid hg
  have HS := Lib.hid hs
  clear hM hg hs
  go_enter Try.func72, Try.ntmps72
  go_wp2_with fail
  refine (implEndOk_any m s nv ev _ HI.out HG.out HS.out.1 HS.out.2).mono ?_
  rintro e w2 ⟨rfl, hb⟩
  have HB := Lib.hid hb
  clear hb y0 y1 y2
  cases he : m.endAt s <;> (go_wp2; go_ret; exact ⟨by rw [he]; rfl, HB.out⟩)

set_option maxHeartbeats 1600000 in
theorem implNot_any (m : M) (nv ev : Value) (w : World) (h1 : IsInts w nv m.next) (h2 : IsBools w ev m.ends) (hst : (Lit.int .i64 m.st).wf = true) :
    Calls Try.prog 21 #[.agg #[.int .i64 m.st, nv, ev]] w (JoinNew m.ok (fun u => !m.lang 0 u) w) := by
  have hM : MachBox w.heap.size m.st nv m.next ev m.ends (w.alloc (.cells #[.int .i64 m.st, nv, ev] 26)) := MachBox.new _ h1 h2
  have hb2 := (Below.refl _ (w.alloc (.cells #[.int .i64 m.st, nv, ev] 26))).alloc (Nat.le_refl _) (.cells #[.int .i64 0, .slice none 0 0, .slice none 0 0] 26)
  have M2 := Lib.hid (hM.below hb2)
  have q2 := Lib.hid (((Below.refl w.heap.size w).alloc (Nat.le_refl _) (.cells #[.int .i64 m.st, nv, ev] 26)).trans (hb2.mono (by simp)))
  have hz := Z0.new (w.alloc (.cells #[.int .i64 m.st, nv, ev] 26))
  rw [World.size_alloc] at hz
  have Z2 := Lib.hid hz
  have y0 := M2.out.c0
  have y1 := M2.out.c1
  have y2 := M2.out.c2
  clear hz hM hb2 h1 h2
  go_enter Try.func21, Try.ntmps21
  go_wp2_with fail
  refine (implMachineOk_any m nv ev _ M2.out.ints M2.out.bools hst).mono ?_
  rintro e w3 ⟨rfl, hb3⟩
  have M3 := Lib.hid (M2.out.below hb3)
  have q3 := Lib.hid (q2.out.trans (hb3.mono q2.out.size))
  have Z3 := Lib.hid (Z2.out.below hb3)
  clear hb3 y0 y1 y2 M2 q2 Z2
  cases hk : m.ok with
  | false =>
    have HJ : Hid (IsJoin m.ok (fun u => !m.lang 0 u) ⟨0, [], []⟩ false) := Lib.hid (.inr ⟨rfl, rfl, fun h => by rw [hk] at h; cases h⟩)
    have z0 := Z3.out.c0
    have z1 := Z3.out.c1
    have z2 := Z3.out.c2
    have f0 := Z3.out.f0
    have f1 := Z3.out.f1
    have f2 := Z3.out.f2
    have FI := Lib.hid (fin_cells (x := .int .i64 0) (y := .slice none 0 0) (z := .slice none 0 0) (apart_nils w3.heap.size w3) q3.out (Nat.le_succ _) Z3.out.lt (some3 z0 z1 z2) q3.out.size)
    rw [← hk]
    go_wp2
    obtain ⟨r1, r2, r3, r4, r5⟩ := FI.out _ rfl
    refine bodyPost_ret (v := .tuple #[.agg #[.int .i64 0, .slice none 0 0, .slice none 0 0], .bool false]) ?_ rfl ⟨⟨0, [], []⟩, false, none, none, 0, 0, HJ.out, rfl, r1, r2⟩
    simp [results, Try.results21, go_sem, r3, r4, r5]
  | true =>
    have HG := M.ok_good hk
    have s1 := M.ok_shape hk
    obtain ⟨N, hN49, hN⟩ := not_n HG s1.2.1
    obtain ⟨Mx, hMx⟩ : ∃ Mx, Mx = bM (nOn m) 0 N (fun x => !m.endAt x) := ⟨_, rfl⟩
    have HF : Calls Try.prog 69 #[.int .i64 0, .func (.func 70) #[] #[.pointer (some ⟨w.heap.size, 0, none⟩)], .func (.func 72) #[] #[.pointer (some ⟨w.heap.size, 0, none⟩)]] w3 (MachNew Mx w3) := by
      have h := machineFromNot_any (nOn m) (fun x => !m.endAt x) 0 N (inN m) (.pointer (some ⟨w.heap.size, 0, none⟩)) w3 hN (by omega) (inN_zero HG)
        (fun x hx l b hl h => nOn_in HG x hx l b hl h)
        (fun x hx => WalkArith.wf_i64 (by have := hx.1; have := hx.2; omega))
        (fun W hW x hx l hl => notOn_any m nv ev _ W (M3.out.below hW) HG x hx l hl)
        (fun W hW x hx => notEnds_any m nv ev _ W (M3.out.below hW) HG x hx)
      rw [hMx]
      exact h
    have HMG := Lib.hid (show Mx.good by rw [hMx]; exact bM_good hN (by omega))
    have HML := Lib.hid (show Mx.lang 0 = fun u => !m.lang 0 u by rw [hMx]; exact not_lang HG hN)
    have HFH := Lib.hid HF
    have HKK := Lib.hid hk
    clear HG s1 hN49 hN hMx HF hk
    go_wp2_with fail
    refine HFH.out.mono ?_
    rintro e w5 ⟨a1, a2, c1, c2, rfl, hA5, hb5⟩
    have Z5 := Lib.hid (Z3.out.below hb5)
    have Q5 := Lib.hid (q3.out.trans (hb5.mono q3.out.size))
    have HI := Lib.hid (And.intro (IsInts.of_owns hA5.head) (IsBools.of_owns hA5.tail.head))
    clear hA5 hb5
    go_wp2_with fail
    refine (implLeastOf_any Mx _ _ w5 HI.out.1 HI.out.2 HMG.out).mono ?_
    intro e w6 hL
    obtain ⟨K, r, d1, d2, e1, e2, hJ, rfl, hA6, hb6⟩ := hL.join HMG.out
    rw [HML.out] at hJ
    have HJ : Hid (IsJoin m.ok (fun u => !m.lang 0 u) K r) := Lib.hid (by rw [HKK.out]; exact hJ)
    have Z6 := Lib.hid (Z5.out.below hb6)
    have Q6 := Lib.hid (Q5.out.trans (hb6.mono Q5.out.size))
    have z0 := Z6.out.c0
    have z1 := Z6.out.c1
    have z2 := Z6.out.c2
    have f0 := Z6.out.f0
    have f1 := Z6.out.f1
    have f2 := Z6.out.f2
    have FI := Lib.hid (fin_cells (x := .int .i64 K.st) (y := .slice d1 K.next.length e1) (z := .slice d2 K.ends.length e2) hA6 Q6.out (Nat.le_succ _) Z5.out.lt (some3 z0 z1 z2) Q5.out.size)
    clear hL hJ hA6 hb6
    go_wp2
    obtain ⟨r1, r2, r3, r4, r5⟩ := FI.out _ rfl
    refine bodyPost_ret (v := .tuple #[.agg #[.int .i64 K.st, .slice d1 K.next.length e1, .slice d2 K.ends.length e2], .bool r]) ?_ rfl ⟨K, r, d1, d2, e1, e2, HJ.out, rfl, r1, r2⟩
    simp [results, Try.results21, go_sem, r3, r4, r5]
end Go.Proofs.Ytaghjddndgpljaa
