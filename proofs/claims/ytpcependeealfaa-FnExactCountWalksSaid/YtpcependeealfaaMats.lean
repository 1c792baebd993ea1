/- Tables of numbers in memory: rows of rows. No program, no condition. -/
import Derived.Test.YtpcependeealfaaBack2
import Derived.Test.YtpcependeealfaaRingMath
namespace Go.Proofs.Ytpcependeealfaa
open Go.RowKit

/-- a row of the values of a function -/
def rowF (f : Nat → Int) (n : Nat) : List Int := (List.range n).map f
theorem rowF_length (f : Nat → Int) (n : Nat) : (rowF f n).length = n := by simp [rowF]
theorem rowF_at (f : Nat → Int) (n j : Nat) (h : j < n) : (rowF f n)[j]? = some (f j) := by simp [rowF, h]
theorem rowF_get (f : Nat → Int) (n j : Nat) (h : j < (rowF f n).length) : (rowF f n)[j] = f j := by simp [rowF]
theorem rowF_congr {f g : Nat → Int} {n : Nat} (h : ∀ j, j < n → f j = g j) : rowF f n = rowF g n := by
  apply List.map_congr_left
  intro j hj
  exact h j (List.mem_range.1 hj)
theorem rowF_set {f g : Nat → Int} {n j : Nat} {u : Int} (_h : j < n) (hu : g j = u) (hg : ∀ k, k < n → k ≠ j → g k = f k) : (rowF f n).set j u = rowF g n := by
  apply List.ext_getElem
  · simp [rowF]
  · intro i h1 h2
    rw [List.getElem_set]
    split
    · rename_i e; subst e; rw [rowF_get, hu]
    · rename_i e; rw [rowF_get, rowF_get, hg i (by simpa [rowF] using h2) (fun x => e x.symm)]
theorem rowF_more (f : Nat → Int) (n : Nat) : rowF f (n + 1) = rowF f n ++ [f n] := by simp [rowF, List.range_succ]
theorem rowF_zero (n : Nat) : List.replicate n (0 : Int) = rowF (fun _ => 0) n := by
  apply List.ext_getElem
  · simp [rowF]
  · intro i h1 h2; rw [rowF_get, List.getElem_replicate]
theorem rowF_cell (f : Nat → Int) (n j : Nat) (h : j < n) : ((rowF f n).map (Value.int .i64))[j]? = some (.int .i64 (f j)) := by
  rw [List.getElem?_map, rowF_at f n j h]; rfl

/-- a table of n rows of n numbers -/
def IsMat (w : World) (v : Value) (n : Nat) (A : Nat → Nat → Int) : Prop :=
  ∃ g cap, v = .slice (some ⟨g, 0, none⟩) n cap ∧ g < w.heap.size ∧ ∀ i, i < n → ∃ gi ci, w.cell? ⟨g, i, none⟩ = some (.slice (some ⟨gi, 0, none⟩) n ci) ∧ gi < w.heap.size ∧ ∀ j, j < n → w.cell? ⟨gi, j, none⟩ = some (.int .i64 (A i j))
theorem IsMat.below {w w' : World} {v : Value} {n : Nat} {A : Nat → Nat → Int} (h : IsMat w v n A) (hb : Below w.heap.size w w') : IsMat w' v n A := by
  obtain ⟨g, cap, rfl, hg, hr⟩ := h
  refine ⟨g, cap, rfl, Nat.lt_of_lt_of_le hg hb.size, fun i hi => ?_⟩
  obtain ⟨gi, ci, h1, h2, h3⟩ := hr i hi
  exact ⟨gi, ci, (hb.cell (p := ⟨g, i, none⟩) hg).trans h1, Nat.lt_of_lt_of_le h2 hb.size, fun j hj => (hb.cell (p := ⟨gi, j, none⟩) h2).trans (h3 j hj)⟩
theorem IsMat.slice {w : World} {v : Value} {n : Nat} {A : Nat → Nat → Int} (h : IsMat w v n A) : ∃ g cap, v = .slice (some ⟨g, 0, none⟩) n cap := by
  obtain ⟨g, cap, rfl, _⟩ := h
  exact ⟨g, cap, rfl⟩

/-- the product of two tables -/
def prodM (A B : Nat → Nat → Int) (n i j : Nat) : Int := sumN (fun b => A i b * B b j) n
theorem sumN_bd2 (f : Nat → Int) (D : Int) (k : Nat) (hk : k ≤ 48) (hD : 0 ≤ D) (h : ∀ i, 0 ≤ f i ∧ f i ≤ D) : 0 ≤ sumN f k ∧ sumN f k ≤ 48 * D := by
  have := sumN_bd f D k (fun i _ => h i)
  exact ⟨this.1, Int.le_trans this.2 (Int.mul_le_mul_of_nonneg_right (by omega) hD)⟩
/-- two tables whose products stay small -/
structure Mul (A B : Nat → Nat → Int) : Prop where
  ok : ∀ i b j, 0 ≤ A i b * B b j ∧ A i b * B b j ≤ 2000000000000
theorem Mul.sum {A B : Nat → Nat → Int} (h : Mul A B) (i j k : Nat) (hk : k ≤ 48) : 0 ≤ sumN (fun b => A i b * B b j) k ∧ sumN (fun b => A i b * B b j) k ≤ 96000000000000 :=
  sumN_bd2 _ 2000000000000 k hk (by omega) (fun b => h.ok i b j)

section
variable {w0 : World} {ov : Value} {ps : List (Value × List Int)} {pre : List Thing} {w w' : World}
theorem inner_form (h : Bk w0 ov ps pre w) (t : Nat) (ht : t < ps.length) (hn : 0 < ps[t].2.length) : ∃ g c, ps[t].1 = .slice (some ⟨g, 0, none⟩) ps[t].2.length c ∧ g < w.heap.size := by
  have hi := h.inner t ht
  rcases hi.2 with ⟨_, hz⟩ | ⟨g, cap, cur, e, _⟩
  · omega
  · exact ⟨g, cap, e, (World.ownsRow.lt hi g (by rw [e]; rfl)).2⟩
theorem Bk.mat {n : Nat} {A : Nat → Nat → Int} (h : Bk w0 ov ps pre w) (hl : ps.length = n) (hn : 0 < n) (hr : ∀ k (hk : k < ps.length), ps[k].2 = rowF (A k) n) : IsMat w ov n A := by
  have ho := h.row
  rcases ho.2 with ⟨_, hz⟩ | ⟨g, cap, cur, rfl, _⟩
  · omega
  · refine ⟨g, cap, by rw [hl], (World.ownsRow.lt ho g rfl).2, fun i hi => ?_⟩
    have hi' : i < ps.length := by omega
    have hlen : ps[i].2.length = n := by rw [hr i hi', rowF_length]
    obtain ⟨gi, ci, e, hgi⟩ := inner_form h i hi' (by omega)
    have hc := World.ownsRow.cellAt ho i (by omega)
    rw [List.getElem?_map, List.getElem?_eq_getElem hi', Option.map_some, e, hlen] at hc
    refine ⟨gi, ci, hc, hgi, fun j hj => ?_⟩
    have hin := h.inner i hi'
    rw [e] at hin
    rw [World.ownsRow.cellAt hin j (by omega), hr i hi', rowF_cell _ _ _ hj]
/-- a number is stored into one of the rows -/
theorem Bk.setIn {g cap : Nat} (h : Bk w0 ov ps pre w) {t : Nat} (ht : t < ps.length) (hv : ps[t].1 = .slice (some ⟨g, 0, none⟩) ps[t].2.length cap) (j : Nat) (u : Int) :
    Bk w0 ov (ps.set t (ps[t].1, ps[t].2.set j u)) pre (w.setCell ⟨g, j, none⟩ (.int .i64 u)) := by
  have hlen : t + 1 < (rowT 23 1 ov ps.length (ps.map Prod.fst) :: (ps.map inn ++ pre)).length := by simp; omega
  have he : (rowT 23 1 ov ps.length (ps.map Prod.fst) :: (ps.map inn ++ pre))[t + 1] = inn ps[t] := by
    rw [List.getElem_cons_succ, List.getElem_append_left (by simpa using ht), List.getElem_map]
  have hb : (inn ps[t]).blk = some g := by show ps[t].1.ownBlock = some g; rw [hv]; rfl
  have hlt := h.ap.ltAt (t + 1) hlen
  rw [he] at hlt
  have hg := hlt g hb
  have hin := h.inner t ht
  have hs : (inn (ps[t].1, ps[t].2.set j u)).says (w.setCell ⟨g, j, none⟩ (.int .i64 u)) := by
    show (w.setCell ⟨g, j, none⟩ (.int .i64 u)).ownsRow 0 3 1 ps[t].1 (ps[t].2.set j u).length ((ps[t].2.set j u).map (Value.int .i64))
    rw [List.length_set, List.map_set]
    rw [hv] at hin ⊢
    exact (World.ownsRow.stored hin j (.int .i64 u)).1
  have a1 := h.ap.turnAt (t + 1) hlen (by rw [he, hb]; exact grown_setCell w g j _) (inn (ps[t].1, ps[t].2.set j u)) hs h.size
    (fun k e => ⟨.inl (by rw [he]; exact e), by have := (hlt k e).2; simpa using this⟩)
  rw [List.set_cons_succ, List.set_append_left _ _ (by simpa using ht), ← List.map_set] at a1
  refine ⟨h.keep.setCell (p := ⟨g, j, none⟩) hg.1 _, ?_⟩
  rw [List.length_set, show (ps.set t (ps[t].1, ps[t].2.set j u)).map Prod.fst = ps.map Prod.fst from by
    apply List.ext_getElem
    · simp
    · intro i h1 h2
      rw [List.getElem_map, List.getElem_set, List.getElem_map]
      split
      · rename_i e; subst e; rfl
      · rfl]
  exact a1
theorem sub_set {α : Type} (l : List α) (i : Nat) (x : α) (h : i < l.length) : ∃ m : List α, (l.set i x).Perm (x :: m) ∧ m.Sublist l := ⟨l.eraseIdx i, set_perm l i h x, List.eraseIdx_sublist l i⟩
/-- a row of its own is laid into the table -/
theorem Bk.lay {go oc : Nat} {p : Value × List Int} (h : Bk w0 (.slice (some ⟨go, 0, none⟩) ps.length oc) ps (inn p :: pre) w) {t : Nat} (ht : t < ps.length) :
    Bk w0 (.slice (some ⟨go, 0, none⟩) ps.length oc) (ps.set t p) pre (w.setCell ⟨go, t, none⟩ p.1) ∧ (∃ u, w.cell? ⟨go, t, none⟩ = some u) ∧ w.frozen? ⟨go, t, none⟩ = false := by
  have hgo := (h.ap.lt go rfl).1
  have hrow := World.ownsRow.cellAt h.row t (by omega)
  refine ⟨⟨h.keep.setCell (p := ⟨go, t, none⟩) hgo _, ?_⟩, ⟨ps[t].1, by rw [hrow]; simp [ht]⟩, World.ownsRow.frozenAt h.row t⟩
  have a2 := h.ap.setRow h.size t p.1
  rw [List.length_set, List.map_set, List.map_set]
  obtain ⟨m, hm1, hm2⟩ := sub_set (ps.map inn) t (inn p) (by simpa using ht)
  have s1 : (inn p :: (m ++ pre)).Sublist (inn p :: (ps.map inn ++ pre)) := (hm2.append_right pre).cons_cons _
  have p1 : (ps.map inn ++ inn p :: pre).Perm (inn p :: (ps.map inn ++ pre)) := List.perm_middle
  have a3 := (a2.perm (p1.cons _)).sub (s1.cons_cons _)
  exact a3.perm (((hm1.append_right pre).symm).cons _)
/-- a row of its own is put behind the table's rows -/
theorem Bk.more {g cp : Nat} {p : Value × List Int} {tt : TypeId} {w1 : World} (h : Bk w0 ov ps (inn p :: pre) w) (hg : (w.alloc (.cells #[p.1] tt)).grownBy w1 ov.ownBlock)
    (ho : w1.ownsRow 0 23 1 (.slice (some ⟨g, 0, none⟩) (ps.length + 1) cp) (ps.length + 1) (ps.map Prod.fst ++ [p.1])) (hat : ov.ownBlock = some g ∨ g = (w.alloc (.cells #[p.1] tt)).heap.size) :
    Bk w0 (.slice (some ⟨g, 0, none⟩) (ps.length + 1) cp) (ps ++ [p]) pre w1 := by
  have h1 := h.same (World.grownBy_alloc w (.cells #[p.1] tt) none)
  have hlt := h1.ap.lt
  have a1 := h1.ap.turn hg (rowT 23 1 (.slice (some ⟨g, 0, none⟩) (ps.length + 1) cp) (ps.length + 1) (ps.map Prod.fst ++ [p.1])) ho h1.size
    (fun j e => ⟨by cases e; exact hat.imp id (fun e => Nat.le_of_eq e.symm), (World.ownsRow.lt ho j e).2⟩)
  refine ⟨h1.keep.grown hg h1.size (fun j e => (hlt j e).1), ?_⟩
  rw [List.length_append, List.map_append, List.map_append, List.length_singleton, List.append_assoc]
  exact a1
theorem Bk.box (h : Bk w0 ov ps pre w) (o : Obj) : Bk w0 ov ps pre (w.alloc o) := h.same (World.grownBy_alloc w o none)
/-- a new row beside -/
theorem Bk.made {p : Value × List Int} {b : Nat} (h : Bk w0 ov ps pre w) (hg : w.grownBy w' none) (ho : w'.ownsRow b 3 1 p.1 p.2.length (p.2.map (Value.int .i64))) (hb : ∀ k, p.1.ownBlock = some k → w.heap.size ≤ k) : Bk w0 ov ps (inn p :: pre) w' :=
  ⟨h.keep.grown hg h.size (fun _ e => by cases e), (h.ap.more hg (inn p) (ownsRow_base ho (fun _ _ => Nat.zero_le _)) h.size (fun k e => ⟨hb k e, (World.ownsRow.lt ho k e).2⟩)).perm (List.perm_middle (l₁ := rowT 23 1 ov ps.length (ps.map Prod.fst) :: ps.map inn) (l₂ := pre)).symm⟩
theorem Bk.mono0 {b : Nat} {o : Obj} (h : Bk (w0.alloc o) ov ps pre w) (hb : b = w0.heap.size) : Below b w0 w := by
  subst hb
  exact ((Below.refl w0.heap.size w0).alloc (Nat.le_refl _) o).trans (h.keep.mono (by simp))
/-- a number is stored into the row beside -/
theorem Bk.setPre {g cap n : Nat} {xs : List Int} (h : Bk w0 ov ps (inn (.slice (some ⟨g, 0, none⟩) n cap, xs) :: pre) w) (hn : n = xs.length) (j : Nat) (u : Int) :
    Bk w0 ov ps (inn (.slice (some ⟨g, 0, none⟩) n cap, xs.set j u) :: pre) (w.setCell ⟨g, j, none⟩ (.int .i64 u)) := by
  subst hn
  have hr : w.ownsRow 0 3 1 (.slice (some ⟨g, 0, none⟩) xs.length cap) xs.length (xs.map (Value.int .i64)) := (h.also 0 (by simp)).1
  have hlt := (World.ownsRow.lt hr g rfl).2
  have := h.turnPre 0 (by simp) (w' := w.setCell ⟨g, j, none⟩ (.int .i64 u)) (grown_setCell w g j _) (inn (.slice (some ⟨g, 0, none⟩) xs.length cap, xs.set j u)) (by
      show (w.setCell ⟨g, j, none⟩ (.int .i64 u)).ownsRow 0 3 1 _ (xs.set j u).length ((xs.set j u).map (Value.int .i64))
      rw [List.length_set, List.map_set]
      exact (World.ownsRow.stored hr j (.int .i64 u)).1)
    (fun k e => ⟨.inl e, by cases e; simpa using hlt⟩)
  simpa using this
/-- one number more in the row beside -/
theorem Bk.pushPre {g cp : Nat} {qv : Value} {q : List Int} {x : Int} {tt : TypeId} {w1 : World} (h : Bk w0 ov ps (inn (qv, q) :: pre) w) (hg : (w.alloc (.cells #[.int .i64 x] tt)).grownBy w1 qv.ownBlock)
    (ho : w1.ownsRow 0 3 1 (.slice (some ⟨g, 0, none⟩) (q.length + 1) cp) (q.length + 1) (q.map (Value.int .i64) ++ [.int .i64 x])) (hat : qv.ownBlock = some g ∨ g = (w.alloc (.cells #[.int .i64 x] tt)).heap.size) :
    Bk w0 ov ps (inn (.slice (some ⟨g, 0, none⟩) (q.length + 1) cp, q ++ [x]) :: pre) w1 := by
  have h1 := h.box (.cells #[.int .i64 x] tt)
  have := h1.turnPre 0 (by simp) (w' := w1) hg (inn (.slice (some ⟨g, 0, none⟩) (q.length + 1) cp, q ++ [x])) (by
      show w1.ownsRow 0 3 1 _ (q ++ [x]).length ((q ++ [x]).map (Value.int .i64))
      rw [List.length_append, List.map_append]; exact ho)
    (fun k e => ⟨by cases e; exact hat.imp id (fun e => Nat.le_of_eq e.symm), (World.ownsRow.lt ho k e).2⟩)
  simpa using this
end
end Go.Proofs.Ytpcependeealfaa
