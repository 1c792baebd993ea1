/- What lies in memory while impl.liveStates runs. No program, no condition. -/
import Derived.Test.YtlbblfbiiceofaaPreds
import Derived.Test.YtlbblfbiiceofaaSpecLive
import Derived.Lib.SliceRun
namespace Go.Proofs.Ytlbblfbiiceofaa
open Go.RowKit

theorem preds_len (m : M) (k s : Nat) : ((preds m k).getD s []).length ≤ k := by
  induction k with
  | zero =>
    have : (preds m 0).getD s [] = [] := by
      rw [preds, List.getD_eq_getElem?_getD, List.getElem?_replicate]; split <;> rfl
    rw [this]; exact Nat.le_refl _
  | succ k ih =>
    rw [preds]
    split
    · by_cases ht : (m.next.getD k (-1)).toNat < (preds m k).length
      · rw [getD_set_list ht]
        split
        · rename_i e; rw [List.length_append, e]; exact Nat.succ_le_succ ih
        · omega
      · rw [List.set_eq_of_length_le (by omega)]; omega
    · omega

theorem mem_take_succ2 {q : List Int} {b : Int} {k : Nat} (h : k < q.length) : b ∈ q.take (k + 1) ↔ b ∈ q.take k ∨ b = q[k] := by
  rw [List.take_succ_eq_append_getElem h, List.mem_append, List.mem_singleton]

/-- the row of the states before one state -/
def inn (p : Value × List Int) : Thing := rowT 3 1 p.1 p.2.length (p.2.map (Value.int .i64))
/-- the rows of the states before each state, and the row of these rows -/
structure Bk (w0 : World) (ov : Value) (ps : List (Value × List Int)) (pre : List Thing) (w : World) : Prop where
  keep : Below w0.heap.size w0 w
  ap : Apart w0.heap.size (rowT 113 1 ov ps.length (ps.map Prod.fst) :: (ps.map inn ++ pre)) w
section
variable {w0 : World} {ov : Value} {ps : List (Value × List Int)} {pre : List Thing} {w w' : World}
theorem Bk.size (h : Bk w0 ov ps pre w) : w0.heap.size ≤ w.heap.size := h.keep.size
theorem Bk.same (h : Bk w0 ov ps pre w) (hg : w.grownBy w' none) : Bk w0 ov ps pre w' := ⟨h.keep.grown hg h.size (fun _ e => by cases e), h.ap.same hg⟩
theorem Bk.below (h : Bk w0 ov ps pre w) (hb : Below w.heap.size w w') : Bk w0 ov ps pre w' := h.same (grown_below hb)
theorem Bk.row (h : Bk w0 ov ps pre w) : w.ownsRow 0 113 1 ov ps.length (ps.map Prod.fst) := h.ap.head
theorem Bk.inner (h : Bk w0 ov ps pre w) (t : Nat) (ht : t < ps.length) : w.ownsRow 0 3 1 ps[t].1 ps[t].2.length (ps[t].2.map (Value.int .i64)) :=
  (h.ap.all (inn ps[t]) (List.mem_cons_of_mem _ (List.mem_append.2 (.inl (List.mem_map_of_mem (List.getElem_mem ht)))))).1
/-- one state more before a state -/
theorem Bk.next {go oc t g cp : Nat} {x : Int} {tt : TypeId} {w1 : World} (h : Bk w0 (.slice (some ⟨go, 0, none⟩) ps.length oc) ps pre w) (ht : t < ps.length) (hg : (w.alloc (.cells #[.int .i64 x] tt)).grownBy w1 ps[t].1.ownBlock)
    (ho : w1.ownsRow 0 3 1 (.slice (some ⟨g, 0, none⟩) (ps[t].2.length + 1) cp) (ps[t].2.length + 1) (ps[t].2.map (Value.int .i64) ++ [.int .i64 x])) (hat : ps[t].1.ownBlock = some g ∨ g = (w.alloc (.cells #[.int .i64 x] tt)).heap.size) :
    Bk w0 (.slice (some ⟨go, 0, none⟩) ps.length oc) (ps.set t (.slice (some ⟨g, 0, none⟩) (ps[t].2.length + 1) cp, ps[t].2 ++ [x])) pre (w1.setCell ⟨go, t, none⟩ (.slice (some ⟨g, 0, none⟩) (ps[t].2.length + 1) cp)) ∧
      (∃ u, w1.cell? ⟨go, t, none⟩ = some u) ∧ w1.frozen? ⟨go, t, none⟩ = false := by
  have h1 := h.same (World.grownBy_alloc w (.cells #[.int .i64 x] tt) none)
  have hlen : t + 1 < (rowT 113 1 (.slice (some ⟨go, 0, none⟩) ps.length oc) ps.length (ps.map Prod.fst) :: (ps.map inn ++ pre)).length := by simp; omega
  have he : (rowT 113 1 (.slice (some ⟨go, 0, none⟩) ps.length oc) ps.length (ps.map Prod.fst) :: (ps.map inn ++ pre))[t + 1] = inn ps[t] := by
    rw [List.getElem_cons_succ, List.getElem_append_left (by simpa using ht), List.getElem_map]
  have hlt := h1.ap.ltAt (t + 1) hlen
  rw [he] at hlt
  have a1 := h1.ap.turnAt (t + 1) hlen (by rw [he]; exact hg) (inn (.slice (some ⟨g, 0, none⟩) (ps[t].2.length + 1) cp, ps[t].2 ++ [x]))
    (by show w1.ownsRow 0 _ _ _ _ _; rw [List.length_append, List.map_append]; exact ho) h1.size
    (fun j e => ⟨by rw [he]; cases e; exact hat.imp id (fun e => Nat.le_of_eq e.symm), (World.ownsRow.lt ho j e).2⟩)
  rw [List.set_cons_succ, List.set_append_left _ _ (by simpa using ht), ← List.map_set] at a1
  have hs1 : w0.heap.size ≤ w1.heap.size := Nat.le_trans h1.size hg.size
  have hgo := (h.ap.lt go rfl).1
  have hrow := World.ownsRow.cellAt a1.head t (by omega)
  refine ⟨⟨((h1.keep.grown hg h1.size (fun j e => (hlt j e).1)).setCell (p := ⟨go, t, none⟩) hgo _), ?_⟩, ⟨ps[t].1, by rw [hrow]; simp [ht]⟩, World.ownsRow.frozenAt a1.head t⟩
  have a2 := a1.setRow hs1 t (.slice (some ⟨g, 0, none⟩) (ps[t].2.length + 1) cp)
  rw [List.length_set, List.map_set]
  exact a2
/-- one of the other things turns -/
theorem Bk.turnPre (h : Bk w0 ov ps pre w) (i : Nat) (hi : i < pre.length) (hg : w.grownBy w' pre[i].blk) (t' : Thing) (ht : t'.says w') (hk : ∀ k, t'.blk = some k → (pre[i].blk = some k ∨ w.heap.size ≤ k) ∧ k < w'.heap.size) : Bk w0 ov ps (pre.set i t') w' := by
  have hlen : (ps.map inn).length + i + 1 < (rowT 113 1 ov ps.length (ps.map Prod.fst) :: (ps.map inn ++ pre)).length := by simp; omega
  have he : (rowT 113 1 ov ps.length (ps.map Prod.fst) :: (ps.map inn ++ pre))[(ps.map inn).length + i + 1] = pre[i] := by
    rw [List.getElem_cons_succ, List.getElem_append_right (by omega)]
    simp
  have hlt := h.ap.ltAt _ hlen
  rw [he] at hlt
  have a := h.ap.turnAt _ hlen (by rw [he]; exact hg) t' ht h.size (by rw [he]; exact hk)
  rw [List.set_cons_succ, List.set_append_right _ _ (by omega), show (ps.map inn).length + i - (ps.map inn).length = i by omega] at a
  exact ⟨h.keep.grown hg h.size (fun j e => (hlt j e).1), a⟩
theorem Bk.addPre (h : Bk w0 ov ps pre w) (hb : Below w.heap.size w w') (t : Thing) (ht : t.says w') (hk : ∀ k, t.blk = some k → w.heap.size ≤ k ∧ k < w'.heap.size) : Bk w0 ov ps (t :: pre) w' :=
  ⟨h.keep.trans (hb.mono h.size), (h.ap.more (grown_below hb) t ht h.size hk).perm (List.perm_middle (l₁ := rowT 113 1 ov ps.length (ps.map Prod.fst) :: ps.map inn) (l₂ := pre)).symm⟩
theorem Bk.also (h : Bk w0 ov ps pre w) (i : Nat) (hi : i < pre.length) : pre[i].says w ∧ ∀ k, pre[i].blk = some k → w0.heap.size ≤ k ∧ k < w.heap.size :=
  h.ap.all _ (List.mem_cons_of_mem _ (List.mem_append.2 (.inr (List.getElem_mem hi))))
theorem Bk.push {i g cp : Nat} {qv : Value} {q : List Int} {x : Int} {tt : TypeId} {w1 : World} (h : Bk w0 ov ps pre w) (hi : i < pre.length) (he : pre[i] = rowT 3 1 qv q.length (q.map (Value.int .i64))) (hg : (w.alloc (.cells #[.int .i64 x] tt)).grownBy w1 qv.ownBlock)
    (ho : w1.ownsRow 0 3 1 (.slice (some ⟨g, 0, none⟩) (q.length + 1) cp) (q.length + 1) (q.map (Value.int .i64) ++ [.int .i64 x])) (hat : qv.ownBlock = some g ∨ g = (w.alloc (.cells #[.int .i64 x] tt)).heap.size) :
    Bk w0 ov ps (pre.set i (rowT 3 1 (.slice (some ⟨g, 0, none⟩) (q.length + 1) cp) (q ++ [x]).length ((q ++ [x]).map (Value.int .i64)))) w1 :=
  (h.same (World.grownBy_alloc w (.cells #[.int .i64 x] tt) none)).turnPre i hi (by rw [he]; exact hg) _ (by show w1.ownsRow 0 _ _ _ _ _; rw [List.length_append, List.map_append]; exact ho)
    (fun j e => ⟨by rw [he]; cases e; exact hat.imp id (fun e => Nat.le_of_eq e.symm), (World.ownsRow.lt ho j e).2⟩)
end

theorem bools_cells3 {w : World} {a : Option Addr} {n c : Nat} {xs : List Bool} (h : IsBools w (.slice a n c) xs) (h0 : 0 < xs.length) : ∃ g off : Nat, a = some ⟨g, off, none⟩ ∧ n = xs.length ∧ g < w.heap.size ∧ ∀ k (h : k < xs.length), w.cell? ⟨g, off + k, none⟩ = some (.bool xs[k]) := by
  obtain ⟨a', c', he, _, _, h2⟩ := h
  simp only [Value.slice.injEq] at he
  obtain ⟨rfl, rfl, rfl⟩ := he
  obtain ⟨g, off, rfl, hg, hc⟩ := h2.resolve_left (fun e => by rw [e] at h0; exact absurd h0 (Nat.lt_irrefl 0))
  exact ⟨g, off, rfl, rfl, hg, hc⟩

theorem apart_of_bools {B : Nat} {ts : List Thing} {w w' : World} {X : List Bool} {a : Option Addr} {c : Nat} (h : Apart B ts w) (hB : B ≤ w.heap.size) (hb : Below w.heap.size w w')
    (hx : Apart w.heap.size [rowT 4 1 (.slice a X.length c) X.length (X.map Value.bool)] w') : Apart B (rowT 4 1 (.slice a X.length c) X.length (X.map Value.bool) :: ts) w' :=
  h.more (grown_below hb) _ hx.head hB (fun k e => ⟨(hx.lt k e).1, (hx.lt k e).2⟩)

end Go.Proofs.Ytlbblfbiiceofaa
