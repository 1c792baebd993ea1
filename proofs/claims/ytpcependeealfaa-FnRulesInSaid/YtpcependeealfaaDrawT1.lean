/- Drawing a term: what lies in memory meanwhile. No condition. -/
import Derived.Test.YtpcependeealfaaOwR
import Derived.Test.YtpcependeealfaaDrawR0
namespace Go.Proofs.Ytpcependeealfaa
open Go.RowKit

/-- the row of the parts -/
def outT (ov : Value) (ps : List (Value × List Mk)) : Thing := rowT 36 1 ov ps.length (ps.map Prod.fst)
/-- a part -/
def innM (p : Value × List Mk) : Thing := rowT 42 5 p.1 p.2.length (cellsM p.2)
/-- all marks -/
def totM (ps : List (Value × List Mk)) : Nat := (ps.map fun p => p.2.length).sum
/-- parts that are being put together -/
structure PartsOk (ps : List (Value × List Mk)) (left : Nat) : Prop where
  n1 : 1 ≤ ps.length
  n3 : ps.length ≤ 3
  tot : totM ps + left + ps.length ≤ 8
  one : ∀ p ∈ ps, 1 ≤ p.2.length
  wf : ∀ p ∈ ps, ∀ m ∈ p.2, m.wf
/-- the length of a slice -/
def lenV : Value → Nat
  | .slice _ n _ => n
  | _ => 0
theorem lenV_slice (p : Option Addr) (n c : Nat) : lenV (.slice p n c) = n := rfl
/-- what drawing a term leaves -/
def TermDrawn (B R : Nat) (a : Option Addr) (len cap k : Nat) (w : World) (e : Ending) (w' : World) : Prop :=
  ∃ (ms : List Mk) (v : Value) (k' : Nat), e = .returned v ∧ ms.length ≤ 10 ∧ (∀ m ∈ ms, m.wf) ∧ k ≤ k' ∧ k' ≤ k + 100 ∧ OwR B R a len cap w k' [rowT 42 5 v ms.length (cellsM ms)] w'
theorem markOf_wf (k : Int) (h0 : 0 ≤ k) (h1 : k ≤ 3) : (markOf k).wf := by
  refine ⟨?_, (show (Lit.int .i64 0).wf = true by decide), Nat.zero_le _, Nat.zero_le _, (show (Lit.int .i64 0).wf = true by decide)⟩
  obtain rfl | rfl | rfl | rfl : k = 0 ∨ k = 1 ∨ k = 2 ∨ k = 3 := by omega
  all_goals decide
theorem rule_wf {kind many : Int} {letter thn : ByteArray} (p1 : 0 ≤ kind) (p2 : kind ≤ 5) (p3 : letter.size = 1) (p4 : thn.size ≤ 1) (p5 : -1 ≤ many) (p6 : many ≤ 6) : (Mk.mk 0 ⟨kind, letter, thn, many⟩).wf := by
  refine ⟨(show (Lit.int .i64 0).wf = true by decide), ?_, by show letter.size ≤ _; unfold maxLen; omega, by show thn.size ≤ _; unfold maxLen; omega, ?_⟩
  · show (Lit.int .i64 kind).wf = true
    exact WalkArith.wf_i64 (by omega)
  · show (Lit.int .i64 many).wf = true
    exact WalkArith.wf_i64 (by omega)
theorem OwR.start1 {B R : Nat} {a : Option Addr} {len cap k : Nat} {w : World} (h : RdAt B R a len cap k w) (t : TypeId) (cs : Array Value) (n sz : Nat) (hs : cs.size = n * sz) (hm : n ≤ maxLen) : OwR B R a len cap w k [rowT t sz (.slice (some ⟨w.heap.size, 0, none⟩) n n) n cs.toList] (w.alloc (.cells cs t)) := (OwR.start h).lit cs t n sz hs hm
section
variable {B R : Nat} {a : Option Addr} {len cap : Nat} {w0 : World} {k : Nat} {ov : Value} {ps : List (Value × List Mk)} {w w1 : World}
/-- a part more -/
theorem OwR.part {p : Value × List Mk} {g cp : Nat} {tt : TypeId} (h : OwR B R a len cap w0 k (innM p :: outT ov ps :: ps.map innM) w) (hg : (w.alloc (.cells #[p.1] tt)).grownBy w1 ov.ownBlock)
    (ho : w1.ownsRow 0 36 1 (.slice (some ⟨g, 0, none⟩) (ps.length + 1) cp) (ps.length + 1) (ps.map Prod.fst ++ [p.1])) (hat : ov.ownBlock = some g ∨ g = (w.alloc (.cells #[p.1] tt)).heap.size) :
    OwR B R a len cap w0 k (outT (.slice (some ⟨g, 0, none⟩) (ps.length + 1) cp) (ps ++ [p]) :: (ps ++ [p]).map innM) w1 := by
  have h1 := (h.alloc (.cells #[p.1] tt)).turn (i := 1) (by simp) rfl hg ho hat
  have e : outT (.slice (some ⟨g, 0, none⟩) (ps.length + 1) cp) (ps ++ [p]) = rowT 36 1 (.slice (some ⟨g, 0, none⟩) (ps.length + 1) cp) (ps.length + 1) (ps.map Prod.fst ++ [p.1]) := by
    rw [outT, List.length_append, List.map_append]; rfl
  rw [e, List.map_append]
  refine h1.perm ?_
  show (innM p :: rowT 36 1 _ _ _ :: ps.map innM).Perm _
  exact (List.Perm.swap _ _ _).trans (List.Perm.cons _ (List.perm_append_singleton _ _).symm)
end
theorem PartsOk.not {ps qs : List (Value × List Mk)} {p : Value × List Mk} {v : Value} {left : Nat} (h : PartsOk (ps ++ p :: qs) (left + 1)) : PartsOk (ps ++ (v, p.2 ++ [markOf 3]) :: qs) left := by
  refine ⟨by simp; omega, by have := h.n3; simpa using this, ?_, ?_, ?_⟩
  · have := h.tot
    simp [totM] at this ⊢
    omega
  · intro q hq
    rcases List.mem_append.1 hq with g | g
    · exact h.one q (List.mem_append.2 (.inl g))
    · rcases List.mem_cons.1 g with rfl | g
      · simp
      · exact h.one q (List.mem_append.2 (.inr (List.mem_cons_of_mem _ g)))
  · intro q hq
    rcases List.mem_append.1 hq with g | g
    · exact h.wf q (List.mem_append.2 (.inl g))
    · rcases List.mem_cons.1 g with rfl | g
      · intro m hm
        rcases List.mem_append.1 hm with f | f
        · exact h.wf p (List.mem_append.2 (.inr List.mem_cons_self)) m f
        · rw [List.mem_singleton] at f; subst f; exact markOf_wf 3 (by omega) (by omega)
      · exact h.wf q (List.mem_append.2 (.inr (List.mem_cons_of_mem _ g)))
theorem PartsOk.join {ps qs : List (Value × List Mk)} {p r : Value × List Mk} {v : Value} {left : Nat} {k : Int} (k0 : 0 ≤ k) (k3 : k ≤ 3) (h : PartsOk (ps ++ p :: r :: qs) left) : PartsOk (ps ++ (v, p.2 ++ r.2 ++ [markOf k]) :: qs) left := by
  refine ⟨by simp; omega, by have := h.n3; simp at this ⊢; omega, ?_, ?_, ?_⟩
  · have := h.tot
    simp [totM] at this ⊢
    omega
  · intro q hq
    rcases List.mem_append.1 hq with g | g
    · exact h.one q (List.mem_append.2 (.inl g))
    · rcases List.mem_cons.1 g with rfl | g
      · simp; omega
      · exact h.one q (List.mem_append.2 (.inr (List.mem_cons_of_mem _ (List.mem_cons_of_mem _ g))))
  · intro q hq
    rcases List.mem_append.1 hq with g | g
    · exact h.wf q (List.mem_append.2 (.inl g))
    · rcases List.mem_cons.1 g with rfl | g
      · intro m hm
        rcases List.mem_append.1 hm with f | f
        · rcases List.mem_append.1 f with f | f
          · exact h.wf p (List.mem_append.2 (.inr List.mem_cons_self)) m f
          · exact h.wf r (List.mem_append.2 (.inr (List.mem_cons_of_mem _ List.mem_cons_self))) m f
        · rw [List.mem_singleton] at f; subst f; exact markOf_wf k k0 k3
      · exact h.wf q (List.mem_append.2 (.inr (List.mem_cons_of_mem _ (List.mem_cons_of_mem _ g))))
theorem le_tot {ps : List (Value × List Mk)} {p : Value × List Mk} (hp : p ∈ ps) : p.2.length ≤ totM ps := by
  induction ps with
  | nil => cases hp
  | cons q qs ih =>
    rw [totM, List.map_cons, List.sum_cons]
    rcases List.mem_cons.1 hp with rfl | h
    · omega
    · have := ih h
      rw [totM] at this; omega
theorem PartsOk.le {ps : List (Value × List Mk)} {left : Nat} (h : PartsOk ps left) (p : Value × List Mk) (hp : p ∈ ps) : 1 ≤ p.2.length ∧ p.2.length ≤ 7 := by
  refine ⟨h.one p hp, ?_⟩
  have h1 : p.2.length ≤ totM ps := by
    exact le_tot hp
  have h2 := h.tot
  have h3 := h.n1
  omega
section
variable {B R : Nat} {a : Option Addr} {len cap : Nat} {w0 : World} {k : Nat} {ts : List Thing} {w : World}
theorem OwR.formM (h : OwR B R a len cap w0 k ts w) (i : Nat) (hi : i < ts.length) {p : Value × List Mk} (he : ts[i] = innM p) (hn : 1 ≤ p.2.length) : ∃ g c, p.1 = .slice (some ⟨g, 0, none⟩) p.2.length c := by
  have hr := h.row i hi he
  rcases hr.2 with ⟨_, hz⟩ | ⟨g, cap, cur, e, _⟩
  · omega
  · exact ⟨g, cap, e⟩
theorem OwR.formO (h : OwR B R a len cap w0 k ts w) (i : Nat) (hi : i < ts.length) {oa : Option Addr} {n c : Nat} {e : TypeId} {xs : List Value} (he : ts[i] = rowT e 1 (.slice oa n c) n xs) (hn : 1 ≤ n) : ∃ g, oa = some ⟨g, 0, none⟩ ∧ n ≤ c ∧ c ≤ maxLen ∧ R < g ∧ g < w.heap.size := by
  have hr := h.row i hi he
  have hlt := h.ap.ltAt i hi
  have hR := h.hR
  rcases hr.2 with ⟨e1, hz⟩ | ⟨g, cap, cur, e1, _, hg, h1, h2, _⟩
  · omega
  · simp only [Value.slice.injEq, true_and] at e1
    obtain ⟨rfl, rfl⟩ := e1
    have hb := hlt g (by rw [he]; rfl)
    exact ⟨g, rfl, h1, h2, by omega, hb.2⟩
/-- what a row of one-cell elements holds, read in whatever world the row is owned in -/
theorem OwR.cell (h : OwR B R a len cap w0 k ts w) (i : Nat) (hi : i < ts.length) {g n c : Nat} {e : TypeId} {xs : List Value} (he : ts[i] = rowT e 1 (.slice (some ⟨g, 0, none⟩) n c) n xs) (j : Nat) (hj : j < n) : w.cell? ⟨g, j, none⟩ = xs[j]? ∧ w.frozen? ⟨g, j, none⟩ = false :=
  have hr := h.row i hi he
  ⟨World.ownsRow.cellAt hr j (by omega), World.ownsRow.frozenAt hr j⟩
end
theorem seg_news {w : World} {b : Nat} {e : TypeId} {g c n : Nat} {xs : List Value} (h : w.ownsRow b e 1 (.slice (some ⟨g, 0, none⟩) n c) n xs) (k : Nat) (x : Value) (hx : xs[k]? = some x) : ∀ j u, [x][j]? = some u → w.cell? ((⟨g, k, none⟩ : Addr).add j) = some u := by
  intro j u hj
  cases j with
  | zero =>
    simp only [List.getElem?_cons_zero, Option.some.injEq] at hj
    subst hj
    have hlt : k < xs.length := by
      rcases Nat.lt_or_ge k xs.length with h | h
      · exact h
      · rw [List.getElem?_eq_none h] at hx; cases hx
    have := World.ownsRow.cellAt h k (by have := h.1; omega)
    rw [hx] at this
    exact this
  | succ j => simp at hj
theorem mark_kind (v : Int) (h0 : 0 ≤ v) (h3 : v < 3) : ∃ kd, IntKind.i64.wrap (1 + IntKind.i64.wrap (v.tdiv 2)) = kd ∧ 0 ≤ kd ∧ kd ≤ 3 := by
  obtain rfl | rfl | rfl : v = 0 ∨ v = 1 ∨ v = 2 := by omega
  all_goals exact ⟨_, rfl, by decide, by decide⟩
theorem innM_snoc (v : Value) (ms : List Mk) (m : Mk) (n : Nat) (h : n = ms.length + 1) : innM (v, ms ++ [m]) = rowT 42 5 v n (cellsM (ms ++ [m])) := by
  subst h
  rw [innM]; simp only [List.length_append, List.length_singleton]
theorem cellsM_snoc (ms : List Mk) (m : Mk) : cellsM (ms ++ [m]) = cellsM ms ++ m.cells := by rw [cellsM_append]; simp [cellsM]
end Go.Proofs.Ytpcependeealfaa
