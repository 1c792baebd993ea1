/- Rows that a drawing call owns, by their places in a list, beside the code that is read. No condition. -/
import Derived.Test.YtpcependeealfaaDrawM
import Derived.Test.YtpcependeealfaaReadsM
import Derived.Test.YtpcependeealfaaQueue
import Derived.Laws.AppendOwnNone
namespace Go.Proofs.Ytpcependeealfaa
open Go.RowKit

/-- nothing is put behind a row of the call's own -/
theorem run_append_zero {P : Program} {w : World} (base : Nat) (t ty e : TypeId) (i : TypeInfo) (size : Nat) (ht : P.underlying t = some (.slice e)) (hi : P.info? e = some i)
    (v : Value) (n : Nat) (xs : List Value) (hown : w.ownsRow base e size v n xs) (p : Option Addr) (c : Nat) :
    (Builtin.append_ #[t, t] ty #[v, .slice p 0 c]).run P w = .ok v w := by
  rcases hown.2 with ⟨rfl, rfl⟩ | ⟨g, cap, cur, rfl, _, _, hnc, _⟩
  · cases p <;> simp [Builtin.append_, run_underlying ht, sizeOf, typeInfo, hi, Builtin.lenOf, Builtin.firstCells, loadCells, loadCellsFrom, Result.andThen]
  · cases p <;> simp [Builtin.append_, run_underlying ht, sizeOf, typeInfo, hi, Builtin.lenOf, Builtin.firstCells, hnc, storeCells, loadCells, loadCellsFrom, Result.andThen]
theorem wpList_append_zero {P : Program} {w : World} {ops : Array Oper} {rest : List Oper} {o : Oper} {a : Act} {Q : Exit → Act → World → Prop} (hgd : o.guard = none) (s x : Operand) (t : TypeId)
    (ho : o.op = .call { callee := .builtin .append, args := #[s, x], argTypes := #[t, t] })
    (base : Nat) (e : TypeId) (i : TypeInfo) (size : Nat) (ht : P.underlying t = some (.slice e)) (hi : P.info? e = some i)
    (v : Value) (n : Nat) (xs : List Value) (hs : a.eval s = v) (hown : w.ownsRow base e size v n xs) (p : Option Addr) (c : Nat) (hx : a.eval x = .slice p 0 c)
    (h : wpList P ops Q rest (a.put o.dst v) w) : wpList P ops Q (o :: rest) a w := by
  refine wpList_plain hgd fun K hK => ?_
  have hrun := run_append_zero (P := P) (w := w) base t o.type e i size ht hi v n xs hown p c
  unfold Oper.wp
  simp [execOp, ho, resolve, invoke, builtin, hs, hx, hrun, Result.andThen]
  exact hK _ _ h

structure OwR (B R : Nat) (a : Option Addr) (len cap : Nat) (w0 : World) (k : Nat) (ts : List Thing) (w : World) : Prop where
  rd : RdAt B R a len cap k w
  hR : R < w0.heap.size
  keep : KeepsBut R w0 w
  ap : Apart w0.heap.size ts w
section
variable {B R : Nat} {a : Option Addr} {len cap : Nat} {w0 : World} {k : Nat} {ts : List Thing} {w w' : World}
theorem OwR.start (h : RdAt B R a len cap k w) : OwR B R a len cap w k [] w := ⟨h, h.hR, KeepsBut.refl _ _, Apart.nil _ _⟩
theorem OwR.size (h : OwR B R a len cap w0 k ts w) : w0.heap.size ≤ w.heap.size := h.keep.size
theorem OwR.same (h : OwR B R a len cap w0 k ts w) (hg : w.grownBy w' none) : OwR B R a len cap w0 k ts w' := ⟨h.rd.grown hg (fun _ e => by cases e), h.hR, h.keep.grown hg (fun _ e => by cases e), h.ap.same hg⟩
theorem OwR.alloc (h : OwR B R a len cap w0 k ts w) (o : Obj) : OwR B R a len cap w0 k ts (w.alloc o) := h.same (World.grownBy_alloc w o none)
theorem OwR.drew (h : OwR B R a len cap w0 k ts w) : OwR B R a len cap w0 k ts w.drew := h.same (grown_drew w none)
theorem OwR.picked {k' : Nat} (h : OwR B R a len cap w0 k ts w) (hr : RdAt B R a len cap k' w') (hk : KeepsBut R w w') : OwR B R a len cap w0 k' ts w' :=
  ⟨hr, h.hR, h.keep.trans hk, h.ap.other hk.grownBy (fun k e => by cases e; exact h.hR)⟩
theorem OwR.sub (h : OwR B R a len cap w0 k ts w) {us : List Thing} (s : us.Sublist ts) : OwR B R a len cap w0 k us w := ⟨h.rd, h.hR, h.keep, h.ap.sub s⟩
theorem OwR.perm (h : OwR B R a len cap w0 k ts w) {us : List Thing} (s : ts.Perm us) : OwR B R a len cap w0 k us w := ⟨h.rd, h.hR, h.keep, h.ap.perm s⟩
theorem OwR.row (h : OwR B R a len cap w0 k ts w) (i : Nat) (hi : i < ts.length) {e : TypeId} {sz : Nat} {v : Value} {n : Nat} {xs : List Value} (he : ts[i] = rowT e sz v n xs) : w.ownsRow 0 e sz v n xs := by
  have := h.ap.at i hi
  rw [he] at this; exact this
theorem OwR.lit (h : OwR B R a len cap w0 k ts w) (cs : Array Value) (e : TypeId) (n sz : Nat) (hs : cs.size = n * sz) (hm : n ≤ maxLen) : OwR B R a len cap w0 k (rowT e sz (.slice (some ⟨w.heap.size, 0, none⟩) n n) n cs.toList :: ts) (w.alloc (.cells cs e)) :=
  have h1 := h.alloc (.cells cs e)
  ⟨h1.rd, h1.hR, h1.keep, h.ap.more (World.grownBy_alloc w _ none) _ (World.ownsRow_lit (base := 0) w cs n (Nat.zero_le _) hm hs) h.size (fun j e => by cases e; simp)⟩
theorem OwR.turn {i g cp n n' sz : Nat} {e : TypeId} {v : Value} {xs xs' : List Value} {w1 : World} (h : OwR B R a len cap w0 k ts w) (hi : i < ts.length) (he : ts[i] = rowT e sz v n xs) (hg : w.grownBy w1 v.ownBlock)
    (ho : w1.ownsRow 0 e sz (.slice (some ⟨g, 0, none⟩) n' cp) n' xs') (hat : v.ownBlock = some g ∨ g = w.heap.size) :
    OwR B R a len cap w0 k (ts.set i (rowT e sz (.slice (some ⟨g, 0, none⟩) n' cp) n' xs')) w1 := by
  have hlt := h.ap.ltAt i hi
  rw [he] at hlt
  have hR := h.hR
  exact ⟨h.rd.grown hg (fun j e => by have := (hlt j e).1; omega), h.hR, h.keep.grown hg (fun j e => (hlt j e).1), h.ap.turnAt i hi (by rw [he]; exact hg) _ ho h.size
    (fun j e => ⟨by rw [he]; cases e; exact hat.imp id (fun e => Nat.le_of_eq e.symm), (World.ownsRow.lt ho j e).2⟩)⟩
theorem OwR.store {i g c n sz : Nat} {e : TypeId} {xs : List Value} (h : OwR B R a len cap w0 k ts w) (hi : i < ts.length) (he : ts[i] = rowT e sz (.slice (some ⟨g, 0, none⟩) n c) n xs) (j : Nat) (u : Value) :
    OwR B R a len cap w0 k (ts.set i (rowT e sz (.slice (some ⟨g, 0, none⟩) n c) n (xs.set j u))) (w.setCell ⟨g, j, none⟩ u) := by
  have hlt := (h.ap.ltAt i hi) g (by rw [he]; rfl)
  have ho := (World.ownsRow.stored (h.row i hi he) j u).1
  exact h.turn hi he (grown_setCell w g j u) ho (.inl rfl)
end
/-- the cells of marks in memory -/
theorem marks_news {w : World} {b : Nat} {e : TypeId} {g c n : Nat} {xs : List Value} (h : w.ownsRow b e 5 (.slice (some ⟨g, 0, none⟩) n c) n xs) : ∀ j u, xs[j]? = some u → w.cell? ((⟨g, 0, none⟩ : Addr).add j) = some u := by
  intro j u hj
  have hl := h.1
  have hlt : j < xs.length := by
    rcases Nat.lt_or_ge j xs.length with h | h
    · exact h
    · rw [List.getElem?_eq_none h] at hj; cases hj
  have := World.ownsRow.cellAt h j (by omega)
  rw [show (⟨g, 0, none⟩ : Addr).add j = ⟨g, j, none⟩ by unfold Addr.add; split <;> simp_all, this, hj]
theorem row_news {w : World} {b : Nat} {e : TypeId} {g c n : Nat} {xs : List Value} (h : w.ownsRow b e 1 (.slice (some ⟨g, 0, none⟩) n c) n xs) : ∀ j u, xs[j]? = some u → w.cell? ((⟨g, 0, none⟩ : Addr).add j) = some u := by
  intro j u hj
  have hlt : j < xs.length := by
    rcases Nat.lt_or_ge j xs.length with h | h
    · exact h
    · rw [List.getElem?_eq_none h] at hj; cases hj
  have := World.ownsRow.cellAt h j (by have := h.1; omega)
  rw [show (⟨g, 0, none⟩ : Addr).add j = ⟨g, j, none⟩ by unfold Addr.add; split <;> simp_all, this, hj]
theorem cellsM_one (ms : List Mk) : ∀ u ∈ cellsM ms, u.oneCell' = true := by
  induction ms with
  | nil => intro u h; cases h
  | cons m ms ih =>
    intro u h
    rw [cellsM, List.mem_append] at h
    rcases h with h | h
    · simp only [Mk.cells, List.mem_cons, List.not_mem_nil, or_false] at h
      rcases h with rfl | rfl | rfl | rfl | rfl <;> rfl
    · exact ih u h
/-- a block that was just laid, read as a slice -/
theorem new_news (w : World) (cs : Array Value) (t : TypeId) (b : Nat) (hb : b = w.heap.size) : ∀ j u, cs.toList[j]? = some u → (w.alloc (.cells cs t)).cell? ((⟨b, 0, none⟩ : Addr).add j) = some u := by
  subst hb
  intro j u hj
  rw [show (⟨w.heap.size, 0, none⟩ : Addr).add j = ⟨w.heap.size, j, none⟩ by unfold Addr.add; split <;> simp_all, World.cell?_alloc_new]
  simpa using hj
theorem infoMarkD : (Try.prog.info? 42).map (fun i => (i.zero, i.size, i.bytes)) = some (some (.agg #[.int .i64 0, .int .i64 0, .string ⟨#[]⟩, .string ⟨#[]⟩, .int .i64 0]), 5, 56) := by kernel_rfl
theorem infoMarkS : (Try.prog.info? 36).map (fun i => (i.zero, i.size, i.bytes)) = some (some (.slice none 0 0), 1, 24) := by kernel_rfl
end Go.Proofs.Ytpcependeealfaa
