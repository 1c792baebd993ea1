/- The program's SameOk: one language. No condition. -/
import Derived.Test.YtjdeahdngpccpaaLangWord
import Derived.Test.YtjdeahdngpccpaaSliceEq
import Derived.Deep.RegionHeld3
namespace Go.Proofs.Ytjdeahdngpccpaa
open Go.RowKit

/-- SameOk's answer -/
def IsSame (m k : M) (b : Bool) : Prop := (m.ok = true → k.ok = true → (b = true ↔ m.lang 0 = k.lang 0)) ∧ (m.ok = false ∨ k.ok = false → b = false)
theorem IsSame.one {m k : M} {b b' : Bool} (h : IsSame m k b) (h' : IsSame m k b') : b = b' := by
  cases hm : m.ok with
  | false => rw [h.2 (.inl hm), h'.2 (.inl hm)]
  | true =>
    cases hk : k.ok with
    | false => rw [h.2 (.inr hk), h'.2 (.inr hk)]
    | true => rw [Bool.eq_iff_iff, h.1 hm hk, h'.1 hm hk]
theorem IsSame.of {m k p q : M} (hm : m.ok = true) (hk : k.ok = true) (hp : IsLm (m.lang 0) p) (hq : IsLm (k.lang 0) q) {b : Bool} (h : b = true ↔ p = q) : IsSame m k b := by
  refine ⟨fun _ _ => h.trans ⟨fun e => ?_, fun e => ?_⟩, fun h2 => ?_⟩
  · rw [← hp.lang, ← hq.lang, e]
  · rw [e] at hp; exact hp.one hq
  · rcases h2 with h2 | h2
    · rw [hm] at h2; cases h2
    · rw [hk] at h2; cases h2
/-- two machines in boxes -/
structure Two (B C : Nat) (m k : M) (nv ev mv fv : Value) (w : World) : Prop where
  a : MachBox B m.st nv m.next ev m.ends w
  b : MachBox C k.st mv k.next fv k.ends w
theorem Two.below {B C : Nat} {m k : M} {nv ev mv fv : Value} {w w' : World} (h : Two B C m k nv ev mv fv w) (hb : Below w.heap.size w w') : Two B C m k nv ev mv fv w' := ⟨h.a.below hb, h.b.below hb⟩
theorem Two.new {m k : M} {nv ev mv fv : Value} {w : World} (t : TypeId) (h1 : IsInts w nv m.next) (h2 : IsBools w ev m.ends) (h3 : IsInts w mv k.next) (h4 : IsBools w fv k.ends) :
    Two w.heap.size (w.heap.size + 1) m k nv ev mv fv ((w.alloc (.cells #[.int .i64 m.st, nv, ev] t)).alloc (.cells #[.int .i64 k.st, mv, fv] t)) ∧ Below w.heap.size w ((w.alloc (.cells #[.int .i64 m.st, nv, ev] t)).alloc (.cells #[.int .i64 k.st, mv, fv] t)) := by
  have ha1 := (Below.refl w.heap.size w).alloc (Nat.le_refl _) (.cells #[.int .i64 m.st, nv, ev] t)
  have hb1 := (Below.refl _ (w.alloc (.cells #[.int .i64 m.st, nv, ev] t))).alloc (Nat.le_refl _) (.cells #[.int .i64 k.st, mv, fv] t)
  have MB := MachBox.new (st := k.st) t (h3.below ha1) (h4.below ha1)
  rw [World.size_alloc] at MB
  exact ⟨⟨(MachBox.new (st := m.st) t h1 h2).below hb1, MB⟩, ha1.trans (hb1.mono (by simp))⟩

theorem LeastNew.reads' {m : M} {w w' : World} {e : Ending} (h : LeastNew m w e w') : ∃ k nv ev, IsLmZ m k ∧ e = .returned (.agg #[.int .i64 k.st, nv, ev]) ∧ IsInts w' nv k.next ∧ IsBools w' ev k.ends ∧ Below w.heap.size w w' := by
  obtain ⟨k, hk, h⟩ := h
  obtain ⟨nv, ev, h1, h2, h3, h4⟩ := h.reads
  exact ⟨k, nv, ev, hk, h1, h2, h3, h4⟩
theorem Below.alloc' {w4 W : World} (h : Below w4.heap.size w4 W) (o : Obj) : Below w4.heap.size w4 (W.alloc o) := h.alloc h.size o
theorem Below.then' {w4 W w' : World} (h : Below w4.heap.size w4 W) (hb : Below W.heap.size W w') : Below w4.heap.size w4 w' := h.trans (hb.mono h.size)
/-- a fresh box of zeroes -/
structure Z0 (b : Nat) (w : World) : Prop where
  lt : b < w.heap.size
  c0 : w.cell? ⟨b, 0, none⟩ = some (.int .i64 0)
  c1 : w.cell? ⟨b, 1, none⟩ = some (.slice none 0 0)
  c2 : w.cell? ⟨b, 2, none⟩ = some (.slice none 0 0)
  f0 : w.frozen? ⟨b, 0, none⟩ = false
  f1 : w.frozen? ⟨b, 1, none⟩ = false
  f2 : w.frozen? ⟨b, 2, none⟩ = false
theorem Z0.below {b : Nat} {w w' : World} (h : Z0 b w) (hb : Below w.heap.size w w') : Z0 b w' :=
  ⟨Nat.lt_of_lt_of_le h.lt hb.size, (hb.cell (p := ⟨b, 0, none⟩) h.lt).trans h.c0, (hb.cell (p := ⟨b, 1, none⟩) h.lt).trans h.c1, (hb.cell (p := ⟨b, 2, none⟩) h.lt).trans h.c2, (hb.frozen (p := ⟨b, 0, none⟩) h.lt).trans h.f0, (hb.frozen (p := ⟨b, 1, none⟩) h.lt).trans h.f1, (hb.frozen (p := ⟨b, 2, none⟩) h.lt).trans h.f2⟩
theorem Z0.new (w : World) : Z0 w.heap.size (w.alloc (.cells #[.int .i64 0, .slice none 0 0, .slice none 0 0] 26)) :=
  ⟨by simp, World.cell?_alloc_new w _ _ 0, World.cell?_alloc_new w _ _ 1, World.cell?_alloc_new w _ _ 2, World.frozen?_alloc_new w _ _ 0, World.frozen?_alloc_new w _ _ 1, World.frozen?_alloc_new w _ _ 2⟩
theorem Z0.alloc {b : Nat} {w : World} (h : Z0 b w) (o : Obj) : Z0 b (w.alloc o) := h.below ((Below.refl _ _).alloc (Nat.le_refl _) o)
theorem bel1 (w4 : World) (o : Obj) : Below w4.heap.size w4 (w4.alloc o).drew := (Below.alloc' (Below.refl w4.heap.size w4) o).drew
theorem bel2 (w4 : World) (o o' : Obj) : Below w4.heap.size w4 ((w4.alloc o).alloc o').drew := (Below.alloc' (Below.alloc' (Below.refl w4.heap.size w4) o) o').drew
theorem Z0.drew {b : Nat} {w : World} (h : Z0 b w) : Z0 b w.drew := h.below (Below.refl _ _).drew
theorem Z0.one1 {w4 w5 : World} (hb : Below (w4.alloc (.cells #[.int .i64 0, .slice none 0 0, .slice none 0 0] 26)).drew.heap.size (w4.alloc (.cells #[.int .i64 0, .slice none 0 0, .slice none 0 0] 26)).drew w5) : Z0 w4.heap.size w5 := (Z0.new w4).drew.below hb
theorem Z0.two1 {w4 w5 : World} (hb : Below ((w4.alloc (.cells #[.int .i64 0, .slice none 0 0, .slice none 0 0] 26)).alloc (.cells #[.int .i64 0, .slice none 0 0, .slice none 0 0] 26)).drew.heap.size ((w4.alloc (.cells #[.int .i64 0, .slice none 0 0, .slice none 0 0] 26)).alloc (.cells #[.int .i64 0, .slice none 0 0, .slice none 0 0] 26)).drew w5) : Z0 w4.heap.size w5 := ((Z0.new w4).alloc _).drew.below hb
theorem Z0.two2 {w4 w5 : World} (hb : Below ((w4.alloc (.cells #[.int .i64 0, .slice none 0 0, .slice none 0 0] 26)).alloc (.cells #[.int .i64 0, .slice none 0 0, .slice none 0 0] 26)).drew.heap.size ((w4.alloc (.cells #[.int .i64 0, .slice none 0 0, .slice none 0 0] 26)).alloc (.cells #[.int .i64 0, .slice none 0 0, .slice none 0 0] 26)).drew w5) : Z0 (w4.heap.size + 1) w5 := by
  have h := (Z0.new (w4.alloc (.cells #[.int .i64 0, .slice none 0 0, .slice none 0 0] 26))).drew.below hb
  rw [World.size_alloc] at h
  exact h
theorem Z0.one1' {w4 w5 : World} (hb : Below (w4.alloc (.cells #[.int .i64 0, .slice none 0 0, .slice none 0 0] 26)).heap.size (w4.alloc (.cells #[.int .i64 0, .slice none 0 0, .slice none 0 0] 26)) w5) : Z0 w4.heap.size w5 := (Z0.new w4).below hb
theorem Z0.two1' {w4 w5 : World} (hb : Below ((w4.alloc (.cells #[.int .i64 0, .slice none 0 0, .slice none 0 0] 26)).alloc (.cells #[.int .i64 0, .slice none 0 0, .slice none 0 0] 26)).heap.size ((w4.alloc (.cells #[.int .i64 0, .slice none 0 0, .slice none 0 0] 26)).alloc (.cells #[.int .i64 0, .slice none 0 0, .slice none 0 0] 26)) w5) : Z0 w4.heap.size w5 := ((Z0.new w4).alloc _).below hb
theorem Z0.two2' {w4 w5 : World} (hb : Below ((w4.alloc (.cells #[.int .i64 0, .slice none 0 0, .slice none 0 0] 26)).alloc (.cells #[.int .i64 0, .slice none 0 0, .slice none 0 0] 26)).heap.size ((w4.alloc (.cells #[.int .i64 0, .slice none 0 0, .slice none 0 0] 26)).alloc (.cells #[.int .i64 0, .slice none 0 0, .slice none 0 0] 26)) w5) : Z0 (w4.heap.size + 1) w5 := by
  have h := (Z0.new (w4.alloc (.cells #[.int .i64 0, .slice none 0 0, .slice none 0 0] 26))).below hb
  rw [World.size_alloc] at h
  exact h

/-- the two boxes' cells -/
structure Six (a b : Nat) (ms ks : Int) (nv ev mv fv : Value) (W : World) : Prop where
  la : a < W.heap.size
  lb : b < W.heap.size
  cs : W.cell? ⟨a, 0, none⟩ = some (.int .i64 ms) ∧ W.cell? ⟨a, 1, none⟩ = some nv ∧ W.cell? ⟨a, 2, none⟩ = some ev ∧ W.cell? ⟨b, 0, none⟩ = some (.int .i64 ks) ∧ W.cell? ⟨b, 1, none⟩ = some mv ∧ W.cell? ⟨b, 2, none⟩ = some fv
theorem Six.cells {a b : Nat} {ms ks : Int} {nv ev mv fv : Value} {W : World} (h : Six a b ms ks nv ev mv fv W) : W.cell? ⟨a, 0, none⟩ = some (.int .i64 ms) ∧ W.cell? ⟨a, 1, none⟩ = some nv ∧ W.cell? ⟨a, 2, none⟩ = some ev ∧ W.cell? ⟨b, 0, none⟩ = some (.int .i64 ks) ∧ W.cell? ⟨b, 1, none⟩ = some mv ∧ W.cell? ⟨b, 2, none⟩ = some fv := h.cs
theorem Six.below {a b : Nat} {ms ks : Int} {nv ev mv fv : Value} {W W' : World} (h : Six a b ms ks nv ev mv fv W) (hb : Below W.heap.size W W') : Six a b ms ks nv ev mv fv W' :=
  ⟨Nat.lt_of_lt_of_le h.la hb.size, Nat.lt_of_lt_of_le h.lb hb.size, (hb.cell (p := ⟨a, 0, none⟩) h.la).trans h.cs.1, (hb.cell (p := ⟨a, 1, none⟩) h.la).trans h.cs.2.1, (hb.cell (p := ⟨a, 2, none⟩) h.la).trans h.cs.2.2.1, (hb.cell (p := ⟨b, 0, none⟩) h.lb).trans h.cs.2.2.2.1, (hb.cell (p := ⟨b, 1, none⟩) h.lb).trans h.cs.2.2.2.2.1, (hb.cell (p := ⟨b, 2, none⟩) h.lb).trans h.cs.2.2.2.2.2⟩
theorem Six.alloc {a b : Nat} {ms ks : Int} {nv ev mv fv : Value} {W : World} (h : Six a b ms ks nv ev mv fv W) (o : Obj) : Six a b ms ks nv ev mv fv (W.alloc o) := h.below ((Below.refl _ _).alloc (Nat.le_refl _) o)
theorem Six.drew {a b : Nat} {ms ks : Int} {nv ev mv fv : Value} {W : World} (h : Six a b ms ks nv ev mv fv W) : Six a b ms ks nv ev mv fv W.drew := h.below (Below.refl _ _).drew
theorem Six.set {a b : Nat} {ms ks : Int} {nv ev mv fv : Value} {W : World} (h : Six a b ms ks nv ev mv fv W) {c o : Nat} {v : Value} (h0 : ¬ (a = c)) (h1 : ¬ (b = c)) : Six a b ms ks nv ev mv fv (W.setCell ⟨c, o, none⟩ v) := by
  obtain ⟨la, lb, k0, k1, k2, k3, k4, k5⟩ := h
  refine ⟨?_, ?_, ?_, ?_, ?_, ?_, ?_, ?_⟩ <;> go_simp
/-- a machine's rows in blocks from B up to H -/
structure Rws (B H : Nat) (K : M) (v u : Value) (W : World) : Prop where
  hH : H ≤ W.heap.size
  r1 : (rowT 3 1 v K.next.length (K.next.map (Value.int .i64))).says W
  r2 : (rowT 4 1 u K.ends.length (K.ends.map Value.bool)).says W
  l1 : ∀ k, v.ownBlock = some k → B ≤ k ∧ k < H
  l2 : ∀ k, u.ownBlock = some k → B ≤ k ∧ k < H
theorem Rws.kept {B H : Nat} {K : M} {v u : Value} {W W' : World} (h : Rws B H K v u W) (hs : W.heap.size ≤ W'.heap.size) (hb : ∀ k, B ≤ k → k < H → W'.heap[k]? = W.heap[k]?) : Rws B H K v u W' :=
  ⟨Nat.le_trans h.hH hs, (rowT 3 1 v K.next.length (K.next.map (Value.int .i64))).st W W' (fun k e => hb k (h.l1 k e).1 (h.l1 k e).2) hs h.r1, (rowT 4 1 u K.ends.length (K.ends.map Value.bool)).st W W' (fun k e => hb k (h.l2 k e).1 (h.l2 k e).2) hs h.r2, h.l1, h.l2⟩
theorem Rws.below {B H : Nat} {K : M} {v u : Value} {W W' : World} (h : Rws B H K v u W) (hb : Below W.heap.size W W') : Rws B H K v u W' := h.kept hb.size (fun k _ hk => hb.block k (Nat.lt_of_lt_of_le hk h.hH))
theorem Rws.alloc {B H : Nat} {K : M} {v u : Value} {W : World} (h : Rws B H K v u W) (o : Obj) : Rws B H K v u (W.alloc o) := h.below ((Below.refl _ _).alloc (Nat.le_refl _) o)
theorem Rws.set {B H : Nat} {K : M} {v u : Value} {W : World} (h : Rws B H K v u W) {c o : Nat} {x : Value} (hc : c < B ∨ H ≤ c) : Rws B H K v u (W.setCell ⟨c, o, none⟩ x) :=
  h.kept (by simp) (fun k h1 h2 => Below.heap_setCell W ⟨c, o, none⟩ x k (fun e => by simp only at e; omega))
theorem Rws.ints {B H : Nat} {K : M} {v u : Value} {W : World} (h : Rws B H K v u W) : IsInts W v K.next := IsInts.of_owns h.r1
theorem Rws.bools {B H : Nat} {K : M} {v u : Value} {W : World} (h : Rws B H K v u W) : IsBools W u K.ends := IsBools.of_owns h.r2
theorem Rws.via {B H : Nat} {K : M} {v u : Value} {w6 W : World} (R : Rws B H K v u w6) (h : Rws B H K v u w6 → Rws B H K v u W) : IsInts W v K.next ∧ IsBools W u K.ends := ⟨(h R).ints, (h R).bools⟩
theorem Rws.zero {H : Nat} {K : M} {v u : Value} {w4 W : World} (h : Rws w4.drew.heap.size H K v u W) : Rws w4.heap.size H K v u W := h
theorem Rws.one {H : Nat} {K : M} {v u : Value} {w4 W : World} {o : Obj} (h : Rws (w4.alloc o).drew.heap.size H K v u W) : Rws (w4.heap.size + 1) H K v u W := by
  have e : (w4.alloc o).drew.heap.size = w4.heap.size + 1 := World.size_alloc w4 o
  rw [e] at h; exact h
theorem Rws.two {H : Nat} {K : M} {v u : Value} {w4 W : World} {o o' : Obj} (h : Rws ((w4.alloc o).alloc o').drew.heap.size H K v u W) : Rws (w4.heap.size + 2) H K v u W := by
  have e : ((w4.alloc o).alloc o').drew.heap.size = w4.heap.size + 1 + 1 := (World.size_alloc (w4.alloc o) o').trans (congrArg (· + 1) (World.size_alloc w4 o))
  rw [e] at h; exact h
theorem Rws.one' {H : Nat} {K : M} {v u : Value} {w4 W : World} {o : Obj} (h : Rws (w4.alloc o).heap.size H K v u W) : Rws (w4.heap.size + 1) H K v u W := h.one
theorem Rws.two' {H : Nat} {K : M} {v u : Value} {w4 W : World} {o o' : Obj} (h : Rws ((w4.alloc o).alloc o').heap.size H K v u W) : Rws (w4.heap.size + 2) H K v u W := h.two
theorem LeastNew.rows {m : M} {w w' : World} {e : Ending} (h : LeastNew m w e w') : ∃ k a1 n1 c1 a2 n2 c2, IsLmZ m k ∧ e = .returned (.agg #[.int .i64 k.st, .slice a1 n1 c1, .slice a2 n2 c2]) ∧ Rws w.heap.size w'.heap.size k (.slice a1 n1 c1) (.slice a2 n2 c2) w' ∧ Below w.heap.size w w' := by
  obtain ⟨k, hk, a1, a2, c1, c2, rfl, hA, hb⟩ := h
  exact ⟨k, a1, _, c1, a2, _, c2, hk, rfl, ⟨Nat.le_refl _, hA.head, hA.tail.head, hA.lt, hA.tail.lt⟩, hb⟩
theorem Below.set' {w W : World} (h : Below w.heap.size w W) {c o : Nat} {v : Value} (hc : w.heap.size ≤ c) : Below w.heap.size w (W.setCell ⟨c, o, none⟩ v) := h.setCell (p := ⟨c, o, none⟩) hc v
theorem IsSame.end1 {m k p q : M} (hm : m.ok = true) (hk : k.ok = true) (hp : IsLmZ m p) (hq : IsLmZ k q) (h : decide (p.next = q.next) = false) : IsSame m k false :=
  IsSame.of hm hk (hp.1 hm).1 (hq.1 hk).1 ⟨fun e => (by cases e), fun e => (by subst e; simp at h)⟩
theorem IsSame.end2 {m k p q : M} (hm : m.ok = true) (hk : k.ok = true) (hp : IsLmZ m p) (hq : IsLmZ k q) (h : decide (p.next = q.next) = true) : IsSame m k (decide (p.ends = q.ends)) :=
  IsSame.of hm hk (hp.1 hm).1 (hq.1 hk).1 ⟨fun e => by
    have e1 := of_decide_eq_true h
    have e2 := of_decide_eq_true e
    have g1 := ((hp.1 hm).1.good (by have := (hp.1 hm).2; omega)).le
    have g2 := ((hq.1 hk).1.good (by have := (hq.1 hk).2; omega)).le
    rw [e2] at g1
    obtain ⟨a, b, c⟩ := p
    obtain ⟨a', b', c'⟩ := q
    simp only at e1 e2 g1 g2
    subst e1 e2
    rw [← g1, ← g2], fun e => by subst e; simp⟩
/-- both least machines in their boxes -/
structure Last (w : World) (p q : Nat) (K1 K2 : M) (v1 u1 v2 u2 : Value) (W : World) : Prop where
  lp : p < W.heap.size
  lq : q < W.heap.size
  c1 : W.cell? ⟨p, 1, none⟩ = some v1
  c2 : W.cell? ⟨p, 2, none⟩ = some u1
  d1 : W.cell? ⟨q, 1, none⟩ = some v2
  d2 : W.cell? ⟨q, 2, none⟩ = some u2
  i1 : IsInts W v1 K1.next
  b1 : IsBools W u1 K1.ends
  i2 : IsInts W v2 K2.next
  b2 : IsBools W u2 K2.ends
  bel : Below w.heap.size w W
theorem Last.below {w W W' : World} {p q : Nat} {K1 K2 : M} {v1 u1 v2 u2 : Value} (h : Last w p q K1 K2 v1 u1 v2 u2 W) (hb : Below W.heap.size W W') : Last w p q K1 K2 v1 u1 v2 u2 W' :=
  ⟨Nat.lt_of_lt_of_le h.lp hb.size, Nat.lt_of_lt_of_le h.lq hb.size, (hb.cell (p := ⟨p, 1, none⟩) h.lp).trans h.c1, (hb.cell (p := ⟨p, 2, none⟩) h.lp).trans h.c2, (hb.cell (p := ⟨q, 1, none⟩) h.lq).trans h.d1, (hb.cell (p := ⟨q, 2, none⟩) h.lq).trans h.d2, h.i1.below hb, h.b1.below hb, h.i2.below hb, h.b2.below hb, h.bel.trans (hb.mono h.bel.size)⟩
theorem to_last {K : Act → World → Prop} {Q : Exit → Act → World → Prop} {x0 x1 x2 x3 x4 x7 x8 x9 x10 x11 x12 x13 x14 x15 x16 x17 x18 x19 x20 x21 x22 x23 x24 x25 x26 x27 x28 x29 x30 : Value} {w W : World} {p q : Nat} {K1 K2 : M} {v1 u1 v2 u2 : Value} (hL : Last w p q K1 K2 v1 u1 v2 u2 W)
    (h : ∀ p q W, Last w p q K1 K2 v1 u1 v2 u2 W → Exit.then K Q .normal { tmps := #[x0, x1, x2, x3, x4, .pointer (some ⟨p, 0, none⟩), .pointer (some ⟨q, 0, none⟩), x7, x8, x9, x10, x11, x12, x13, x14, x15, x16, x17, x18, x19, x20, x21, x22, x23, x24, x25, x26, x27, x28, x29, x30], defers := [] } W) : Exit.then K Q .normal { tmps := #[x0, x1, x2, x3, x4, .pointer (some ⟨p, 0, none⟩), .pointer (some ⟨q, 0, none⟩), x7, x8, x9, x10, x11, x12, x13, x14, x15, x16, x17, x18, x19, x20, x21, x22, x23, x24, x25, x26, x27, x28, x29, x30], defers := [] } W := h p q W hL
end Go.Proofs.Ytjdeahdngpccpaa
