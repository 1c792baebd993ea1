/- StateAfter and TakesOk, the model's and the program's. No condition. TakesOk, the model's and the program's. No condition. Words as rows of letters: what a machine takes is its language; of the trimmed and of the least machine the same. No condition. slices.Equal over numbers and over bools: equal lists. No condition. The program's SameOk: one language. No condition. Machines joined: the search over pairs of states, written as numbers, its language, and when its least machine is too great. No program, no condition. The answer of the functions that join machines: the least machine in memory of  -/
import Derived.Test.YtlbblfbiiceofaaStep
import Derived.Test.YtlbblfbiiceofaaImplMachOk
import Derived.Deep.RegionWith
import Derived.Test.YtlbblfbiiceofaaLeastAll
import Derived.Deep.QuietTactic
import Derived.BigQuiet
import Derived.IntWalk
import Derived.Deep.RegionHeld3
import Derived.Test.YtlbblfbiiceofaaBack2
import Derived.Test.YtlbblfbiiceofaaSpecTrim
import Derived.Test.YtlbblfbiiceofaaFromWalk
import Derived.DeepKeys4
import Derived.Test.YtlbblfbiiceofaaFrame

namespace Go.Proofs.Ytlbblfbiiceofaa
open Go.RowKit

theorem goes_step_le {m : M} (hk : m.ok = true) {s : Int} {word : ByteArray} (hw : wordOk word = true) (s0 : -1 ≤ s) (s1 : s < m.st) (k : Nat) : -1 ≤ m.goes s (word.data.toList.take k) ∧ m.goes s (word.data.toList.take k) < m.st :=
  M.goes_bd hk s _ s0 s1 (allL_take (wordOk_all hw) k)

set_option maxHeartbeats 1600000 in
theorem specL2From_any (m : M) (s : Int) (word : ByteArray) (nv ev : Value) (w : World) (h1 : IsInts w nv m.next) (hk : m.ok = true) (hw : wordOk word = true) (s0 : -1 ≤ s) (s1 : s < m.st) :
    Calls Try.prog 110 #[.agg #[.int .i64 m.st, nv, ev], .int .i64 s, .string word] w fun e w' => e = .returned (.int .i64 (m.goes s word.data.toList)) ∧ Below w.heap.size w w' := by
  have hsz := wordOk_size hw
  obtain ⟨a, cap, rfl, ha1, ha2, ha⟩ := h1
  unfold maxLen at ha2
  have HA := Lib.hid ha
  have HK := Lib.hid hk
  have HW := Lib.hid hw
  have hsh := M.ok_shape hk
  have hl : m.next.length ≤ 144 := by omega
  have hst : m.st ≤ 48 := hsh.2.1
  clear hsh
  clear ha hk hw
  go_enter Try.func110, Try.ntmps110
  go_wp2
  go_loopw [1, 7] (fun j i wr => ∃ k : Nat, k ≤ word.size ∧ i = .int .i64 k ∧ j = .int .i64 (m.goes s (word.data.toList.take k)) ∧ ∃ n, wr = (w.alloc (.cells #[.int .i64 m.st, .slice a m.next.length cap, ev] 115)).drewN n) (fun _ i _ => word.size - (intOf i).toNat)
  case atStart => exact ⟨0, Nat.zero_le _, rfl, rfl, 0, rfl⟩
  case round =>
    obtain ⟨k, hkk, rfl, rfl, n, rfl⟩ := hrel
    have hbel : Below w.heap.size w ((w.alloc (.cells #[.int .i64 m.st, .slice a m.next.length cap, ev] 115)).drewN n) := below_drewN ((Below.refl _ _).alloc (Nat.le_refl _) _) n
    have hx1 : ((w.alloc (.cells #[.int .i64 m.st, .slice a m.next.length cap, ev] 115)).drewN n).cell? ⟨w.heap.size, 1, none⟩ = some (.slice a m.next.length cap) := World.cell?_alloc_new w _ _ 1
    have hbd := goes_step_le HK.out HW.out s0 s1 k
    by_cases hlt : k < word.size
    · have HSTEP := Lib.hid (M.goes_snoc m s word k hlt)
      have hL := wordOk_at HW.out k hlt
      have hlb := letter_bd hL
      by_cases hneg : m.goes s (word.data.toList.take k) < 0
      · have HEND := Lib.hid (M.goes_cut m s word k (by omega))
        generalize m.goes s (word.data.toList.take k) = p at *
        go_wp2
        go_ret
        exact ⟨ret_int (by rw [HEND.out]; omega), hbel⟩
      · obtain ⟨i, hi1, hi2, hi3⟩ := M.nx_at HK.out (m.goes s (word.data.toList.take k)) (letterOf (word[k].toNat : Int)) (by omega) hbd.2 hlb.1 hlb.2
        obtain ⟨g, off, rfl, hg, hc⟩ := HA.out.resolve_left (fun h => by rw [h] at hi2; exact absurd hi2 (Nat.not_lt_zero i))
        have hcell := (hbel.cell (p := ⟨g, off + i, none⟩) hg).trans (hc i hi2)
        have HE := Lib.hid (HSTEP.out.trans hi3)
        clear HSTEP hi3 hc hneg HA
        have HV : Hid (∀ q, ∃ n', (((w.alloc (.cells #[.int .i64 m.st, .slice (some ⟨g, off, none⟩) m.next.length cap, ev] 115)).drewN n).drewN q) = (w.alloc (.cells #[.int .i64 m.st, .slice (some ⟨g, off, none⟩) m.next.length cap, ev] 115)).drewN n') := by
          have := fun q => (⟨n + q, by rw [World.drewN_drewN]⟩ : ∃ n', (((w.alloc (.cells #[.int .i64 m.st, .slice (some ⟨g, off, none⟩) m.next.length cap, ev] 115)).drewN n).drewN q) = (w.alloc (.cells #[.int .i64 m.st, .slice (some ⟨g, off, none⟩) m.next.length cap, ev] 115)).drewN n')
          exact Lib.hid this
        generalize ((w.alloc (.cells #[.int .i64 m.st, .slice (some ⟨g, off, none⟩) m.next.length cap, ev] 115)).drewN n) = W at hbel hx1 hcell HV ⊢
        generalize m.next[i] = d at hcell HE
        generalize m.goes s (word.data.toList.take k) = p at *
        have HLT := Lib.hid (l1Letter_any (word[k].toNat : Int))
        generalize letterOf (word[k].toNat : Int) = l at *
        have hq1 : IntKind.i64.wrap (3 * p) = 3 * p := IntWalk.i64_in _ (by omega)
        have hq2 : IntKind.i64.wrap (3 * p + l) = 3 * p + l := IntWalk.i64_in _ (by omega)
        have hq3 : 3 * p + l = i := by omega
        have hp0 : 0 ≤ p := by omega
        clear hi1 hlb hbd
        go_wp2
        go_quiet ((go_at_call 81; exact Calls.quiet_of_same ((HLT.out _).mono fun _ _ ⟨h, g⟩ => ⟨h, g.symm⟩)))
        clear hq1 hq2 hq3
        go_wp2
        go_roundw
        case rel => exact ⟨k + 1, by omega, by go_num, by rw [HE.out], HV.out _⟩
        case measure => simp [intOf]; omega
    · obtain rfl : k = word.size := by omega
      have HG := Lib.hid (M.goes_all m s word)
      generalize m.goes s (word.data.toList.take word.size) = p at *
      go_wp2
      go_ret
      exact ⟨ret_int HG.out, hbel⟩
end Go.Proofs.Ytlbblfbiiceofaa

namespace Go.Proofs.Ytlbblfbiiceofaa
open Go.RowKit

end Go.Proofs.Ytlbblfbiiceofaa

namespace Go.Proofs.Ytlbblfbiiceofaa

def lettersF (l : List UInt8) : List (Fin 3) := l.map fun c => if c == 114 then 0 else if c == 100 then 1 else 2
theorem M.good_ok {k : M} (h : k.good) (h48 : k.st ≤ 48) : k.ok = true := by
  have hs := M.good_shape h
  rw [M.ok, Bool.and_eq_true]
  refine ⟨M.shape_iff.2 ⟨hs.1, h48, hs.2.2.1, hs.2.2.2⟩, ?_⟩
  rw [List.all_eq_true]
  intro x hx
  obtain ⟨i, hi, rfl⟩ := List.getElem_of_mem hx
  have := h.nxt i hi
  simp only [nextOk, Bool.and_eq_true, decide_eq_true_eq]
  omega
theorem IsLmZ.ok {m k : M} (hm : m.ok = true) (h : IsLmZ m k) : k.ok = true := by
  obtain ⟨h1, h2⟩ := h.1 hm
  exact M.good_ok (h1.good (by omega)) h2
end Go.Proofs.Ytlbblfbiiceofaa

namespace Go.Proofs.Ytlbblfbiiceofaa
open Go.RowKit

end Go.Proofs.Ytlbblfbiiceofaa

namespace Go.Proofs.Ytlbblfbiiceofaa
open Go.RowKit

/-- SameOk's answer -/
def IsSame (m k : M) (b : Bool) : Prop := (m.ok = true → k.ok = true → (b = true ↔ m.lang 0 = k.lang 0)) ∧ (m.ok = false ∨ k.ok = false → b = false)
/-- two machines in boxes -/
structure Two (B C : Nat) (m k : M) (nv ev mv fv : Value) (w : World) : Prop where
  a : MachBox B m.st nv m.next ev m.ends w
  b : MachBox C k.st mv k.next fv k.ends w
theorem Two.below {B C : Nat} {m k : M} {nv ev mv fv : Value} {w w' : World} (h : Two B C m k nv ev mv fv w) (hb : Below w.heap.size w w') : Two B C m k nv ev mv fv w' := ⟨h.a.below hb, h.b.below hb⟩
theorem Two.new {m k : M} {nv ev mv fv : Value} {w : World} (t : TypeId) (h1 : IsInts w nv m.next) (h2 : IsBools w ev m.ends) (h3 : IsInts w mv k.next) (h4 : IsBools w fv k.ends) :
    Two w.heap.size (w.heap.size + 1) m k nv ev mv fv ((w.alloc (.cells #[.int .i64 m.st, nv, ev] t)).alloc (.cells #[.int .i64 k.st, mv, fv] t)) ∧ Below w.heap.size w ((w.alloc (.cells #[.int .i64 m.st, nv, ev] t)).alloc (.cells #[.int .i64 k.st, mv, fv] t)) := by
  have ha1 := (Below.refl w.heap.size w).alloc (Nat.le_refl _) (.cells #[.int .i64 m.st, nv, ev] t)
  have hb1 := (Below.refl _ (w.alloc (.cells #[.int .i64 m.st, nv, ev] t))).alloc (Nat.le_refl _) (.cells #[.int .i64 k.st, mv, fv] t)
  have MB := MachBox.new (st := k.st) t (h3.below ha1) (h4.below ha1)
  rw [World.size_alloc] at MB
  exact ⟨⟨(MachBox.new (st := m.st) t h1 h2).below hb1, MB⟩, ha1.trans (hb1.mono (by simp))⟩

theorem LeastNew.reads' {m : M} {w w' : World} {e : Ending} (h : LeastNew m w e w') : ∃ k nv ev, IsLmZ m k ∧ e = .returned (.agg #[.int .i64 k.st, nv, ev]) ∧ IsInts w' nv k.next ∧ IsBools w' ev k.ends ∧ Below w.heap.size w w' := by
  obtain ⟨k, hk, h⟩ := h
  obtain ⟨nv, ev, h1, h2, h3, h4⟩ := h.reads
  exact ⟨k, nv, ev, hk, h1, h2, h3, h4⟩
theorem Below.alloc' {w4 W : World} (h : Below w4.heap.size w4 W) (o : Obj) : Below w4.heap.size w4 (W.alloc o) := h.alloc h.size o
theorem Below.then' {w4 W w' : World} (h : Below w4.heap.size w4 W) (hb : Below W.heap.size W w') : Below w4.heap.size w4 w' := h.trans (hb.mono h.size)
/-- a fresh box of zeroes -/
structure Z0 (b : Nat) (w : World) : Prop where
  lt : b < w.heap.size
  c0 : w.cell? ⟨b, 0, none⟩ = some (.int .i64 0)
  c1 : w.cell? ⟨b, 1, none⟩ = some (.slice none 0 0)
  c2 : w.cell? ⟨b, 2, none⟩ = some (.slice none 0 0)
  f0 : w.frozen? ⟨b, 0, none⟩ = false
  f1 : w.frozen? ⟨b, 1, none⟩ = false
  f2 : w.frozen? ⟨b, 2, none⟩ = false
theorem Z0.below {b : Nat} {w w' : World} (h : Z0 b w) (hb : Below w.heap.size w w') : Z0 b w' :=
  ⟨Nat.lt_of_lt_of_le h.lt hb.size, (hb.cell (p := ⟨b, 0, none⟩) h.lt).trans h.c0, (hb.cell (p := ⟨b, 1, none⟩) h.lt).trans h.c1, (hb.cell (p := ⟨b, 2, none⟩) h.lt).trans h.c2, (hb.frozen (p := ⟨b, 0, none⟩) h.lt).trans h.f0, (hb.frozen (p := ⟨b, 1, none⟩) h.lt).trans h.f1, (hb.frozen (p := ⟨b, 2, none⟩) h.lt).trans h.f2⟩
theorem Z0.new (w : World) : Z0 w.heap.size (w.alloc (.cells #[.int .i64 0, .slice none 0 0, .slice none 0 0] 115)) :=
  ⟨by simp, World.cell?_alloc_new w _ _ 0, World.cell?_alloc_new w _ _ 1, World.cell?_alloc_new w _ _ 2, World.frozen?_alloc_new w _ _ 0, World.frozen?_alloc_new w _ _ 1, World.frozen?_alloc_new w _ _ 2⟩
theorem bel1 (w4 : World) (o : Obj) : Below w4.heap.size w4 (w4.alloc o).drew := (Below.alloc' (Below.refl w4.heap.size w4) o).drew
theorem Z0.drew {b : Nat} {w : World} (h : Z0 b w) : Z0 b w.drew := h.below (Below.refl _ _).drew
theorem Z0.one1 {w4 w5 : World} (hb : Below (w4.alloc (.cells #[.int .i64 0, .slice none 0 0, .slice none 0 0] 115)).drew.heap.size (w4.alloc (.cells #[.int .i64 0, .slice none 0 0, .slice none 0 0] 115)).drew w5) : Z0 w4.heap.size w5 := (Z0.new w4).drew.below hb
theorem Z0.one1' {w4 w5 : World} (hb : Below (w4.alloc (.cells #[.int .i64 0, .slice none 0 0, .slice none 0 0] 115)).heap.size (w4.alloc (.cells #[.int .i64 0, .slice none 0 0, .slice none 0 0] 115)) w5) : Z0 w4.heap.size w5 := (Z0.new w4).below hb
/-- the two boxes' cells -/
structure Six (a b : Nat) (ms ks : Int) (nv ev mv fv : Value) (W : World) : Prop where
  la : a < W.heap.size
  lb : b < W.heap.size
  cs : W.cell? ⟨a, 0, none⟩ = some (.int .i64 ms) ∧ W.cell? ⟨a, 1, none⟩ = some nv ∧ W.cell? ⟨a, 2, none⟩ = some ev ∧ W.cell? ⟨b, 0, none⟩ = some (.int .i64 ks) ∧ W.cell? ⟨b, 1, none⟩ = some mv ∧ W.cell? ⟨b, 2, none⟩ = some fv
theorem Six.cells {a b : Nat} {ms ks : Int} {nv ev mv fv : Value} {W : World} (h : Six a b ms ks nv ev mv fv W) : W.cell? ⟨a, 0, none⟩ = some (.int .i64 ms) ∧ W.cell? ⟨a, 1, none⟩ = some nv ∧ W.cell? ⟨a, 2, none⟩ = some ev ∧ W.cell? ⟨b, 0, none⟩ = some (.int .i64 ks) ∧ W.cell? ⟨b, 1, none⟩ = some mv ∧ W.cell? ⟨b, 2, none⟩ = some fv := h.cs
theorem Six.below {a b : Nat} {ms ks : Int} {nv ev mv fv : Value} {W W' : World} (h : Six a b ms ks nv ev mv fv W) (hb : Below W.heap.size W W') : Six a b ms ks nv ev mv fv W' :=
  ⟨Nat.lt_of_lt_of_le h.la hb.size, Nat.lt_of_lt_of_le h.lb hb.size, (hb.cell (p := ⟨a, 0, none⟩) h.la).trans h.cs.1, (hb.cell (p := ⟨a, 1, none⟩) h.la).trans h.cs.2.1, (hb.cell (p := ⟨a, 2, none⟩) h.la).trans h.cs.2.2.1, (hb.cell (p := ⟨b, 0, none⟩) h.lb).trans h.cs.2.2.2.1, (hb.cell (p := ⟨b, 1, none⟩) h.lb).trans h.cs.2.2.2.2.1, (hb.cell (p := ⟨b, 2, none⟩) h.lb).trans h.cs.2.2.2.2.2⟩
theorem Six.alloc {a b : Nat} {ms ks : Int} {nv ev mv fv : Value} {W : World} (h : Six a b ms ks nv ev mv fv W) (o : Obj) : Six a b ms ks nv ev mv fv (W.alloc o) := h.below ((Below.refl _ _).alloc (Nat.le_refl _) o)
theorem Six.drew {a b : Nat} {ms ks : Int} {nv ev mv fv : Value} {W : World} (h : Six a b ms ks nv ev mv fv W) : Six a b ms ks nv ev mv fv W.drew := h.below (Below.refl _ _).drew
theorem Six.set {a b : Nat} {ms ks : Int} {nv ev mv fv : Value} {W : World} (h : Six a b ms ks nv ev mv fv W) {c o : Nat} {v : Value} (h0 : ¬ (a = c)) (h1 : ¬ (b = c)) : Six a b ms ks nv ev mv fv (W.setCell ⟨c, o, none⟩ v) := by
  obtain ⟨la, lb, k0, k1, k2, k3, k4, k5⟩ := h
  refine ⟨?_, ?_, ?_, ?_, ?_, ?_, ?_, ?_⟩ <;> go_simp
/-- a machine's rows in blocks from B up to H -/
structure Rws (B H : Nat) (K : M) (v u : Value) (W : World) : Prop where
  hH : H ≤ W.heap.size
  r1 : (rowT 3 1 v K.next.length (K.next.map (Value.int .i64))).says W
  r2 : (rowT 4 1 u K.ends.length (K.ends.map Value.bool)).says W
  l1 : ∀ k, v.ownBlock = some k → B ≤ k ∧ k < H
  l2 : ∀ k, u.ownBlock = some k → B ≤ k ∧ k < H
theorem Rws.kept {B H : Nat} {K : M} {v u : Value} {W W' : World} (h : Rws B H K v u W) (hs : W.heap.size ≤ W'.heap.size) (hb : ∀ k, B ≤ k → k < H → W'.heap[k]? = W.heap[k]?) : Rws B H K v u W' :=
  ⟨Nat.le_trans h.hH hs, (rowT 3 1 v K.next.length (K.next.map (Value.int .i64))).st W W' (fun k e => hb k (h.l1 k e).1 (h.l1 k e).2) hs h.r1, (rowT 4 1 u K.ends.length (K.ends.map Value.bool)).st W W' (fun k e => hb k (h.l2 k e).1 (h.l2 k e).2) hs h.r2, h.l1, h.l2⟩
theorem Rws.below {B H : Nat} {K : M} {v u : Value} {W W' : World} (h : Rws B H K v u W) (hb : Below W.heap.size W W') : Rws B H K v u W' := h.kept hb.size (fun k _ hk => hb.block k (Nat.lt_of_lt_of_le hk h.hH))
theorem Rws.alloc {B H : Nat} {K : M} {v u : Value} {W : World} (h : Rws B H K v u W) (o : Obj) : Rws B H K v u (W.alloc o) := h.below ((Below.refl _ _).alloc (Nat.le_refl _) o)
theorem Rws.set {B H : Nat} {K : M} {v u : Value} {W : World} (h : Rws B H K v u W) {c o : Nat} {x : Value} (hc : c < B ∨ H ≤ c) : Rws B H K v u (W.setCell ⟨c, o, none⟩ x) :=
  h.kept (by simp) (fun k h1 h2 => Below.heap_setCell W ⟨c, o, none⟩ x k (fun e => by simp only at e; omega))
theorem Rws.ints {B H : Nat} {K : M} {v u : Value} {W : World} (h : Rws B H K v u W) : IsInts W v K.next := IsInts.of_owns h.r1
theorem Rws.bools {B H : Nat} {K : M} {v u : Value} {W : World} (h : Rws B H K v u W) : IsBools W u K.ends := IsBools.of_owns h.r2
theorem Rws.via {B H : Nat} {K : M} {v u : Value} {w6 W : World} (R : Rws B H K v u w6) (h : Rws B H K v u w6 → Rws B H K v u W) : IsInts W v K.next ∧ IsBools W u K.ends := ⟨(h R).ints, (h R).bools⟩
theorem Rws.one {H : Nat} {K : M} {v u : Value} {w4 W : World} {o : Obj} (h : Rws (w4.alloc o).drew.heap.size H K v u W) : Rws (w4.heap.size + 1) H K v u W := by
  have e : (w4.alloc o).drew.heap.size = w4.heap.size + 1 := World.size_alloc w4 o
  rw [e] at h; exact h
theorem Rws.one' {H : Nat} {K : M} {v u : Value} {w4 W : World} {o : Obj} (h : Rws (w4.alloc o).heap.size H K v u W) : Rws (w4.heap.size + 1) H K v u W := h.one
theorem Below.set' {w W : World} (h : Below w.heap.size w W) {c o : Nat} {v : Value} (hc : w.heap.size ≤ c) : Below w.heap.size w (W.setCell ⟨c, o, none⟩ v) := h.setCell (p := ⟨c, o, none⟩) hc v
/-- both least machines in their boxes -/
structure Last (w : World) (p q : Nat) (K1 K2 : M) (v1 u1 v2 u2 : Value) (W : World) : Prop where
  lp : p < W.heap.size
  lq : q < W.heap.size
  c1 : W.cell? ⟨p, 1, none⟩ = some v1
  c2 : W.cell? ⟨p, 2, none⟩ = some u1
  d1 : W.cell? ⟨q, 1, none⟩ = some v2
  d2 : W.cell? ⟨q, 2, none⟩ = some u2
  i1 : IsInts W v1 K1.next
  b1 : IsBools W u1 K1.ends
  i2 : IsInts W v2 K2.next
  b2 : IsBools W u2 K2.ends
  bel : Below w.heap.size w W
end Go.Proofs.Ytlbblfbiiceofaa

namespace Go.Proofs.Ytlbblfbiiceofaa

/-- no least machine of a language has at most 48 states -/
def Big (f : List (Fin 3) → Bool) : Prop := ∀ k, IsLm f k → 48 < k.st
/-! pairs of states, written as numbers -/
def pc (i j : Int) : Int := (i + 1) * 49 + (j + 1)
def p1 (c : Int) : Int := c / 49 - 1
def p2 (c : Int) : Int := c % 49 - 1
theorem p1_pc {i j : Int} (h1 : -1 ≤ j) (h2 : j < 48) : p1 (pc i j) = i := by unfold p1 pc; omega
theorem p2_pc {i j : Int} (h1 : -1 ≤ j) (h2 : j < 48) : p2 (pc i j) = j := by unfold p2 pc; omega
theorem pc_p (c : Int) : pc (p1 c) (p2 c) = c := by unfold p1 p2 pc; omega
/-- a pair of states of two machines, each of which may have stopped -/
def inP (A B : M) (c : Int) : Prop := -1 ≤ p1 c ∧ p1 c < A.st ∧ -1 ≤ p2 c ∧ p2 c < B.st
theorem inP_pc {A B : M} (hB : B.st ≤ 48) {i j : Int} (i0 : -1 ≤ i) (i1 : i < A.st) (j0 : -1 ≤ j) (j1 : j < B.st) : inP A B (pc i j) := by
  have j48 : j < 48 := Int.lt_of_lt_of_le j1 hB
  unfold inP
  rw [p1_pc j0 j48, p2_pc j0 j48]
  exact ⟨i0, i1, j0, j1⟩
theorem inP_zero {A B : M} (hA : 1 ≤ A.st) (hB : B.st ≤ 48) (hB0 : 1 ≤ B.st) : inP A B (pc 0 0) := inP_pc hB (by decide) (Int.lt_of_lt_of_le (by decide) hA) (by decide) (Int.lt_of_lt_of_le (by decide) hB0)
theorem inP_bd {A B : M} (hA : A.st ≤ 48) (hB : B.st ≤ 48) {c : Int} (h : inP A B c) : 0 ≤ c ∧ c < 2401 := by
  obtain ⟨h1, h2, h3, h4⟩ := h
  have a1 : p1 c < 48 := Int.lt_of_lt_of_le h2 hA
  have a2 : p2 c < 48 := Int.lt_of_lt_of_le h4 hB
  unfold p1 p2 at *
  omega
/-- where a search over pairs ends -/
theorem pair_n {A B : M} (hA : 1 ≤ A.st) (hA4 : A.st ≤ 48) (hB : B.st ≤ 48) (hB0 : 1 ≤ B.st) {on : Int → Nat → Option Int} (hs : ∀ x, inP A B x → ∀ l b, l < 3 → on x l = some b → inP A B b) :
    ∃ N, N ≤ 2401 ∧ (bfsTo on (pc 0 0) N).1.length = N := by
  refine bfsTo_end (C := 2401) (fun n => ?_)
  exact nodup_bound 2401 _ (bfsTo_nodup on _ n) (fun x hx => by
    have := inP_bd hA4 hB (bfsTo_all (inP_zero hA hB hB0) hs n x hx)
    omega)
/-- the program's way over pairs -/
def pOn (A B : M) (c : Int) (l : Nat) : Option Int := some (pc (A.nx (p1 c) (l : Int)) (B.nx (p2 c) (l : Int)))
def pEnds (A B : M) (g : Bool → Bool → Bool) (c : Int) : Bool := g (A.endAt (p1 c)) (B.endAt (p2 c))
theorem pOn_in {A B : M} (hA : A.good) (hB : B.good) (hB4 : B.st ≤ 48) (x : Int) (hx : inP A B x) (l : Nat) (b : Int) (hl : l < 3) (h : pOn A B x l = some b) : inP A B b := by
  obtain ⟨h1, h2, h3, h4⟩ := hx
  unfold pOn at h
  cases h
  have a := M.gnx_bd hA (p1 x) (l : Int) h2 (by omega) (by omega)
  have c := M.gnx_bd hB (p2 x) (l : Int) h4 (by omega) (by omega)
  exact inP_pc hB4 a.1 a.2 c.1 c.2
/-- a search over pairs takes what is asked of both languages -/
theorem pairs_lang {A B : M} (hA : A.good) (hB : B.good) (hB4 : B.st ≤ 48) (g : Bool → Bool → Bool) {on : Int → Nat → Option Int} {N : Nat} (hN : (bfsTo on (pc 0 0) N).1.length = N)
    (hs : ∀ x, inP A B x → ∀ l b, l < 3 → on x l = some b → b = pc (A.nx (p1 x) (l : Int)) (B.nx (p2 x) (l : Int)))
    (hno : ∀ x, inP A B x → ∀ l : Fin 3, on x l.val = none → ∀ u, g (A.lang (A.nx (p1 x) (l.val : Int)) u) (B.lang (B.nx (p2 x) (l.val : Int)) u) = false) :
    (bM on (pc 0 0) N (pEnds A B g)).lang 0 = fun u => g (A.lang 0 u) (B.lang 0 u) := by
  have hin : ∀ x, inP A B x → ∀ l b, l < 3 → on x l = some b → inP A B b := by
    intro x hx l b hl h
    rw [hs x hx l b hl h]
    obtain ⟨h1, h2, h3, h4⟩ := hx
    have a := M.gnx_bd hA (p1 x) (l : Int) h2 (by omega) (by omega)
    have c := M.gnx_bd hB (p2 x) (l : Int) h4 (by omega) (by omega)
    exact inP_pc hB4 a.1 a.2 c.1 c.2
  funext u
  have h := bM_lang (P := inP A B) (F := fun c u => g (A.lang (p1 c) u) (B.lang (p2 c) u)) (ends := pEnds A B g) hN (bfsTo_all (inP_zero hA.st0 hB4 hB.st0) hin N) (fun x _ => rfl) ?_ ?_ u 0 (pc 0 0) bM_first
  · rw [show ((0 : Nat) : Int) = 0 from rfl] at h
    rw [h, p1_pc (by omega) (by omega), p2_pc (by omega) (by omega)]
  · intro x hx l b hb v
    have e := hs x hx l.val b l.isLt hb
    obtain ⟨h1, h2, h3, h4⟩ := hx
    have c := M.gnx_bd hB (p2 x) (l.val : Int) h4 (by omega) (by omega)
    subst e
    rw [p1_pc c.1 (by omega), p2_pc c.1 (by omega)]
    rfl
  · intro x hx l hb v
    exact hno x hx l hb v
/-- the kinds of the model -/
def gk (k : Nat) (a b : Bool) : Bool := if k = 0 then a && b else if k = 1 then a || b else a && !b
def kStop (k : Nat) (i j : Int) : Bool := (decide (i < 0) && decide (j < 0)) || (decide (k ≠ 1) && decide (i < 0)) || (decide (k = 0) && decide (j < 0))
/-- the model's way over pairs -/
def sOn (k : Nat) (A B : M) (c : Int) (l : Nat) : Option Int := if kStop k (A.nx (p1 c) (l : Int)) (B.nx (p2 c) (l : Int)) = true then none else pOn A B c l
theorem sOn_some {k : Nat} {A B : M} {c b : Int} {l : Nat} (h : sOn k A B c l = some b) : pOn A B c l = some b := by
  unfold sOn at h
  split at h
  · cases h
  · exact h
theorem M.lang_lt {m : M} {s : Int} (h : s < 0) (u : List (Fin 3)) : m.lang s u = false := by
  cases u with
  | nil => rw [M.lang_nil, M.endAt, if_pos h]
  | cons l u => rw [M.lang_cons, M.nx_neg _ _ _ h, M.lang_neg]
theorem sOn_lang (k : Nat) {A B : M} (hA : A.good) (hB : B.good) (hB4 : B.st ≤ 48) {N : Nat} (hN : (bfsTo (sOn k A B) (pc 0 0) N).1.length = N) :
    (bM (sOn k A B) (pc 0 0) N (pEnds A B (gk k))).lang 0 = fun u => gk k (A.lang 0 u) (B.lang 0 u) := by
  refine pairs_lang hA hB hB4 (gk k) hN (fun x _ l b _ h => by have h := sOn_some h; unfold pOn at h; exact (Option.some.inj h).symm) ?_
  intro x hx l h u
  unfold sOn pOn at h
  split at h
  · rename_i hs
    unfold kStop at hs
    unfold gk
    simp only [Bool.or_eq_true, Bool.and_eq_true, decide_eq_true_eq] at hs
    rcases hs with (⟨h1, h2⟩ | ⟨h1, h2⟩) | ⟨h1, h2⟩
    · simp [M.lang_lt h1, M.lang_lt h2]
    · simp [M.lang_lt h2, h1]
    · simp [M.lang_lt h2, h1]
  · cases h
/-! not -/
def nOn (m : M) (x : Int) (l : Nat) : Option Int := some (m.nx x (l : Int))
def inN (m : M) (x : Int) : Prop := -1 ≤ x ∧ x < m.st
/-- an answer: the least machine and true, or none and false -/
def IsJoin (ok : Bool) (f : List (Fin 3) → Bool) (k : M) (r : Bool) : Prop := (r = true ∧ ok = true ∧ IsLm f k ∧ k.st ≤ 48) ∨ (r = false ∧ k = ⟨0, [], []⟩ ∧ (ok = true → Big f))
theorem IsJoin.one {ok : Bool} {f : List (Fin 3) → Bool} {k k' : M} {r r' : Bool} (h : IsJoin ok f k r) (h' : IsJoin ok f k' r') : k = k' ∧ r = r' := by
  rcases h with ⟨rfl, h1, h2, h3⟩ | ⟨rfl, rfl, h1⟩ <;> rcases h' with ⟨rfl, g1, g2, g3⟩ | ⟨rfl, rfl, g1⟩
  · exact ⟨h2.one g2, rfl⟩
  · have := g1 h1 k h2; omega
  · have := h1 g1 k' g2; omega
  · exact ⟨rfl, rfl⟩
end Go.Proofs.Ytlbblfbiiceofaa

namespace Go.Proofs.Ytlbblfbiiceofaa
open Go.RowKit

def JoinNew (ok : Bool) (f : List (Fin 3) → Bool) (w : World) (e : Ending) (w' : World) : Prop :=
  ∃ (k : M) (r : Bool) (a1 a2 : Option Addr) (c1 c2 : Nat), IsJoin ok f k r ∧ e = .returned (.tuple #[.agg #[.int .i64 k.st, .slice a1 k.next.length c1, .slice a2 k.ends.length c2], .bool r]) ∧
    Apart w.heap.size [rowT 3 1 (.slice a1 k.next.length c1) k.next.length (k.next.map (Value.int .i64)), rowT 4 1 (.slice a2 k.ends.length c2) k.ends.length (k.ends.map Value.bool)] w' ∧ Below w.heap.size w w'
end Go.Proofs.Ytlbblfbiiceofaa

namespace Go.Proofs.Ytlbblfbiiceofaa
open Go.RowKit

/-- the row of a pair -/
def inn2 (p : Value × Int) : Thing := rowT 3 1 p.1 2 [.int .i64 (p1 p.2), .int .i64 (p2 p.2)]
/-- the codes of rows of pairs -/
def cds (ps : List (Value × Int)) : List Int := ps.map Prod.snd
theorem cds_len (ps : List (Value × Int)) : (cds ps).length = ps.length := List.length_map _
theorem cds_snoc (ps : List (Value × Int)) (v : Value) (c : Int) : cds (ps ++ [(v, c)]) = cds ps ++ [c] := by simp [cds]
/-- a machine that is being made from pairs -/
structure Prs (w0 : World) (R6 R7 : Nat) (ps : List (Value × Int)) (qv : Value) (nx : List Int) (nv : Value) (es : List Bool) (ev : Value) (w : World) : Prop where
  keep : Below w0.heap.size w0 w
  ap : Apart w0.heap.size (cellsT R7 #[.int .i64 0, nv, ev] 115 :: rowT 3 1 nv nx.length (nx.map (Value.int .i64)) :: rowT 4 1 ev es.length (es.map Value.bool) :: rowT 113 1 qv ps.length (ps.map Prod.fst) ::
    cellsT R6 #[.int .i64 0, .slice none 0 0, .slice none 0 0] 115 :: ps.map inn2) w
section
variable {w0 : World} {R6 R7 : Nat} {ps : List (Value × Int)} {qv : Value} {nx : List Int} {nv : Value} {es : List Bool} {ev : Value} {w w' : World}
theorem Prs.size (h : Prs w0 R6 R7 ps qv nx nv es ev w) : w0.heap.size ≤ w.heap.size := h.keep.size
theorem Prs.same (h : Prs w0 R6 R7 ps qv nx nv es ev w) (hg : w.grownBy w' none) : Prs w0 R6 R7 ps qv nx nv es ev w' := ⟨h.keep.grown hg h.size (fun _ e => by cases e), h.ap.same hg⟩
theorem Prs.cell (h : Prs w0 R6 R7 ps qv nx nv es ev w) : w.cell? ⟨R7, 0, none⟩ = some (.int .i64 0) ∧ w.cell? ⟨R7, 1, none⟩ = some nv ∧ w.cell? ⟨R7, 2, none⟩ = some ev :=
  ⟨cellsT_cell h.ap.head 0, cellsT_cell h.ap.head 1, cellsT_cell h.ap.head 2⟩
theorem Prs.froz (h : Prs w0 R6 R7 ps qv nx nv es ev w) (i : Nat) : w.frozen? ⟨R7, i, none⟩ = false := cellsT_frozen h.ap.head i
theorem Prs.rowN (h : Prs w0 R6 R7 ps qv nx nv es ev w) : w.ownsRow 0 3 1 nv nx.length (nx.map (Value.int .i64)) := h.ap.at 1 (by simp)
theorem Prs.rowE (h : Prs w0 R6 R7 ps qv nx nv es ev w) : w.ownsRow 0 4 1 ev es.length (es.map Value.bool) := h.ap.at 2 (by simp)
theorem Prs.rowQ (h : Prs w0 R6 R7 ps qv nx nv es ev w) : w.ownsRow 0 113 1 qv ps.length (ps.map Prod.fst) := h.ap.at 3 (by simp)
theorem Prs.nextN {x : Int} {t : TypeId} {g cp : Nat} {w1 : World} (h : Prs w0 R6 R7 ps qv nx nv es ev w) (hg : (w.alloc (.cells #[.int .i64 x] t)).grownBy w1 nv.ownBlock)
    (ho : w1.ownsRow 0 3 1 (.slice (some ⟨g, 0, none⟩) (nx.length + 1) cp) (nx.length + 1) (nx.map (Value.int .i64) ++ [.int .i64 x])) (hat : nv.ownBlock = some g ∨ g = (w.alloc (.cells #[.int .i64 x] t)).heap.size) :
    Prs w0 R6 R7 ps qv (nx ++ [x]) (.slice (some ⟨g, 0, none⟩) (nx.length + 1) cp) es ev (w1.setCell ⟨R7, 1, none⟩ (.slice (some ⟨g, 0, none⟩) (nx.length + 1) cp)) ∧ w1.cell? ⟨R7, 1, none⟩ = some nv ∧ w1.frozen? ⟨R7, 1, none⟩ = false := by
  have h1 := h.same (World.grownBy_alloc w (.cells #[.int .i64 x] t) none)
  have hlt := h1.ap.ltAt 1 (by simp)
  have a1 := h1.ap.turnAt 1 (by simp) hg (rowT 3 1 (.slice (some ⟨g, 0, none⟩) (nx.length + 1) cp) (nx ++ [x]).length ((nx ++ [x]).map (Value.int .i64)))
    (by show w1.ownsRow 0 _ _ _ _ _; rw [List.length_append, List.map_append]; exact ho) h1.size
    (fun j e => ⟨by cases e; exact hat.imp id (fun e => Nat.le_of_eq e.symm), (World.ownsRow.lt ho j e).2⟩)
  have hs1 : w0.heap.size ≤ w1.heap.size := Nat.le_trans h1.size hg.size
  have hb1 := (h.ap.lt R7 rfl).1
  exact ⟨⟨((h1.keep.grown hg h1.size (fun j e => (hlt j e).1)).setCell (p := ⟨R7, 1, none⟩) hb1 _), Apart.set a1 hs1 1 _⟩, cellsT_cell a1.head 1, cellsT_frozen a1.head 1⟩
theorem Prs.nextE {x : Bool} {t : TypeId} {g cp : Nat} {w1 : World} (h : Prs w0 R6 R7 ps qv nx nv es ev w) (hg : (w.alloc (.cells #[.bool x] t)).grownBy w1 ev.ownBlock)
    (ho : w1.ownsRow 0 4 1 (.slice (some ⟨g, 0, none⟩) (es.length + 1) cp) (es.length + 1) (es.map Value.bool ++ [.bool x])) (hat : ev.ownBlock = some g ∨ g = (w.alloc (.cells #[.bool x] t)).heap.size) :
    Prs w0 R6 R7 ps qv nx nv (es ++ [x]) (.slice (some ⟨g, 0, none⟩) (es.length + 1) cp) (w1.setCell ⟨R7, 2, none⟩ (.slice (some ⟨g, 0, none⟩) (es.length + 1) cp)) ∧ w1.cell? ⟨R7, 2, none⟩ = some ev ∧ w1.frozen? ⟨R7, 2, none⟩ = false := by
  have h1 := h.same (World.grownBy_alloc w (.cells #[.bool x] t) none)
  have hlt := h1.ap.ltAt 2 (by simp)
  have a1 := h1.ap.turnAt 2 (by simp) hg (rowT 4 1 (.slice (some ⟨g, 0, none⟩) (es.length + 1) cp) (es ++ [x]).length ((es ++ [x]).map Value.bool))
    (by show w1.ownsRow 0 _ _ _ _ _; rw [List.length_append, List.map_append]; exact ho) h1.size
    (fun j e => ⟨by cases e; exact hat.imp id (fun e => Nat.le_of_eq e.symm), (World.ownsRow.lt ho j e).2⟩)
  have hs1 : w0.heap.size ≤ w1.heap.size := Nat.le_trans h1.size hg.size
  have hb1 := (h.ap.lt R7 rfl).1
  exact ⟨⟨((h1.keep.grown hg h1.size (fun j e => (hlt j e).1)).setCell (p := ⟨R7, 2, none⟩) hb1 _), Apart.set a1 hs1 2 _⟩, cellsT_cell a1.head 2, cellsT_frozen a1.head 2⟩
/-- one pair more -/
theorem Prs.push {c : Int} {g cp : Nat} {w1 : World} (h : Prs w0 R6 R7 ps qv nx nv es ev w) {W1 W2 : World} (hW1 : W1 = w.alloc (.cells #[.int .i64 (p1 c), .int .i64 (p2 c)] 3))
    (hW2 : W2 = W1.alloc (.cells #[.slice (some ⟨w.heap.size, 0, none⟩) 2 2] 113)) (hg : W2.grownBy w1 qv.ownBlock)
    (ho : w1.ownsRow 0 113 1 (.slice (some ⟨g, 0, none⟩) (ps.length + 1) cp) (ps.length + 1) (ps.map Prod.fst ++ [.slice (some ⟨w.heap.size, 0, none⟩) 2 2])) (hat : qv.ownBlock = some g ∨ g = W2.heap.size) :
    Prs w0 R6 R7 (ps ++ [(.slice (some ⟨w.heap.size, 0, none⟩) 2 2, c)]) (.slice (some ⟨g, 0, none⟩) (ps.length + 1) cp) nx nv es ev w1 := by
  subst hW1 hW2
  have a1 := h.ap.more (World.grownBy_alloc w (.cells #[.int .i64 (p1 c), .int .i64 (p2 c)] 3) none) (inn2 (.slice (some ⟨w.heap.size, 0, none⟩) 2 2, c))
    (World.ownsRow_lit (base := 0) (e := 3) (size := 1) w #[.int .i64 (p1 c), .int .i64 (p2 c)] 2 (Nat.zero_le _) (by unfold maxLen; omega) rfl) h.size (fun k e => by cases e; simp)
  have k1 := h.keep.alloc h.size (.cells #[.int .i64 (p1 c), .int .i64 (p2 c)] 3)
  have a2 := a1.same (World.grownBy_alloc _ (.cells #[.slice (some ⟨w.heap.size, 0, none⟩) 2 2] 113) none)
  have k2 := k1.alloc k1.size (.cells #[.slice (some ⟨w.heap.size, 0, none⟩) 2 2] 113)
  have hlt := a2.ltAt 4 (by simp)
  have a3 := a2.turnAt 4 (by simp) hg (rowT 113 1 (.slice (some ⟨g, 0, none⟩) (ps.length + 1) cp) (ps ++ [((.slice (some ⟨w.heap.size, 0, none⟩) 2 2 : Value), c)]).length ((ps ++ [((.slice (some ⟨w.heap.size, 0, none⟩) 2 2 : Value), c)]).map Prod.fst))
    (by show w1.ownsRow 0 _ _ _ _ _; rw [List.length_append, List.map_append]; exact ho) k2.size
    (fun j e => ⟨by cases e; exact hat.imp id (fun e => Nat.le_of_eq e.symm), (World.ownsRow.lt ho j e).2⟩)
  refine ⟨k2.grown hg k2.size (fun j e => (hlt j e).1), ?_⟩
  rw [show (ps ++ [((.slice (some ⟨w.heap.size, 0, none⟩) 2 2 : Value), c)]).map inn2 = ps.map inn2 ++ [inn2 (.slice (some ⟨w.heap.size, 0, none⟩) 2 2, c)] by simp]
  exact a3.perm (List.perm_append_singleton _ _).symm
/-- a pair is read -/
theorem Prs.pair (h : Prs w0 R6 R7 ps qv nx nv es ev w) (k : Nat) (hk : k < ps.length) : ∃ g cp, ps[k].1 = .slice (some ⟨g, 0, none⟩) 2 cp ∧ w.cell? ⟨g, 0, none⟩ = some (.int .i64 (p1 ps[k].2)) ∧ w.cell? ⟨g, 1, none⟩ = some (.int .i64 (p2 ps[k].2)) := by
  have hm : inn2 ps[k] ∈ (cellsT R7 #[.int .i64 0, nv, ev] 115 :: rowT 3 1 nv nx.length (nx.map (Value.int .i64)) :: rowT 4 1 ev es.length (es.map Value.bool) :: rowT 113 1 qv ps.length (ps.map Prod.fst) ::
    cellsT R6 #[.int .i64 0, .slice none 0 0, .slice none 0 0] 115 :: ps.map inn2) := by
    refine List.mem_cons_of_mem _ (List.mem_cons_of_mem _ (List.mem_cons_of_mem _ (List.mem_cons_of_mem _ (List.mem_cons_of_mem _ ?_))))
    exact List.mem_map_of_mem (List.getElem_mem hk)
  have hr : w.ownsRow 0 3 1 ps[k].1 2 [.int .i64 (p1 ps[k].2), .int .i64 (p2 ps[k].2)] := (h.ap.all _ hm).1
  obtain ⟨g, cp, he, -, -⟩ := World.ownsRow.form hr (by omega)
  rw [he] at hr
  exact ⟨g, cp, he, World.ownsRow.cellAt hr 0 (by omega), World.ownsRow.cellAt hr 1 (by omega)⟩
theorem Prs.outer {g n cp : Nat} (h : Prs w0 R6 R7 ps (.slice (some ⟨g, 0, none⟩) n cp) nx nv es ev w) (hn : n = ps.length) (k : Nat) (hk : k < ps.length) : w.cell? ⟨g, k, none⟩ = some ps[k].1 := by
  subst hn
  have := World.ownsRow.cellAt h.rowQ k (by omega)
  rw [List.getElem?_map, List.getElem?_eq_getElem hk] at this
  exact this
theorem Prs.len (h : Prs w0 R6 R7 ps qv nx nv es ev w) (u : Int) {W : World} (hW : W = w.setCell ⟨R7, 0, none⟩ (.int .i64 u)) :
    W.cell? ⟨R7, 0, none⟩ = some (.int .i64 u) ∧ W.cell? ⟨R7, 1, none⟩ = some nv ∧ W.cell? ⟨R7, 2, none⟩ = some ev ∧ (cellsT R6 #[.int .i64 0, .slice none 0 0, .slice none 0 0] 115).says W := by
  subst hW
  have a := h.ap.set h.size 0 (.int .i64 u)
  exact ⟨cellsT_cell a.head 0, cellsT_cell a.head 1, cellsT_cell a.head 2, a.at 4 (by simp)⟩
theorem Prs.done (h : Prs w0 R6 R7 ps qv nx nv es ev w) (u : Int) {x y z : Value} {W : World} (hW : W = (((w.setCell ⟨R7, 0, none⟩ (.int .i64 u)).setCell ⟨R6, 0, none⟩ x).setCell ⟨R6, 1, none⟩ y).setCell ⟨R6, 2, none⟩ z) :
    Apart w0.heap.size [rowT 3 1 nv nx.length (nx.map (Value.int .i64)), rowT 4 1 ev es.length (es.map Value.bool)] W ∧ Below w0.heap.size w0 W ∧
    W.cell? ⟨R6, 0, none⟩ = some x ∧ W.cell? ⟨R6, 1, none⟩ = some y ∧ W.cell? ⟨R6, 2, none⟩ = some z := by
  subst hW
  have hb7 := (h.ap.lt R7 rfl).1
  have hb6 := (h.ap.ltAt 4 (by simp) R6 rfl).1
  have a1 := h.ap.set h.size 0 (.int .i64 u)
  have k1 := h.keep.setCell (p := ⟨R7, 0, none⟩) hb7 (.int .i64 u)
  have a2 := a1.setAt 4 (by simp) rfl k1.size 0 x
  have a3 := a2.setAt 4 (by simp) rfl (by simpa using k1.size) 1 y
  have a4 := a3.setAt 4 (by simp) rfl (by simpa using k1.size) 2 z
  have c := a4.at 4 (by simp)
  refine ⟨a4.sub ?_, ((k1.setCell (p := ⟨R6, 0, none⟩) hb6 _).setCell (p := ⟨R6, 1, none⟩) hb6 _).setCell (p := ⟨R6, 2, none⟩) hb6 _, cellsT_cell c 0, cellsT_cell c 1, cellsT_cell c 2⟩
  exact List.Sublist.cons _ (List.Sublist.cons_cons _ (List.Sublist.cons_cons _ (List.nil_sublist _)))
end
theorem prs_start (w0 : World) :
    Prs w0 w0.heap.size (w0.heap.size + 1) [(.slice (some ⟨w0.heap.size + 1 + 1, 0, none⟩) 2 2, pc 0 0)] (.slice (some ⟨w0.heap.size + 1 + 1 + 1, 0, none⟩) 1 1) [] (.slice none 0 0) [] (.slice none 0 0)
      ((((w0.alloc (.cells #[.int .i64 0, .slice none 0 0, .slice none 0 0] 115)).alloc (.cells #[.int .i64 0, .slice none 0 0, .slice none 0 0] 115)).alloc (.cells #[.int .i64 0, .int .i64 0] 3)).alloc (.cells #[.slice (some ⟨w0.heap.size + 1 + 1, 0, none⟩) 2 2] 113)) := by
  have A1 := (Apart.nil w0.heap.size w0).more (World.grownBy_alloc w0 _ none) (cellsT w0.heap.size #[.int .i64 0, .slice none 0 0, .slice none 0 0] 115) (heap_alloc_new w0 _) (Nat.le_refl _) (fun j e => by cases e; simp)
  have A2 := A1.more (World.grownBy_alloc _ (.cells #[.int .i64 0, .slice none 0 0, .slice none 0 0] 115) none) (cellsT (w0.heap.size + 1) #[.int .i64 0, .slice none 0 0, .slice none 0 0] 115) (by have := heap_alloc_new (w0.alloc (.cells #[.int .i64 0, .slice none 0 0, .slice none 0 0] 115)) (.cells #[.int .i64 0, .slice none 0 0, .slice none 0 0] 115); rw [World.size_alloc] at this; exact this) (by simp) (fun j e => by cases e; simp)
  have A3 := A2.more (World.grownBy_alloc _ (.cells #[.int .i64 0, .int .i64 0] 3) none) (inn2 (.slice (some ⟨w0.heap.size + 1 + 1, 0, none⟩) 2 2, pc 0 0)) (by
    have := World.ownsRow_lit (base := 0) (e := 3) (size := 1) ((w0.alloc (.cells #[.int .i64 0, .slice none 0 0, .slice none 0 0] 115)).alloc (.cells #[.int .i64 0, .slice none 0 0, .slice none 0 0] 115)) #[.int .i64 0, .int .i64 0] 2 (Nat.zero_le _) (by unfold maxLen; omega) rfl
    rw [World.size_alloc, World.size_alloc] at this; exact this) (by simp; omega) (fun j e => by cases e; simp)
  have A4 := A3.more (World.grownBy_alloc _ (.cells #[.slice (some ⟨w0.heap.size + 1 + 1, 0, none⟩) 2 2] 113) none) (rowT 113 1 (.slice (some ⟨w0.heap.size + 1 + 1 + 1, 0, none⟩) 1 1) 1 [.slice (some ⟨w0.heap.size + 1 + 1, 0, none⟩) 2 2]) (by
    have := World.ownsRow_lit (base := 0) (e := 113) (size := 1) (((w0.alloc (.cells #[.int .i64 0, .slice none 0 0, .slice none 0 0] 115)).alloc (.cells #[.int .i64 0, .slice none 0 0, .slice none 0 0] 115)).alloc (.cells #[.int .i64 0, .int .i64 0] 3)) #[.slice (some ⟨w0.heap.size + 1 + 1, 0, none⟩) 2 2] 1 (Nat.zero_le _) (by unfold maxLen; omega) rfl
    rw [World.size_alloc, World.size_alloc, World.size_alloc] at this; exact this) (by simp; omega) (fun j e => by cases e; simp)
  have A6 := (A4.idle (rowT 4 1 (.slice none 0 0) 0 []) (World.ownsRow_nil _ _ _ _) rfl).idle (rowT 3 1 (.slice none 0 0) 0 []) (World.ownsRow_nil _ _ _ _) rfl
  refine ⟨(((((Below.refl w0.heap.size w0).alloc (Nat.le_refl _) (.cells #[.int .i64 0, .slice none 0 0, .slice none 0 0] 115)).alloc (by simp) (.cells #[.int .i64 0, .slice none 0 0, .slice none 0 0] 115)).alloc (by simp; omega) (.cells #[.int .i64 0, .int .i64 0] 3)).alloc (by simp; omega) (.cells #[.slice (some ⟨w0.heap.size + 1 + 1, 0, none⟩) 2 2] 113)), A6.perm ?_⟩
  have p : ∀ (a b o i r7 r6 : Thing), [a, b, o, i, r7, r6].Perm [r7, a, b, o, r6, i] := fun a b o i r7 r6 => by
    have h1 : [a, b, o, i, r7, r6].Perm (r7 :: [a, b, o, i, r6]) := List.perm_middle (l₁ := [a, b, o, i]) (l₂ := [r6])
    exact h1.trans (((((List.Perm.swap r6 i []).cons o).cons b).cons a).cons r7)
  exact p _ _ _ _ _ _
end Go.Proofs.Ytlbblfbiiceofaa

namespace Go.Proofs.Ytlbblfbiiceofaa
open Go.RowKit

theorem endAt_neg (m : M) {s : Int} (h : s < 0) : m.endAt s = false := by rw [M.endAt, if_pos h]
/-- a machine and true -/
def PairNew (m : M) (w : World) (e : Ending) (w' : World) : Prop :=
  ∃ (a1 a2 : Option Addr) (c1 c2 : Nat), e = .returned (.tuple #[.agg #[.int .i64 m.st, .slice a1 m.next.length c1, .slice a2 m.ends.length c2], .bool true]) ∧
    Apart w.heap.size [rowT 3 1 (.slice a1 m.next.length c1) m.next.length (m.next.map (Value.int .i64)), rowT 4 1 (.slice a2 m.ends.length c2) m.ends.length (m.ends.map Value.bool)] w' ∧ Below w.heap.size w w'
theorem sOn_in {k : Nat} {A B : M} (hA : A.good) (hB : B.good) (hB4 : B.st ≤ 48) (x : Int) (hx : inP A B x) (l : Nat) (b : Int) (hl : l < 3) (h : sOn k A B x l = some b) : inP A B b := pOn_in hA hB hB4 x hx l b hl (sOn_some h)
end Go.Proofs.Ytlbblfbiiceofaa

namespace Go.Proofs.Ytlbblfbiiceofaa
open Go.RowKit

/-- a machine's box's cells -/
structure Tri (a : Nat) (ms : Int) (nv ev : Value) (W : World) : Prop where
  la : a < W.heap.size
  cs : W.cell? ⟨a, 0, none⟩ = some (.int .i64 ms) ∧ W.cell? ⟨a, 1, none⟩ = some nv ∧ W.cell? ⟨a, 2, none⟩ = some ev
theorem Tri.cells {a : Nat} {ms : Int} {nv ev : Value} {W : World} (h : Tri a ms nv ev W) : W.cell? ⟨a, 0, none⟩ = some (.int .i64 ms) ∧ W.cell? ⟨a, 1, none⟩ = some nv ∧ W.cell? ⟨a, 2, none⟩ = some ev := h.cs
theorem Tri.below {a : Nat} {ms : Int} {nv ev : Value} {W W' : World} (h : Tri a ms nv ev W) (hb : Below W.heap.size W W') : Tri a ms nv ev W' :=
  ⟨Nat.lt_of_lt_of_le h.la hb.size, (hb.cell (p := ⟨a, 0, none⟩) h.la).trans h.cs.1, (hb.cell (p := ⟨a, 1, none⟩) h.la).trans h.cs.2.1, (hb.cell (p := ⟨a, 2, none⟩) h.la).trans h.cs.2.2⟩
theorem Tri.alloc {a : Nat} {ms : Int} {nv ev : Value} {W : World} (h : Tri a ms nv ev W) (o : Obj) : Tri a ms nv ev (W.alloc o) := h.below ((Below.refl _ _).alloc (Nat.le_refl _) o)
theorem Tri.drew {a : Nat} {ms : Int} {nv ev : Value} {W : World} (h : Tri a ms nv ev W) : Tri a ms nv ev W.drew := h.below (Below.refl _ _).drew
theorem Tri.set {a : Nat} {ms : Int} {nv ev : Value} {W : World} (h : Tri a ms nv ev W) {c o : Nat} {v : Value} (h0 : ¬ (a = c)) : Tri a ms nv ev (W.setCell ⟨c, o, none⟩ v) := by
  obtain ⟨la, k0, k1, k2⟩ := h
  refine ⟨?_, ?_, ?_, ?_⟩ <;> go_simp
theorem MachBox.tri {a : Nat} {ms : Int} {nv ev : Value} {xs : List Int} {bs : List Bool} {W : World} (h : MachBox a ms nv xs ev bs W) : Tri a ms nv ev W := ⟨h.hB, h.c0, h.c1, h.c2⟩
/-- bools in a slice -/
def BxBools (X : List Bool) (V : World) (e : Ending) (w' : World) : Prop := ∃ (a : Option Addr) (n c : Nat), e = .returned (.slice a n c) ∧ IsBools w' (.slice a n c) X ∧ Below V.heap.size V w'
theorem BxBools.form {X : List Bool} {V w' : World} {e : Ending} (h : BxBools X V e w') : ∃ (a : Option Addr) (n c : Nat), e = .returned (.slice a n c) ∧ IsBools w' (.slice a n c) X ∧ Below V.heap.size V w' := h
theorem MachNew.rows {k : M} {w w' : World} {e : Ending} (h : MachNew k w e w') : ∃ a1 n1 c1 a2 n2 c2, e = .returned (.agg #[.int .i64 k.st, .slice a1 n1 c1, .slice a2 n2 c2]) ∧ Rws w.heap.size w'.heap.size k (.slice a1 n1 c1) (.slice a2 n2 c2) w' ∧ Below w.heap.size w w' := by
  obtain ⟨a1, a2, c1, c2, rfl, hA, hb⟩ := h
  exact ⟨a1, _, c1, a2, _, c2, rfl, ⟨Nat.le_refl _, hA.head, hA.tail.head, hA.lt, hA.tail.lt⟩, hb⟩
theorem IsBools.alloc {w : World} {v : Value} {xs : List Bool} (h : IsBools w v xs) (o : Obj) : IsBools (w.alloc o) v xs := h.below ((Below.refl _ _).alloc (Nat.le_refl _) o)
theorem IsInts.alloc {w : World} {v : Value} {xs : List Int} (h : IsInts w v xs) (o : Obj) : IsInts (w.alloc o) v xs := h.below ((Below.refl _ _).alloc (Nat.le_refl _) o)
/-- parts of states in a slice -/
def BxCls (T : M) (V : World) (e : Ending) (w' : World) : Prop := ∃ (a : Option Addr) (n c r : Nat) (cls : List Int), e = .returned (.slice a n c) ∧ IsInts w' (.slice a n c) cls ∧ still T T.ends.length r ∧ isPart T T.ends.length r cls ∧ Below V.heap.size V w'
theorem BxCls.form {T : M} {V w' : World} {e : Ending} (h : BxCls T V e w') : ∃ (a : Option Addr) (n c r : Nat) (cls : List Int), e = .returned (.slice a n c) ∧ IsInts w' (.slice a n c) cls ∧ still T T.ends.length r ∧ isPart T T.ends.length r cls ∧ Below V.heap.size V w' := h
/-- the least machine of a language, in memory of its own -/
def BxLm (f : List (Fin 3) → Bool) (V : World) (e : Ending) (w' : World) : Prop := ∃ L, IsLm f L ∧ L.st ≤ 4000 ∧ MachNew L V e w'
theorem BxLm.rows {f : List (Fin 3) → Bool} {w w' : World} {e : Ending} (h : BxLm f w e w') : ∃ L a1 n1 c1 a2 n2 c2, e = .returned (.agg #[.int .i64 L.st, .slice a1 n1 c1, .slice a2 n2 c2]) ∧ Rws w.heap.size w'.heap.size L (.slice a1 n1 c1) (.slice a2 n2 c2) w' ∧ (IsLm f L ∧ L.st ≤ 4000 ∧ n1 = L.next.length ∧ n2 = L.ends.length ∧ ∀ k, (Value.slice a1 n1 c1).ownBlock = some k → (Value.slice a2 n2 c2).ownBlock ≠ some k) ∧ Below w.heap.size w w' := by
  obtain ⟨L, h1, h2, a1, a2, c1, c2, rfl, hA, hb⟩ := h
  exact ⟨L, a1, _, c1, a2, _, c2, rfl, ⟨Nat.le_refl _, hA.head, hA.tail.head, hA.lt, hA.tail.lt⟩, ⟨h1, h2, rfl, rfl, fun k e => (List.pairwise_cons.1 hA.two).1 _ List.mem_cons_self k e⟩, hb⟩
theorem Rws.apart {B H : Nat} {K : M} {v u : Value} {W : World} (h : Rws B H K v u W) (hd : ∀ k, v.ownBlock = some k → u.ownBlock ≠ some k) : Apart B [rowT 3 1 v K.next.length (K.next.map (Value.int .i64)), rowT 4 1 u K.ends.length (K.ends.map Value.bool)] W := by
  have hl : ∀ k, (v.ownBlock = some k ∨ u.ownBlock = some k) → B ≤ k ∧ k < W.heap.size := by
    intro k hk
    have h3 := h.hH
    rcases hk with hk | hk
    · have := h.l1 k hk; omega
    · have := h.l2 k hk; omega
  refine ⟨?_, List.pairwise_cons.2 ⟨fun t ht k e => ?_, List.pairwise_cons.2 ⟨fun t ht => by simp at ht, .nil⟩⟩⟩
  · intro t ht
    simp only [List.mem_cons, List.not_mem_nil, or_false] at ht
    rcases ht with rfl | rfl
    · exact ⟨h.r1, fun k e => hl k (.inl e)⟩
    · exact ⟨h.r2, fun k e => hl k (.inr e)⟩
  · simp only [List.mem_cons, List.not_mem_nil, or_false] at ht
    subst ht
    exact hd k e
theorem Rws.ex1 {H : Nat} {K : M} {v u : Value} {w4 W : World} {o : Obj} (h : Rws (w4.alloc o).heap.size H K v u W) : ∃ B, B = w4.heap.size + 1 ∧ Rws B H K v u W := ⟨_, rfl, h.one'⟩
theorem Rws.ex0 {B H : Nat} {K : M} {v u : Value} {W : World} (h : Rws B H K v u W) : ∃ C, C = B ∧ Rws C H K v u W := ⟨_, rfl, h⟩
end Go.Proofs.Ytlbblfbiiceofaa

namespace Go.Proofs.Ytlbblfbiiceofaa
open Go.RowKit Go.Maps

def arr2 (c : Int) : Value := .agg #[.int .i64 (p1 c), .int .i64 (p2 c)]
def key2 (c : Int) : Lit := .string (keyBytes [.int .i64 (p1 c), .int .i64 (p2 c)])
def wf2 (c : Int) : Prop := (Lit.int .i64 (p1 c)).wf = true ∧ (Lit.int .i64 (p2 c)).wf = true
/-- the cells of pairs, one after the other -/
def prs (q : List Int) : List Value := q.flatMap (fun c => [.int .i64 (p1 c), .int .i64 (p2 c)])
end Go.Proofs.Ytlbblfbiiceofaa
