/- The reader of drawn inputs: what one draw gives, for every code. How a slice of integers that came in lies in memory: what the walks are told of it. No condition. The drawing functions of chapter 1: what they return lies within bounds, and nothing that was there is written. Rows that a drawing call owns, by their places in a list, beside the code that is read. No condition. Drawn machines: within bounds, in memory of their own. No condition. -/
import Derived.Test.YtjdeahdngpccpaaCkA
import Derived.WalkSmall
import Derived.WalkKit
import Derived.Test.YtjdeahdngpccpaaQueue
import Derived.Test.YtjdeahdngpccpaaApart
import Derived.Test.YtjdeahdngpccpaaMach
import Derived.Deep.RegionLaw
import Derived.Deep.AppendLies

namespace Go.Proofs.Ytjdeahdngpccpaa
open Go.RowKit

/-- all blocks but one are as they were; there may be new ones -/
structure KeepsBut (R : Nat) (w w' : World) : Prop where
  os : w'.os = w.os
  tape : w'.tape = w.tape
  output : w'.output = w.output
  size : w.heap.size ≤ w'.heap.size
  block : ∀ k, k < w.heap.size → k ≠ R → w'.heap[k]? = w.heap[k]?
theorem KeepsBut.refl (R : Nat) (w : World) : KeepsBut R w w := ⟨rfl, rfl, rfl, Nat.le_refl _, fun _ _ _ => rfl⟩
theorem KeepsBut.trans {R : Nat} {a b c : World} (h : KeepsBut R a b) (k : KeepsBut R b c) : KeepsBut R a c :=
  ⟨k.os.trans h.os, k.tape.trans h.tape, k.output.trans h.output, Nat.le_trans h.size k.size, fun i hi hr => (k.block i (Nat.lt_of_lt_of_le hi h.size) hr).trans (h.block i hi hr)⟩
theorem KeepsBut.of_below {R : Nat} {w w' : World} (h : Below w.heap.size w w') : KeepsBut R w w' := ⟨h.os, h.tape, h.output, h.size, fun k hk _ => h.block k hk⟩
theorem KeepsBut.below {B R : Nat} {w w' : World} (h : KeepsBut R w w') (hB : B ≤ R) (hs : B ≤ w.heap.size) : Below B w w' :=
  ⟨h.os, h.tape, h.output, h.size, fun k hk => h.block k (by omega) (by omega)⟩
theorem KeepsBut.cell {R : Nat} {w w' : World} (h : KeepsBut R w w') {p : Addr} (hp : p.block < w.heap.size) (hr : p.block ≠ R) : w'.cell? p = w.cell? p := World.cell?_of_block (w := w) (h.block p.block hp hr)
theorem KeepsBut.frozen {R : Nat} {w w' : World} (h : KeepsBut R w w') {p : Addr} (hp : p.block < w.heap.size) (hr : p.block ≠ R) : w'.frozen? p = w.frozen? p := World.frozen?_of_block (w := w) (h.block p.block hp hr)
theorem KeepsBut.setCell {R : Nat} {a w : World} (h : KeepsBut R a w) (i : Nat) (u : Value) : KeepsBut R a (w.setCell ⟨R, i, none⟩ u) :=
  h.trans ⟨rfl, rfl, rfl, by simp, fun k _ hr => Below.heap_setCell w ⟨R, i, none⟩ u k hr⟩
theorem KeepsBut.drewN {R : Nat} {a w : World} (h : KeepsBut R a w) (n : Nat) : KeepsBut R a (w.drewN n) := h.trans ⟨rfl, rfl, rfl, Nat.le_refl _, fun _ _ _ => rfl⟩
theorem KeepsBut.alloc {R : Nat} {a w : World} (h : KeepsBut R a w) (o : Obj) : KeepsBut R a (w.alloc o) := h.trans (KeepsBut.of_below ((Below.refl _ _).alloc (Nat.le_refl _) o))

/-- block R is a reader over a row of bytes below B, k draws on -/
structure RdAt (B R : Nat) (a : Option Addr) (len cap k : Nat) (w : World) : Prop where
  hB : B ≤ R
  hR : R < w.heap.size
  c0 : w.cell? ⟨R, 0, none⟩ = some (.slice a len cap)
  c1 : w.cell? ⟨R, 1, none⟩ = some (.int .i64 (k : Int))
  f1 : w.frozen? ⟨R, 1, none⟩ = false
  hlen : len ≤ 2000
  row : len = 0 ∨ ∃ (b off : Nat) (z : Nat → Nat), a = some ⟨b, off, none⟩ ∧ b < B ∧ ∀ i, i < len → z i < 256 ∧ w.cell? ⟨b, off + i, none⟩ = some (.int .u8 (z i : Int))

theorem RdAt.keeps {B R : Nat} {a : Option Addr} {len cap k : Nat} {w w' : World} (h : RdAt B R a len cap k w) (hw : Below w.heap.size w w') : RdAt B R a len cap k w' :=
  ⟨h.hB, Nat.lt_of_lt_of_le h.hR hw.size, (hw.cell (p := ⟨R, 0, none⟩) h.hR).trans h.c0, (hw.cell (p := ⟨R, 1, none⟩) h.hR).trans h.c1, (hw.frozen (p := ⟨R, 1, none⟩) h.hR).trans h.f1, h.hlen,
    h.row.imp id (fun ⟨b, off, z, ha, hb, hz⟩ => ⟨b, off, z, ha, hb, fun i hi => ⟨(hz i hi).1, (hw.cell (p := ⟨b, off + i, none⟩) (by have h1 := h.hB; have h2 := h.hR; show b < _; omega)).trans (hz i hi).2⟩⟩)⟩
theorem RdAt.drewN {B R : Nat} {a : Option Addr} {len cap k : Nat} {w : World} (h : RdAt B R a len cap k w) (n : Nat) : RdAt B R a len cap k (w.drewN n) := h.keeps (below_drewN (Below.refl _ _) n)
theorem RdAt.step {B R : Nat} {a : Option Addr} {len cap k : Nat} {w : World} (h : RdAt B R a len cap k w) : RdAt B R a len cap (k + 1) (w.setCell ⟨R, 1, none⟩ (.int .i64 ((k : Int) + 1))) := by
  have hk : KeepsBut R w (w.setCell ⟨R, 1, none⟩ (.int .i64 ((k : Int) + 1))) := (KeepsBut.refl R w).setCell 1 _
  refine ⟨h.hB, by simpa using h.hR, ?_, ?_, ?_, h.hlen, ?_⟩
  · rw [World.cell?_setCell_other _ _ _ _ (by simp)]; exact h.c0
  · rw [World.cell?_setCell_same' _ _ _ (by rw [h.c1]; rfl)]; simp
  · rw [World.frozen?_setCell]; exact h.f1
  · refine h.row.imp id (fun ⟨b, off, z, ha, hb, hz⟩ => ⟨b, off, z, ha, hb, fun i hi => ⟨(hz i hi).1, ?_⟩⟩)
    have h1 := h.hB
    have h2 := h.hR
    exact (hk.cell (p := ⟨b, off + i, none⟩) (by show b < _; omega) (by show b ≠ R; omega)).trans (hz i hi).2

theorem i64_xor_nat (a b : Nat) (ha : a < 1099511627776) (hb : b < 1099511627776) : bits .xor .i64 (a : Int) (b : Int) = ((a ^^^ b : Nat) : Int) := by
  have hx : a ^^^ b < 2 ^ 40 := Nat.xor_lt_two_pow (by omega) (by omega)
  show IntKind.i64.wrap ((BitVec.ofInt 64 (a : Int) ^^^ BitVec.ofInt 64 (b : Int)).toNat : Int) = _
  rw [BitVec.toNat_xor, ofInt_u64 a (by omega), ofInt_u64 b (by omega)]
  simp [IntKind.wrap, IntKind.bits, IntKind.signed]
  omega
theorem i64_xor_bd (x : Int) (h0 : 0 ≤ x) (h1 : x < 1099511627776) : 0 ≤ bits .xor .i64 x (x / 64) ∧ bits .xor .i64 x (x / 64) < 1099511627776 := by
  obtain ⟨X, rfl⟩ := Int.eq_ofNat_of_zero_le h0
  have e : ((X : Int) / 64) = ((X / 64 : Nat) : Int) := by omega
  have hx : X ^^^ X / 64 < 2 ^ 40 := Nat.xor_lt_two_pow (by omega) (by omega)
  rw [e, i64_xor_nat X (X / 64) (by omega) (by omega)]
  omega

/-- what a draw leaves -/
def PickPost (B R : Nat) (a : Option Addr) (len cap k : Nat) (n : Int) (w : World) (e : Ending) (w' : World) : Prop :=
  ∃ v : Int, e = .returned (.int .i64 v) ∧ 0 ≤ v ∧ (1 ≤ n → v < n) ∧ RdAt B R a len cap (k + 1) w' ∧ KeepsBut R w w'

set_option maxHeartbeats 800000 in
set_option maxRecDepth 100000 in
theorem pick_any (B R : Nat) (a : Option Addr) (len cap k : Nat) (n : Int) (w : World) (H : RdAt B R a len cap k w) (hk : k ≤ 1000000) (hn : -1000000000 ≤ n) (hn2 : n ≤ 1000000000) :
    Calls Try.prog 81 #[.pointer (some ⟨R, 0, none⟩), .int .i64 n] w (PickPost B R a len cap k n w) := by
  have c0 := H.c0
  have c1 := H.c1
  have f1 := H.f1
  have HH := Lib.hid H
  by_cases h1 : n < 1
  · clear H
    go_enter Try.func81, Try.ntmps81
    go_wp2
    go_ret
    exact ⟨0, rfl, by omega, by omega, HH.out.step, (KeepsBut.refl _ _).setCell 1 _⟩
  · have h1' : 1 ≤ n := by omega
    by_cases h0 : len = 0
    · have h0' : ((len : Int) == 0) = true := by simp [h0]
      clear H h0
      go_enter Try.func81, Try.ntmps81
      go_wp2
      go_ret
      exact ⟨0, rfl, by omega, by omega, HH.out.step, (KeepsBut.refl _ _).setCell 1 _⟩
    · have h0' : ((len : Int) == 0) = false := by simp; omega
      have hpos : 0 < len := by omega
      have hl2 := H.hlen
      obtain ⟨b, off, z, rfl, hb, hz⟩ := HH.out.step.row.resolve_left h0
      have hB := H.hB
      clear h0 H h1
      by_cases hlt : k < len
      · have hcell := (hz k hlt).2
        have hzk : (0 : Int) ≤ (z k : Int) := by omega
        have hzk2 : (z k : Int) < 256 := by have := (hz k hlt).1; omega
        have HZ := Lib.hid hz
        clear hz
        go_enter Try.func81, Try.ntmps81
        go_wp2
        go_ret
        exact ⟨(z k : Int) % n, rfl, Int.emod_nonneg _ (by omega), fun _ => Int.emod_lt_of_pos _ (by omega), HH.out.step, (KeepsBut.refl _ _).setCell 1 _⟩
      · have hm1 : k % len < len := Nat.mod_lt _ hpos
        have hm2 : (k * 7 + 3) % len < len := Nat.mod_lt _ hpos
        have hc1 := (hz _ hm1).2
        have hc2 := (hz _ hm2).2
        have hz1 : (z (k % len) : Int) < 256 := by have := (hz _ hm1).1; omega
        have hz2 : (z ((k * 7 + 3) % len) : Int) < 256 := by have := (hz _ hm2).1; omega
        have hi1 : (0 : Int) ≤ (k : Int) % (len : Int) := Int.emod_nonneg _ (by omega)
        have hi2 : (k : Int) % (len : Int) < len := Int.emod_lt_of_pos _ (by omega)
        have hj1 : (0 : Int) ≤ ((k : Int) * 7 + 3) % (len : Int) := Int.emod_nonneg _ (by omega)
        have hj2 : ((k : Int) * 7 + 3) % (len : Int) < len := Int.emod_lt_of_pos _ (by omega)
        have hq1 : (0 : Int) ≤ (k : Int) / (len : Int) := Int.ediv_nonneg (by omega) (by omega)
        have hq2 : (k : Int) / (len : Int) ≤ k := Int.ediv_le_self _ (by omega)
        have HZ := Lib.hid hz
        clear hz
        go_enter Try.func81, Try.ntmps81
        go_wp2
        go_quiet (fail)
        have hx1 : 0 ≤ (z (k % len) : Int) * 131 + (z ((k * 7 + 3) % len) : Int) * 1117 + (k : Int) * 29 + (k : Int) / (len : Int) * 53 := by omega
        have hx2 : (z (k % len) : Int) * 131 + (z ((k * 7 + 3) % len) : Int) * 1117 + (k : Int) * 29 + (k : Int) / (len : Int) * 53 < 1099511627776 := by omega
        generalize (z (k % len) : Int) * 131 + (z ((k * 7 + 3) % len) : Int) * 1117 + (k : Int) * 29 + (k : Int) / (len : Int) * 53 = x at *
        obtain ⟨hy1, hy2⟩ := i64_xor_bd x hx1 hx2
        clear hz1 hz2 hi1 hi2 hj1 hj2 hc1 hc2 hq1 hq2 HZ
        go_wp2
        go_ret
        exact ⟨bits .xor .i64 x (x / 64) % n, rfl, Int.emod_nonneg _ (by omega), fun _ => Int.emod_lt_of_pos _ (by omega), HH.out.step.drewN nq, ((KeepsBut.refl _ _).setCell 1 _).drewN nq⟩

/-- what 'odd' leaves -/
def OddPost (B R : Nat) (a : Option Addr) (len cap k : Nat) (w : World) (e : Ending) (w' : World) : Prop :=
  ∃ b : Bool, e = .returned (.bool b) ∧ RdAt B R a len cap (k + 1) w' ∧ KeepsBut R w w'

theorem odd_any (B R : Nat) (a : Option Addr) (len cap k : Nat) (n : Int) (w : World) (H : RdAt B R a len cap k w) (hk : k ≤ 1000000) (hn : 1 ≤ n) (hn2 : n ≤ 1000000000) :
    Calls Try.prog 116 #[.pointer (some ⟨R, 0, none⟩), .int .i64 n] w (OddPost B R a len cap k w) := by
  have hp : 0 < n := by omega
  have HC := Lib.hid (pick_any B R a len cap k n w H hk (by omega) hn2)
  clear H
  go_enter Try.func116, Try.ntmps116
  go_wp2_with fail
  refine HC.out.mono ?_
  rintro e w1 ⟨v, rfl, hv0, hv1, hR1, hK1⟩
  clear hv1
  by_cases hv : (v == n - 1) = true
  · go_wp2
    go_ret
    exact ⟨true, rfl, hR1, hK1⟩
  · have hv' : (v == n - 1) = false := by simpa using hv
    clear hv
    go_wp2
    go_ret
    exact ⟨false, rfl, hR1, hK1⟩

/-- what drawing a text leaves -/
def WordPost (B R : Nat) (a : Option Addr) (len cap k : Nat) (w : World) (e : Ending) (w' : World) : Prop :=
  ∃ s : ByteArray, e = .returned (.string s) ∧ s.size ≤ 23 ∧ ∃ k', k ≤ k' ∧ k' ≤ k + 20 ∧ RdAt B R a len cap k' w' ∧ KeepsBut R w w'

/-- one of three texts -/
theorem three_cells (w w1 : World) (x y z : ByteArray) (t : TypeId) (R : Nat) (hR : R < w.heap.size) (h : KeepsBut R (w.alloc (.cells #[.string x, .string y, .string z] t)) w1) (v : Int) (h0 : 0 ≤ v) (h3 : v < 3) :
    ∃ (j : Nat) (s : ByteArray), v = j ∧ j < 3 ∧ (s = x ∨ s = y ∨ s = z) ∧ w1.cell? ⟨w.heap.size, j, none⟩ = some (.string s) := by
  have hc : ∀ j, w1.cell? ⟨w.heap.size, j, none⟩ = (#[.string x, .string y, .string z] : Array Value)[j]? := fun j => by
    rw [h.cell (p := ⟨w.heap.size, j, none⟩) (by simp) (by show w.heap.size ≠ R; omega)]
    exact World.cell?_alloc_new w _ t j
  have : v = 0 ∨ v = 1 ∨ v = 2 := by omega
  rcases this with rfl | rfl | rfl
  · exact ⟨0, x, rfl, by omega, .inl rfl, hc 0⟩
  · exact ⟨1, y, rfl, by omega, .inr (.inl rfl), hc 1⟩
  · exact ⟨2, z, rfl, by omega, .inr (.inr rfl), hc 2⟩

set_option maxHeartbeats 800000 in
theorem l20Word_any (B R : Nat) (a : Option Addr) (len cap k : Nat) (n : Int) (w : World) (H : RdAt B R a len cap k w) (hk : k ≤ 900000) (hn : 1 ≤ n) (hn2 : n ≤ 1000) :
    Calls Try.prog 122 #[.pointer (some ⟨R, 0, none⟩), .int .i64 n] w (WordPost B R a len cap k w) := by
  have HC := Lib.hid (pick_any B R a len cap k 9 w H (by omega) (by omega) (by omega))
  clear H
  go_enter Try.func122, Try.ntmps122
  go_wp2_with fail
  refine HC.out.mono ?_
  clear HC
  rintro e w1 ⟨v, rfl, hv0, hv1, hR1, hK1⟩
  have hv9 : v < 9 := hv1 (by omega)
  clear hv1
  obtain ⟨m0, rfl⟩ := Int.eq_ofNat_of_zero_le hv0
  go_wp2_with fail
  go_loopw [5, 6, 7] (fun o l i wr => ∃ (m : Nat) (s t : ByteArray) (k' : Nat), o = .string s ∧ l = .string t ∧ i = .int .i64 m ∧ s.size + m ≤ 8 ∧ t.size ≤ 1 ∧ k ≤ k' ∧ k' + 2 * m ≤ k + 17 ∧ RdAt B R a len cap k' wr ∧ KeepsBut R w wr) (fun _ _ i _ => (intOf i).toNat)
  case atStart => exact ⟨m0, _, _, k + 1, rfl, rfl, rfl, by simp [ByteArray.size]; omega, Nat.le_refl 1, by omega, by omega, hR1, hK1⟩
  case round =>
    obtain ⟨m, s, t, k', rfl, rfl, rfl, hm, ht, hk1, hk2, hR, hK⟩ := hrel
    by_cases hm0 : 0 < m
    · go_wp2_with fail
      refine (pick_any B R a len cap k' 2 _ hR (by omega) (by omega) (by omega)).mono ?_
      rintro e w2 ⟨v2, rfl, hv20, hv21, hR2, hK2⟩
      clear hv21
      have hsz : s.size ≤ 8 := by omega
      by_cases hv : v2 = 0
      · have hv' : (v2 == 0) = true := by simp [hv]
        clear hv
        go_wp2_with fail
        have hR3 : RdAt B R a len cap (k' + 1) (w2.alloc (.cells #[.string ⟨#[114]⟩, .string ⟨#[100]⟩, .string ⟨#[110]⟩] 9)) := hR2.keeps ((Below.refl _ _).alloc (Nat.le_refl _) _)
        refine (pick_any B R a len cap (k' + 1) 3 _ hR3 (by omega) (by omega) (by omega)).mono ?_
        rintro e w3 ⟨v3, rfl, hv30, hv31, hR4, hK3⟩
        obtain ⟨j, s3, rfl, hj, hs3, hcell⟩ := three_cells _ _ _ _ _ _ R hR2.hR hK3 v3 hv30 (hv31 (by omega))
        have hs3' : s3.size ≤ 1 := by rcases hs3 with rfl | rfl | rfl <;> exact Nat.le_refl 1
        clear hv31 hs3
        go_wp2
        go_roundw
        case rel => exact ⟨m - 1, s ++ s3, s3, k' + 2, rfl, rfl, by rw [show ((m - 1 : Nat) : Int) = (m : Int) - 1 from by omega], by rw [ByteArray.size_append]; omega, hs3', by omega, by omega, hR4, hK.trans (hK2.trans ((KeepsBut.of_below ((Below.refl _ _).alloc (Nat.le_refl _) _)).trans hK3))⟩
        case measure => simp [intOf]; omega
      · have hv' : (v2 == 0) = false := by simpa using hv
        clear hv
        go_wp2
        go_roundw
        case rel => exact ⟨m - 1, s ++ t, t, k' + 1, rfl, rfl, by rw [show ((m - 1 : Nat) : Int) = (m : Int) - 1 from by omega], by rw [ByteArray.size_append]; omega, ht, by omega, by omega, hR2, hK.trans hK2⟩
        case measure => simp [intOf]; omega
    · obtain rfl : m = 0 := by omega
      have hsz : s.size ≤ 8 := by omega
      go_wp2_with fail
      refine (odd_any B R a len cap k' n _ hR (by omega) hn (by omega)).mono ?_
      rintro e w2 ⟨b, rfl, hR2, hK2⟩
      cases b with
      | false =>
        go_wp2
        go_ret
        exact ⟨s, rfl, by omega, k' + 1, by omega, by omega, hR2, hK.trans hK2⟩
      | true =>
        go_wp2_with fail
        have hR3 : RdAt B R a len cap (k' + 1) (w2.alloc (.cells #[.string ⟨#[120]⟩, .string ⟨#[114, 100, 110, 114, 100, 110, 114, 100, 110, 114, 100, 110, 114, 100, 110]⟩, .string ⟨#[82]⟩] 9)) := hR2.keeps ((Below.refl _ _).alloc (Nat.le_refl _) _)
        refine (pick_any B R a len cap (k' + 1) 3 _ hR3 (by omega) (by omega) (by omega)).mono ?_
        rintro e w3 ⟨v3, rfl, hv30, hv31, hR4, hK3⟩
        obtain ⟨j, s3, rfl, hj, hs3, hcell⟩ := three_cells _ _ _ _ _ _ R hR2.hR hK3 v3 hv30 (hv31 (by omega))
        have hs3' : s3.size ≤ 15 := by rcases hs3 with rfl | rfl | rfl <;> simp [ByteArray.size]
        clear hv31 hs3
        go_wp2
        go_ret
        exact ⟨s ++ s3, rfl, by rw [ByteArray.size_append]; omega, k' + 2, by omega, by omega, hR4, hK.trans (hK2.trans ((KeepsBut.of_below ((Below.refl _ _).alloc (Nat.le_refl _) _)).trans hK3))⟩

end Go.Proofs.Ytjdeahdngpccpaa

namespace Go.Proofs.Ytjdeahdngpccpaa
/-- nil; or a row of 'cap' cells, the numbers 'zs' (the first 'len' are the elements, the rest spare room), each of which fits its kind -/
def IsRow (k : IntKind) (w : World) (a : Option Addr) (len cap : Nat) (zs : List Int) : Prop :=
  (a = none ∧ len = 0 ∧ cap = 0 ∧ zs = []) ∨
  ∃ x, a = some x ∧ len ≤ cap ∧ cap ≤ maxLen ∧ zs.length = cap ∧ (∀ i, i < zs.length → w.cell? (x.add i) = some (.int k (zs.getD i 0))) ∧ ∀ n ∈ zs, (Lit.int k n).wf = true
end Go.Proofs.Ytjdeahdngpccpaa

namespace Go.Proofs.Ytjdeahdngpccpaa
open Go.RowKit

/-- what opening a code leaves -/
def OpenPost (w : World) (e : Ending) (w' : World) : Prop :=
  ∃ (a : Option Addr) (len cap : Nat), e = .returned (.pointer (some ⟨w.heap.size, 0, none⟩)) ∧ RdAt w.heap.size w.heap.size a len cap 0 w' ∧ Below w.heap.size w w'

theorem open_rd (w : World) (a : Option Addr) (len cap : Nat) (t : TypeId) (hl : len ≤ 2000)
    (hrow : len = 0 ∨ ∃ (b off : Nat) (z : Nat → Nat), a = some ⟨b, off, none⟩ ∧ b < w.heap.size ∧ ∀ i, i < len → z i < 256 ∧ w.cell? ⟨b, off + i, none⟩ = some (.int .u8 (z i : Int))) :
    RdAt w.heap.size w.heap.size a len cap 0 (w.alloc (.cells #[.slice a len cap, .int .i64 0] t)) := by
  refine ⟨Nat.le_refl _, by simp, ?_, ?_, ?_, hl, hrow.imp id (fun ⟨b, off, z, ha, hb, hz⟩ => ⟨b, off, z, ha, hb, fun i hi => ⟨(hz i hi).1, ?_⟩⟩)⟩
  · exact World.cell?_alloc_new w _ t 0
  · exact World.cell?_alloc_new w _ t 1
  · exact World.frozen?_alloc_new w _ t 1
  · exact (World.cell?_alloc_lt w _ ⟨b, off + i, none⟩ hb).trans (hz i hi).2

theorem row_bytes {w : World} {a : Option Addr} {len cap : Nat} {zs : List Int} (h : IsRow .u8 w a len cap zs) :
    len = 0 ∨ ∃ (b off : Nat) (z : Nat → Nat), a = some ⟨b, off, none⟩ ∧ b < w.heap.size ∧ ∀ i, i < len → z i < 256 ∧ w.cell? ⟨b, off + i, none⟩ = some (.int .u8 (z i : Int)) := by
  rcases h with ⟨_, h, _⟩ | ⟨x, rfl, hl, hm, hz, hcell, hwf⟩
  · exact .inl h
  · by_cases h0 : len = 0
    · exact .inl h0
    · obtain ⟨b, off, spot⟩ := x
      have hc := hcell 0 (by omega)
      have hspot : spot = none := by simpa [Addr.add] using World.cell?_spot hc
      subst hspot
      have hb : b < w.heap.size := by
        have := World.block_lt_of_cell? w ⟨b, off, none⟩ (u := .int .u8 (zs.getD 0 0)) (by simpa [Addr.add] using hc)
        exact this
      refine .inr ⟨b, off, fun i => (zs.getD i 0).toNat, rfl, hb, fun i hi => ?_⟩
      have hw := hwf (zs.getD i 0) (by
        have : i < zs.length := by omega
        rw [List.getD, List.getElem?_eq_getElem this]; exact List.getElem_mem _)
      have hw' : 0 ≤ zs.getD i 0 ∧ zs.getD i 0 ≤ 255 := by
        simp [Lit.wf, IntKind.min, IntKind.max, IntKind.signed, IntKind.bits] at hw
        simp only [List.getD]
        omega
      have hci := hcell i (by omega)
      rw [show (⟨b, off, none⟩ : Addr).add i = ⟨b, off + i, none⟩ from by unfold Addr.add; by_cases h : i = 0 <;> simp [h]] at hci
      refine ⟨by show (zs.getD i 0).toNat < 256; omega, ?_⟩
      rw [hci, Int.toNat_of_nonneg hw'.1]

theorem l20Open_any (a : Option Addr) (len cap : Nat) (zs : List Int) (w : World) (h : IsRow .u8 w a len cap zs) :
    Calls Try.prog 59 #[.slice a len cap] w (OpenPost w) := by
  have hrow := row_bytes h
  have hcap : len ≤ cap ∧ cap ≤ maxLen := by
    rcases h with ⟨_, rfl, rfl, _⟩ | ⟨x, _, h1, h2, _⟩
    · exact ⟨Nat.le_refl _, Nat.zero_le _⟩
    · exact ⟨h1, h2⟩
  obtain ⟨hc1, hc2⟩ := hcap
  unfold maxLen at hc2
  clear h
  by_cases hbig : 2000 < len
  · have hrow2 := hrow
    obtain ⟨b, off, z, rfl, hb, hz⟩ := hrow2.resolve_left (by omega)
    have H := Lib.hid (open_rd w (some ⟨b, off, none⟩) 2000 cap 115 (Nat.le_refl _) (.inr ⟨b, off, z, rfl, hb, fun i hi => hz i (by omega)⟩))
    clear hz hrow hrow2
    have hcp : 2000 ≤ cap := by omega
    go_enter Try.func59, Try.ntmps59
    go_wp2
    go_ret
    exact ⟨_, _, _, rfl, H.out, (Below.refl _ _).alloc (Nat.le_refl _) _⟩
  · have H := Lib.hid (open_rd w a len cap 115 (by omega) hrow)
    clear hrow
    go_enter Try.func59, Try.ntmps59
    go_wp2
    go_ret
    exact ⟨_, _, _, rfl, H.out, (Below.refl _ _).alloc (Nat.le_refl _) _⟩
end Go.Proofs.Ytjdeahdngpccpaa

namespace Go.Proofs.Ytjdeahdngpccpaa
open Go.RowKit

theorem KeepsBut.grownBy {R : Nat} {w w' : World} (h : KeepsBut R w w') : w.grownBy w' (some R) := ⟨h.os, h.tape, h.output, h.size, fun k hk hne => h.block k hk (fun e => hne (by rw [e]))⟩
theorem KeepsBut.grown {R : Nat} {a w w' : World} {row : Option Nat} (h : KeepsBut R a w) (hg : w.grownBy w' row) (hr : ∀ k, row = some k → a.heap.size ≤ k) : KeepsBut R a w' :=
  ⟨hg.os.trans h.os, hg.tape.trans h.tape, hg.output.trans h.output, Nat.le_trans h.size hg.size, fun k hk hR =>
    (hg.block k (Nat.lt_of_lt_of_le hk h.size) (fun e => by have := hr k e.symm; omega)).trans (h.block k hk hR)⟩
theorem RdAt.keepsR {B R : Nat} {a : Option Addr} {len cap k : Nat} {w w' : World} (h : RdAt B R a len cap k w) (hw : Below (R + 1) w w') : RdAt B R a len cap k w' :=
  ⟨h.hB, Nat.lt_of_lt_of_le h.hR hw.size, (hw.cell (p := ⟨R, 0, none⟩) (Nat.lt_succ_self R)).trans h.c0, (hw.cell (p := ⟨R, 1, none⟩) (Nat.lt_succ_self R)).trans h.c1, (hw.frozen (p := ⟨R, 1, none⟩) (Nat.lt_succ_self R)).trans h.f1, h.hlen,
    h.row.imp id (fun ⟨b, off, z, ha, hb, hz⟩ => ⟨b, off, z, ha, hb, fun i hi => ⟨(hz i hi).1, (hw.cell (p := ⟨b, off + i, none⟩) (by have h1 := h.hB; show b < _; omega)).trans (hz i hi).2⟩⟩)⟩
theorem RdAt.grown {B R : Nat} {a : Option Addr} {len cap k : Nat} {w w' : World} {row : Option Nat} (h : RdAt B R a len cap k w) (hg : w.grownBy w' row) (hr : ∀ k, row = some k → R < k) : RdAt B R a len cap k w' :=
  h.keepsR ((Below.refl _ _).grown hg h.hR (fun k e => hr k e))
structure OwR (B R : Nat) (a : Option Addr) (len cap : Nat) (w0 : World) (k : Nat) (ts : List Thing) (w : World) : Prop where
  rd : RdAt B R a len cap k w
  hR : R < w0.heap.size
  keep : KeepsBut R w0 w
  ap : Apart w0.heap.size ts w
section
variable {B R : Nat} {a : Option Addr} {len cap : Nat} {w0 : World} {k : Nat} {ts : List Thing} {w w' : World}
theorem OwR.start (h : RdAt B R a len cap k w) : OwR B R a len cap w k [] w := ⟨h, h.hR, KeepsBut.refl _ _, Apart.nil _ _⟩
theorem OwR.size (h : OwR B R a len cap w0 k ts w) : w0.heap.size ≤ w.heap.size := h.keep.size
theorem OwR.same (h : OwR B R a len cap w0 k ts w) (hg : w.grownBy w' none) : OwR B R a len cap w0 k ts w' := ⟨h.rd.grown hg (fun _ e => by cases e), h.hR, h.keep.grown hg (fun _ e => by cases e), h.ap.same hg⟩
theorem OwR.alloc (h : OwR B R a len cap w0 k ts w) (o : Obj) : OwR B R a len cap w0 k ts (w.alloc o) := h.same (World.grownBy_alloc w o none)
theorem OwR.drew (h : OwR B R a len cap w0 k ts w) : OwR B R a len cap w0 k ts w.drew := h.same (grown_drew w none)
theorem OwR.picked {k' : Nat} (h : OwR B R a len cap w0 k ts w) (hr : RdAt B R a len cap k' w') (hk : KeepsBut R w w') : OwR B R a len cap w0 k' ts w' :=
  ⟨hr, h.hR, h.keep.trans hk, h.ap.other hk.grownBy (fun k e => by cases e; exact h.hR)⟩
theorem OwR.sub (h : OwR B R a len cap w0 k ts w) {us : List Thing} (s : us.Sublist ts) : OwR B R a len cap w0 k us w := ⟨h.rd, h.hR, h.keep, h.ap.sub s⟩
theorem OwR.perm (h : OwR B R a len cap w0 k ts w) {us : List Thing} (s : ts.Perm us) : OwR B R a len cap w0 k us w := ⟨h.rd, h.hR, h.keep, h.ap.perm s⟩
theorem OwR.row (h : OwR B R a len cap w0 k ts w) (i : Nat) (hi : i < ts.length) {e : TypeId} {sz : Nat} {v : Value} {n : Nat} {xs : List Value} (he : ts[i] = rowT e sz v n xs) : w.ownsRow 0 e sz v n xs := by
  have := h.ap.at i hi
  rw [he] at this; exact this
theorem OwR.lit (h : OwR B R a len cap w0 k ts w) (cs : Array Value) (e : TypeId) (n sz : Nat) (hs : cs.size = n * sz) (hm : n ≤ maxLen) : OwR B R a len cap w0 k (rowT e sz (.slice (some ⟨w.heap.size, 0, none⟩) n n) n cs.toList :: ts) (w.alloc (.cells cs e)) :=
  have h1 := h.alloc (.cells cs e)
  ⟨h1.rd, h1.hR, h1.keep, h.ap.more (World.grownBy_alloc w _ none) _ (World.ownsRow_lit (base := 0) w cs n (Nat.zero_le _) hm hs) h.size (fun j e => by cases e; simp)⟩
theorem OwR.turn {i g cp n n' sz : Nat} {e : TypeId} {v : Value} {xs xs' : List Value} {w1 : World} (h : OwR B R a len cap w0 k ts w) (hi : i < ts.length) (he : ts[i] = rowT e sz v n xs) (hg : w.grownBy w1 v.ownBlock)
    (ho : w1.ownsRow 0 e sz (.slice (some ⟨g, 0, none⟩) n' cp) n' xs') (hat : v.ownBlock = some g ∨ g = w.heap.size) :
    OwR B R a len cap w0 k (ts.set i (rowT e sz (.slice (some ⟨g, 0, none⟩) n' cp) n' xs')) w1 := by
  have hlt := h.ap.ltAt i hi
  rw [he] at hlt
  have hR := h.hR
  exact ⟨h.rd.grown hg (fun j e => by have := (hlt j e).1; omega), h.hR, h.keep.grown hg (fun j e => (hlt j e).1), h.ap.turnAt i hi (by rw [he]; exact hg) _ ho h.size
    (fun j e => ⟨by rw [he]; cases e; exact hat.imp id (fun e => Nat.le_of_eq e.symm), (World.ownsRow.lt ho j e).2⟩)⟩
theorem OwR.store {i g c n sz : Nat} {e : TypeId} {xs : List Value} (h : OwR B R a len cap w0 k ts w) (hi : i < ts.length) (he : ts[i] = rowT e sz (.slice (some ⟨g, 0, none⟩) n c) n xs) (j : Nat) (u : Value) :
    OwR B R a len cap w0 k (ts.set i (rowT e sz (.slice (some ⟨g, 0, none⟩) n c) n (xs.set j u))) (w.setCell ⟨g, j, none⟩ u) := by
  have hlt := (h.ap.ltAt i hi) g (by rw [he]; rfl)
  have ho := (World.ownsRow.stored (h.row i hi he) j u).1
  exact h.turn hi he (grown_setCell w g j u) ho (.inl rfl)
end
end Go.Proofs.Ytjdeahdngpccpaa

namespace Go.Proofs.Ytjdeahdngpccpaa
open Go.RowKit

theorem ownsRow_sliceD {w : World} {b : Nat} {e : TypeId} {size : Nat} {v : Value} {n : Nat} {xs : List Value} (h : w.ownsRow b e size v n xs) : ∃ a c, v = .slice a n c := by
  rcases h.2 with ⟨rfl, rfl⟩ | ⟨g, cap, _, rfl, _⟩
  · exact ⟨_, _, rfl⟩
  · exact ⟨_, _, rfl⟩

/-- a machine that is being drawn -/
structure Drawing (B R : Nat) (a : Option Addr) (len cap : Nat) (w0 : World) (B0 B1 k : Nat) (st : Int) (nv : Value) (xs : List Int) (ev : Value) (bs : List Bool) (w : World) : Prop where
  rd : RdAt B R a len cap k w
  hR : R < w0.heap.size
  keep : KeepsBut R w0 w
  ap : Apart w0.heap.size [cellsT B1 #[.int .i64 st, nv, ev] 26, rowT 3 1 nv xs.length (xs.map (Value.int .i64)), rowT 4 1 ev bs.length (bs.map Value.bool), cellsT B0 #[.int .i64 0, .slice none 0 0, .slice none 0 0] 26] w

section
variable {B R : Nat} {a : Option Addr} {len cap : Nat} {w0 : World} {B0 B1 k : Nat} {st : Int} {nv : Value} {xs : List Int} {ev : Value} {bs : List Bool} {w w' : World}
theorem Drawing.cell (h : Drawing B R a len cap w0 B0 B1 k st nv xs ev bs w) : w.cell? ⟨B1, 0, none⟩ = some (.int .i64 st) ∧ w.cell? ⟨B1, 1, none⟩ = some nv ∧ w.cell? ⟨B1, 2, none⟩ = some ev :=
  ⟨cellsT_cell h.ap.head 0, cellsT_cell h.ap.head 1, cellsT_cell h.ap.head 2⟩
theorem Drawing.same (h : Drawing B R a len cap w0 B0 B1 k st nv xs ev bs w) (hg : w.grownBy w' none) : Drawing B R a len cap w0 B0 B1 k st nv xs ev bs w' :=
  ⟨h.rd.grown hg (fun _ e => by cases e), h.hR, h.keep.grown hg (fun _ e => by cases e), h.ap.same hg⟩
theorem Drawing.picked {k' : Nat} (h : Drawing B R a len cap w0 B0 B1 k st nv xs ev bs w) (hr : RdAt B R a len cap k' w') (hk : KeepsBut R w w') : Drawing B R a len cap w0 B0 B1 k' st nv xs ev bs w' :=
  ⟨hr, h.hR, h.keep.trans hk, h.ap.other hk.grownBy (fun k e => by cases e; exact h.hR)⟩
theorem Drawing.rowN (h : Drawing B R a len cap w0 B0 B1 k st nv xs ev bs w) : w.ownsRow 0 3 1 nv xs.length (xs.map (Value.int .i64)) := h.ap.tail.head
theorem Drawing.rowE (h : Drawing B R a len cap w0 B0 B1 k st nv xs ev bs w) : w.ownsRow 0 4 1 ev bs.length (bs.map Value.bool) := h.ap.tail.tail.head
theorem Drawing.size (h : Drawing B R a len cap w0 B0 B1 k st nv xs ev bs w) : w0.heap.size ≤ w.heap.size := h.keep.size
/-- one number more -/
theorem Drawing.next {x : Int} {t : TypeId} {g cp : Nat} {w1 : World} (h : Drawing B R a len cap w0 B0 B1 k st nv xs ev bs w) (hg : (w.alloc (.cells #[.int .i64 x] t)).grownBy w1 nv.ownBlock)
    (ho : w1.ownsRow 0 3 1 (.slice (some ⟨g, 0, none⟩) (xs.length + 1) cp) (xs.length + 1) (xs.map (Value.int .i64) ++ [.int .i64 x])) (hat : nv.ownBlock = some g ∨ g = (w.alloc (.cells #[.int .i64 x] t)).heap.size) :
    Drawing B R a len cap w0 B0 B1 k st (.slice (some ⟨g, 0, none⟩) (xs.length + 1) cp) (xs ++ [x]) ev bs (w1.setCell ⟨B1, 1, none⟩ (.slice (some ⟨g, 0, none⟩) (xs.length + 1) cp)) ∧ w1.cell? ⟨B1, 1, none⟩ = some nv ∧ w1.frozen? ⟨B1, 1, none⟩ = false := by
  have h1 := h.same (World.grownBy_alloc w (.cells #[.int .i64 x] t) none)
  have hs := h1.size
  have hlt := h1.ap.tail.lt
  have ho' : (rowT 3 1 (.slice (some ⟨g, 0, none⟩) (xs.length + 1) cp) (xs ++ [x]).length ((xs ++ [x]).map (Value.int .i64))).says w1 := by
    show w1.ownsRow 0 _ _ _ _ _
    rw [List.length_append, List.map_append]; exact ho
  have a1 := (h1.ap.perm (List.Perm.swap _ _ _)).turn hg (rowT 3 1 (.slice (some ⟨g, 0, none⟩) (xs.length + 1) cp) (xs ++ [x]).length ((xs ++ [x]).map (Value.int .i64))) ho' hs (fun j e => by
    refine ⟨?_, (World.ownsRow.lt ho j e).2⟩
    cases e
    rcases hat with q | q
    · exact .inl q
    · exact .inr (Nat.le_of_eq q.symm))
  have hs1 : w0.heap.size ≤ w1.heap.size := Nat.le_trans hs hg.size
  have a2 := a1.perm (List.Perm.swap _ _ _)
  have hb1 := (a2.lt B1 rfl).1
  refine ⟨⟨?_, h.hR, ?_, ?_⟩, cellsT_cell a2.head 1, cellsT_frozen a2.head 1⟩
  · exact (h1.rd.grown hg (fun j e => by have := (hlt j e).1; have := h.hR; omega)).grown (grown_setCell _ _ _ _) (fun j e => by cases e; have := h.hR; omega)
  · exact (h1.keep.grown hg (fun j e => (hlt j e).1)).grown (grown_setCell _ _ _ _) (fun j e => by cases e; exact hb1)
  · exact a2.set hs1 1 (.slice (some ⟨g, 0, none⟩) (xs.length + 1) cp)
/-- one end more -/
theorem Drawing.nextE {x : Bool} {t : TypeId} {g cp : Nat} {w1 : World} (h : Drawing B R a len cap w0 B0 B1 k st nv xs ev bs w) (hg : (w.alloc (.cells #[.bool x] t)).grownBy w1 ev.ownBlock)
    (ho : w1.ownsRow 0 4 1 (.slice (some ⟨g, 0, none⟩) (bs.length + 1) cp) (bs.length + 1) (bs.map Value.bool ++ [.bool x])) (hat : ev.ownBlock = some g ∨ g = (w.alloc (.cells #[.bool x] t)).heap.size) :
    Drawing B R a len cap w0 B0 B1 k st nv xs (.slice (some ⟨g, 0, none⟩) (bs.length + 1) cp) (bs ++ [x]) (w1.setCell ⟨B1, 2, none⟩ (.slice (some ⟨g, 0, none⟩) (bs.length + 1) cp)) ∧ w1.cell? ⟨B1, 2, none⟩ = some ev ∧ w1.frozen? ⟨B1, 2, none⟩ = false := by
  have h1 := h.same (World.grownBy_alloc w (.cells #[.bool x] t) none)
  have hs := h1.size
  have hlt := h1.ap.tail.tail.lt
  have ho' : (rowT 4 1 (.slice (some ⟨g, 0, none⟩) (bs.length + 1) cp) (bs ++ [x]).length ((bs ++ [x]).map Value.bool)).says w1 := by
    show w1.ownsRow 0 _ _ _ _ _
    rw [List.length_append, List.map_append]; exact ho
  have p : ∀ (u v x y : Thing), [u, v, x, y].Perm [x, u, v, y] := fun u v x y => (List.Perm.cons u (List.Perm.swap x v [y])).trans (List.Perm.swap x u [v, y])
  have a1 := (h1.ap.perm (p _ _ _ _)).turn hg (rowT 4 1 (.slice (some ⟨g, 0, none⟩) (bs.length + 1) cp) (bs ++ [x]).length ((bs ++ [x]).map Value.bool)) ho' hs (fun j e => by
    refine ⟨?_, (World.ownsRow.lt ho j e).2⟩
    cases e
    rcases hat with q | q
    · exact .inl q
    · exact .inr (Nat.le_of_eq q.symm))
  have hs1 : w0.heap.size ≤ w1.heap.size := Nat.le_trans hs hg.size
  have a2 := a1.perm (p _ _ _ _).symm
  have a2 := a1.perm (((List.Perm.swap _ _ _).trans (List.Perm.cons _ (List.Perm.swap _ _ _))))
  have hb1 := (a2.lt B1 rfl).1
  refine ⟨⟨?_, h.hR, ?_, ?_⟩, cellsT_cell a2.head 2, cellsT_frozen a2.head 2⟩
  · exact (h1.rd.grown hg (fun j e => by have := (hlt j e).1; have := h.hR; omega)).grown (grown_setCell _ _ _ _) (fun j e => by cases e; have := h.hR; omega)
  · exact (h1.keep.grown hg (fun j e => (hlt j e).1)).grown (grown_setCell _ _ _ _) (fun j e => by cases e; exact hb1)
  · exact a2.set hs1 2 (.slice (some ⟨g, 0, none⟩) (bs.length + 1) cp)
/-- the cells of the result -/
theorem Drawing.cell0 (h : Drawing B R a len cap w0 B0 B1 k st nv xs ev bs w) : (cellsT B0 #[.int .i64 0, .slice none 0 0, .slice none 0 0] 26).says w := h.ap.tail.tail.tail.head
/-- the number of states is turned -/
theorem Drawing.states (h : Drawing B R a len cap w0 B0 B1 k st nv xs ev bs w) (u : Int) : Drawing B R a len cap w0 B0 B1 k u nv xs ev bs (w.setCell ⟨B1, 0, none⟩ (.int .i64 u)) := by
  have hb1 := (h.ap.lt B1 rfl).1
  exact ⟨h.rd.grown (grown_setCell _ _ _ _) (fun j e => by cases e; have := h.hR; omega), h.hR, h.keep.grown (grown_setCell _ _ _ _) (fun j e => by cases e; exact hb1), h.ap.set h.size 0 _⟩
/-- the first number is turned -/
theorem Drawing.put {g cp : Nat} (h : Drawing B R a len cap w0 B0 B1 k st (.slice (some ⟨g, 0, none⟩) xs.length cp) xs ev bs w) (u : Int) : Drawing B R a len cap w0 B0 B1 k st (.slice (some ⟨g, 0, none⟩) xs.length cp) (xs.set 0 u) ev bs (w.setCell ⟨g, 0, none⟩ (.int .i64 u)) := by
  have a1 := h.ap.perm (List.Perm.swap _ _ _)
  have hg := (a1.lt g rfl).1
  have a2 := a1.setRow h.size 0 (.int .i64 u)
  rw [← List.map_set] at a2
  refine ⟨h.rd.grown (grown_setCell _ _ _ _) (fun j e => by cases e; have := h.hR; omega), h.hR, h.keep.grown (grown_setCell _ _ _ _) (fun j e => by cases e; exact hg), ?_⟩
  rw [List.length_set]
  exact a2.perm (List.Perm.swap _ _ _)
/-- the end: the result is laid down -/
theorem Drawing.done (h : Drawing B R a len cap w0 B0 B1 k st nv xs ev bs w) {x y z : Value} {W : World} (hW : W = ((w.setCell ⟨B0, 0, none⟩ x).setCell ⟨B0, 1, none⟩ y).setCell ⟨B0, 2, none⟩ z) :
    RdAt B R a len cap k W ∧ KeepsBut R w0 W ∧ Apart w0.heap.size [rowT 3 1 nv xs.length (xs.map (Value.int .i64)), rowT 4 1 ev bs.length (bs.map Value.bool)] W ∧
    W.cell? ⟨B0, 0, none⟩ = some x ∧ W.cell? ⟨B0, 1, none⟩ = some y ∧ W.cell? ⟨B0, 2, none⟩ = some z := by
  subst hW
  have p : ∀ (u v x y : Thing), [u, v, x, y].Perm [y, v, x, u] := fun u v x y => (((List.Perm.swap y x []).cons v).cons u).trans ((((List.Perm.swap y v [x]).cons u).trans (List.Perm.swap y u [v, x])).trans ((((List.Perm.swap v u [x])).trans ((List.Perm.swap x u []).cons v)).cons y))
  have a1 := h.ap.perm (p _ _ _ _)
  have hb := (a1.lt B0 rfl).1
  have a2 := ((a1.set h.size 0 x).set (by simpa using h.size) 1 y).set (by simpa using h.size) 2 z
  have hR := h.hR
  have hr : ∀ j, some B0 = some j → R < j := fun j e => by cases e; omega
  have hk : ∀ j, some B0 = some j → w0.heap.size ≤ j := fun j e => by cases e; exact hb
  refine ⟨((h.rd.grown (grown_setCell _ _ _ _) hr).grown (grown_setCell _ _ _ _) hr).grown (grown_setCell _ _ _ _) hr, ((h.keep.grown (grown_setCell _ _ _ _) hk).grown (grown_setCell _ _ _ _) hk).grown (grown_setCell _ _ _ _) hk, ?_, ?_, ?_, ?_⟩
  · have a3 := a2.tail
    exact ⟨fun t ht => a3.all t (by simp only [List.mem_cons] at ht ⊢; rcases ht with e | e | e; exact .inl e; exact .inr (.inl e); cases e), a3.two.sublist (by simp)⟩
  · exact cellsT_cell a2.head 0
  · exact cellsT_cell a2.head 1
  · exact cellsT_cell a2.head 2
end

/-- what drawing a machine leaves -/
def MachDrawn (B R : Nat) (a : Option Addr) (len cap k : Nat) (w : World) (e : Ending) (w' : World) : Prop :=
  ∃ (st : Int) (xs : List Int) (bs : List Bool) (nv ev : Value), e = .returned (.agg #[.int .i64 st, nv, ev]) ∧ 0 ≤ st ∧ st ≤ 5 ∧ xs.length ≤ 15 ∧ bs.length ≤ 6 ∧
    (∃ k', k ≤ k' ∧ k' ≤ k + 30 ∧ RdAt B R a len cap k' w') ∧ KeepsBut R w w' ∧ Apart w.heap.size [rowT 3 1 nv xs.length (xs.map (Value.int .i64)), rowT 4 1 ev bs.length (bs.map Value.bool)] w'

theorem infoIntD : (Try.prog.info? 3).map (fun i => (i.zero, i.size, i.bytes)) = some (some (.int .i64 0), 1, 8) := by kernel_rfl
theorem infoBoolD : (Try.prog.info? 4).map (fun i => (i.zero, i.size, i.bytes)) = some (some (.bool false), 1, 1) := by kernel_rfl

set_option maxHeartbeats 4000000 in
set_option maxRecDepth 100000 in
theorem l20Machine_any (B R : Nat) (a : Option Addr) (len cap k : Nat) (n : Int) (w : World) (H : RdAt B R a len cap k w) (hk : k ≤ 900000) (hn : 1 ≤ n) (hn2 : n ≤ 1000) :
    Calls Try.prog 58 #[.pointer (some ⟨R, 0, none⟩), .int .i64 n] w (MachDrawn B R a len cap k w) := by
  obtain ⟨i0, hi, hz0, hz1, hz2⟩ := info_parts infoIntD
  obtain ⟨j0, hj, hy0, hy1, hy2⟩ := info_parts infoBoolD
  have HI := Lib.hid (And.intro hi (And.intro hz0 (And.intro hz1 hz2)))
  have HJ := Lib.hid (And.intro hj (And.intro hy0 (And.intro hy1 hy2)))
  clear hi hz0 hz1 hz2 hj hy0 hy1 hy2
  have hRlt := H.hR
  have H1 := Lib.hid (H.grown (World.grownBy_alloc w (.cells #[.int .i64 0, .slice none 0 0, .slice none 0 0] 26) none) (fun _ e => by cases e))
  clear H
  go_enter Try.func58, Try.ntmps58
  go_wp2_with fail
  refine (pick_any B R a len cap k 5 _ H1.out (by omega) (by omega) (by omega)).mono ?_
  rintro e w1 ⟨v, rfl, hv0, hv1, hR1, hK1⟩
  have hv5 : v < 5 := hv1 (by omega)
  clear hv1
  go_wp2_with fail
  have D0 : Drawing B R a len cap w w.heap.size w1.heap.size (k + 1) (1 + v) (.slice none 0 0) [] (.slice none 0 0) [] (w1.alloc (.cells #[.int .i64 (1 + v), .slice none 0 0, .slice none 0 0] 26)) := by
    have hg0 := World.grownBy_alloc w (.cells #[.int .i64 0, .slice none 0 0, .slice none 0 0] 26) none
    have hg1 := World.grownBy_alloc w1 (.cells #[.int .i64 (1 + v), .slice none 0 0, .slice none 0 0] 26) none
    have hsz := hK1.size
    simp only [World.size_alloc] at hsz
    have A0 := (Apart.nil w.heap.size w).more hg0 (cellsT w.heap.size #[.int .i64 0, .slice none 0 0, .slice none 0 0] 26) (heap_alloc_new w _) (Nat.le_refl _) (fun j e => by cases e; simp)
    have A1 := A0.other hK1.grownBy (fun j e => by cases e; exact hRlt)
    have A2 := (A1.idle (rowT 4 1 (.slice none 0 0) 0 []) (World.ownsRow_nil _ _ _ _) rfl).idle (rowT 3 1 (.slice none 0 0) 0 []) (World.ownsRow_nil _ _ _ _) rfl
    have A3 := A2.more hg1 (cellsT w1.heap.size #[.int .i64 (1 + v), .slice none 0 0, .slice none 0 0] 26) (heap_alloc_new w1 _) (by omega) (fun j e => by cases e; simp)
    exact ⟨hR1.grown hg1 (fun _ e => by cases e), hRlt, (((KeepsBut.refl R w).alloc _).trans hK1).grown hg1 (fun _ e => by cases e), A3⟩
  have HD := Lib.hid D0
  clear D0 hR1 hK1
  obtain ⟨st, hst⟩ : ∃ st, st = 1 + v := ⟨_, rfl⟩
  rw [← hst] at HD ⊢
  have hst1 : 1 ≤ st := by omega
  have hst5 : st ≤ 5 := by omega
  clear hst hv0 hv5
  generalize w1.alloc (.cells #[.int .i64 st, .slice none 0 0, .slice none 0 0] 26) = W1 at HD ⊢
  generalize w1.heap.size = B1 at HD ⊢
  generalize hB0 : w.heap.size = B0 at *
  go_loopw [6] (fun i wr => ∃ (j : Nat) (nv : Value) (xs : List Int), i = .int .i64 j ∧ xs.length = j ∧ (j : Int) ≤ 3 * st ∧ Drawing B R a len cap w B0 B1 (k + 1 + j) st nv xs (.slice none 0 0) [] wr) (fun i _ => 15 - (intOf i).toNat)
  case atStart => exact ⟨0, _, [], rfl, rfl, by omega, HD.out⟩
  case round =>
    obtain ⟨j, nv, xs, rfl, hxl, hj, hD⟩ := hrel
    subst hxl
    have D1 := Lib.hid hD
    have y10 := hD.cell.1
    have y11 := hD.cell.2.1
    have y12 := hD.cell.2.2
    clear hD
    have hq0 : IntKind.i64.wrap (3 * st) = 3 * st := IntWalk.i64_in _ (by omega)
    have hq5 : IntKind.i64.wrap (st + 2) = st + 2 := IntWalk.i64_in _ (by omega)
    have hst0 : ¬ st = 0 := by omega
    by_cases hlt : (xs.length : Int) < 3 * st
    · go_wp2_with fail
      have Dd := Lib.hid (D1.out.same (grown_drew wr none))
      have z10 := Dd.out.cell.1
      have z11 := Dd.out.cell.2.1
      have z12 := Dd.out.cell.2.2
      clear y10 y11 y12
      go_region_law (first | (go_simp; go_at_call 81; (try rw [hq5]); refine (pick_any B R a len cap (k + 1 + xs.length) (st + 2) _ Dd.out.rd (by omega) (by omega) (by omega)).mono ?_; rintro e w2 ⟨v2, rfl, hv20, hv21, hR2, hK2⟩; have D2 := Lib.hid (Dd.out.picked hR2 hK2); have x10 := D2.out.cell.1; have x11 := D2.out.cell.2.1; have x12 := D2.out.cell.2.2; have x13 := fun x => (D2.out.same (World.grownBy_alloc w2 (.cells #[.int .i64 x] 3) none)).cell.2.1) | (refine step_append_lies _ rfl _ _ 23 rfl 0 3 i0 (.int .i64 0) 1 8 Try.underlying23 HI.out.1 HI.out.2.1 HI.out.2.2.1 HI.out.2.2.2 rfl (by decide) nv xs.length (xs.map (Value.int .i64)) rfl (D2.out.rowN.alloc _) ⟨w2.heap.size, 0, none⟩ 1 1 [.int .i64 _] rfl rfl (cell_one_new _ _ _) (by simp [Value.oneCell']) (by omega) (by unfold maxLen; omega) (by omega) (Nat.zero_le _) _ rfl ?_; intro g cp w3 hown hgrow hat hlt3; obtain ⟨D3, x31, f31⟩ := D2.out.next hgrow hown hat))
      all_goals
        clear z10 z11 z12 x10 x11 x12 x13
        go_wp2
        go_roundw
        case rel =>
          refine ⟨xs.length + 1, _, xs ++ [_], ?_, ?_, ?_, D3⟩
          · go_num
          · rw [List.length_append]; rfl
          · omega
        case measure => simp [intOf]; omega
    · have hj' : (xs.length : Int) = 3 * st := by omega
      go_wp2_with fail
      clear y10 y11 y12 hq0
      go_loopw [7] (fun i wr => ∃ (l k' : Nat) (ev : Value) (bs : List Bool), i = .int .i64 l ∧ bs.length = l ∧ (l : Int) ≤ st ∧ k' = k + 1 + xs.length + l ∧ Drawing B R a len cap w B0 B1 k' st nv xs ev bs wr) (fun i _ => 5 - (intOf i).toNat)
      case atStart => exact ⟨0, _, _, [], rfl, rfl, by omega, rfl, D1.out⟩
      case round =>
        obtain ⟨l, k', ev, bs, rfl, hbl, hl, hk', hD⟩ := hrel
        subst hbl
        have E1 := Lib.hid hD
        have y10 := hD.cell.1
        have y11 := hD.cell.2.1
        have y12 := hD.cell.2.2
        clear hD
        by_cases hlt2 : (bs.length : Int) < st
        · go_wp2_with fail
          have Dd := Lib.hid (E1.out.same (grown_drew _ none))
          have z10 := Dd.out.cell.1
          have z11 := Dd.out.cell.2.1
          have z12 := Dd.out.cell.2.2
          clear y10 y11 y12
          go_region_law (first | (go_simp; go_at_call 81; refine (pick_any B R a len cap k' 2 _ Dd.out.rd (by omega) (by omega) (by omega)).mono ?_; rintro e w2 ⟨v2, rfl, hv20, hv21, hR2, hK2⟩; have D2 := Lib.hid (Dd.out.picked hR2 hK2); have x10 := D2.out.cell.1; have x11 := D2.out.cell.2.1; have x12 := D2.out.cell.2.2; have x13 := fun x => (D2.out.same (World.grownBy_alloc w2 (.cells #[.bool x] 4) none)).cell.2.2) | (refine step_append_lies _ rfl _ _ 24 rfl 0 4 j0 (.bool false) 1 1 Try.underlying24 HJ.out.1 HJ.out.2.1 HJ.out.2.2.1 HJ.out.2.2.2 rfl (by decide) ev bs.length (bs.map Value.bool) rfl (D2.out.rowE.alloc _) ⟨w2.heap.size, 0, none⟩ 1 1 [.bool _] rfl rfl (cell_one_new _ _ _) (by simp [Value.oneCell']) (by omega) (by unfold maxLen; omega) (by omega) (Nat.zero_le _) _ rfl ?_; intro g cp w3 hown hgrow hat hlt3; obtain ⟨D3, x31, f31⟩ := D2.out.nextE hgrow hown hat))
          all_goals
            clear z10 z11 z12 x10 x11 x12 x13
            go_wp2
            go_roundw
            case rel =>
              refine ⟨bs.length + 1, k' + 1, _, bs ++ [_], ?_, ?_, ?_, ?_, D3⟩
              · go_num
              · rw [List.length_append]; rfl
              · omega
              · omega
            case measure => simp [intOf]; omega
        · go_wp2_with fail
          refine (odd_any B R a len cap k' n _ E1.out.rd (by omega) hn (by omega)).mono ?_
          rintro e w2 ⟨b, rfl, hR2, hK2⟩
          have D2 := Lib.hid (E1.out.picked hR2 hK2)
          have x10 := D2.out.cell.1
          have x11 := D2.out.cell.2.1
          have x12 := D2.out.cell.2.2
          clear y10 y11 y12
          cases b with
          | false =>
            obtain ⟨a1, c1, rfl⟩ := ownsRow_sliceD D2.out.rowN
            obtain ⟨a2, c2, rfl⟩ := ownsRow_sliceD D2.out.rowE
            have g00 : w2.cell? ⟨B0, 0, none⟩ = some (.int .i64 0) := cellsT_cell D2.out.cell0 0
            have g01 : w2.cell? ⟨B0, 1, none⟩ = some (.slice none 0 0) := cellsT_cell D2.out.cell0 1
            have g02 : w2.cell? ⟨B0, 2, none⟩ = some (.slice none 0 0) := cellsT_cell D2.out.cell0 2
            have f00 := cellsT_frozen D2.out.cell0 0
            have f01 := cellsT_frozen D2.out.cell0 1
            have f02 := cellsT_frozen D2.out.cell0 2
            go_wp2
            obtain ⟨r1, r2, r3, r4, r5, r6⟩ := D2.out.done rfl
            refine bodyPost_ret (v := .agg #[.int .i64 st, .slice a1 xs.length c1, .slice a2 bs.length c2]) ?_ rfl ⟨st, xs, bs, _, _, rfl, by omega, by omega, by omega, by omega, ⟨k' + 1, by omega, by omega, r1⟩, r2, hB0 ▸ r3⟩
            simp [results, Try.results58, go_sem, r4, r5, r6]
          | true =>
            go_wp2_with fail
            refine (pick_any B R a len cap (k' + 1) 3 _ D2.out.rd (by omega) (by omega) (by omega)).mono ?_
            rintro e w3 ⟨v3, rfl, hv30, hv31, hR3, hK3⟩
            have hv33 : v3 < 3 := hv31 (by omega)
            have D3 := Lib.hid (D2.out.picked hR3 hK3)
            clear x10 x11 x12 hv31
            by_cases e0 : v3 = 0
            · subst e0
              have D4 := D3.out.states 0
              obtain ⟨a1, c1, rfl⟩ := ownsRow_sliceD D3.out.rowN
              obtain ⟨a2, c2, rfl⟩ := ownsRow_sliceD D3.out.rowE
              have x10 := D3.out.cell.1
              have x1f := cellsT_frozen D3.out.ap.head 0
              have y10 := D4.cell.1
              have y11 := D4.cell.2.1
              have y12 := D4.cell.2.2
              have g00 : (w3.setCell ⟨B1, 0, none⟩ (.int .i64 0)).cell? ⟨B0, 0, none⟩ = some (.int .i64 0) := cellsT_cell D4.cell0 0
              have g01 : (w3.setCell ⟨B1, 0, none⟩ (.int .i64 0)).cell? ⟨B0, 1, none⟩ = some (.slice none 0 0) := cellsT_cell D4.cell0 1
              have g02 : (w3.setCell ⟨B1, 0, none⟩ (.int .i64 0)).cell? ⟨B0, 2, none⟩ = some (.slice none 0 0) := cellsT_cell D4.cell0 2
              have f00 := cellsT_frozen D4.cell0 0
              have f01 := cellsT_frozen D4.cell0 1
              have f02 := cellsT_frozen D4.cell0 2
              go_wp2
              obtain ⟨r1, r2, r3, r4, r5, r6⟩ := D4.done rfl
              refine bodyPost_ret (v := .agg #[.int .i64 0, .slice a1 xs.length c1, .slice a2 bs.length c2]) ?_ rfl ⟨0, xs, bs, _, _, rfl, by omega, by omega, by first | omega | (rw [List.length_set]; omega), by omega, ⟨k' + 2, by omega, by omega, r1⟩, r2, hB0 ▸ r3⟩
              simp [results, Try.results58, go_sem, r4, r5, r6]
            · by_cases e1 : v3 = 1
              · subst e1
                obtain ⟨g, c1, rfl, -, hglt⟩ := World.ownsRow.form (n := xs.length) D3.out.rowN (by omega)
                obtain ⟨a2, c2, rfl⟩ := ownsRow_sliceD D3.out.rowE
                have D4 := D3.out.put st
                have x10 := D3.out.cell.1
                have x11 := D3.out.cell.2.1
                have hx0 : 0 < xs.length := by omega
                have hcl := World.ownsRow.cellAt D3.out.rowN 0 (by omega)
                obtain ⟨d0, hd0⟩ : ∃ d0, w3.cell? ⟨g, 0, none⟩ = some (.int .i64 d0) := ⟨xs[0], by rw [hcl]; simp [hx0]⟩
                have hdf := World.ownsRow.frozenAt D3.out.rowN 0
                clear hcl
                have y10 := D4.cell.1
                have y11 := D4.cell.2.1
                have y12 := D4.cell.2.2
                have g00 : (w3.setCell ⟨g, 0, none⟩ (.int .i64 st)).cell? ⟨B0, 0, none⟩ = some (.int .i64 0) := cellsT_cell D4.cell0 0
                have g01 : (w3.setCell ⟨g, 0, none⟩ (.int .i64 st)).cell? ⟨B0, 1, none⟩ = some (.slice none 0 0) := cellsT_cell D4.cell0 1
                have g02 : (w3.setCell ⟨g, 0, none⟩ (.int .i64 st)).cell? ⟨B0, 2, none⟩ = some (.slice none 0 0) := cellsT_cell D4.cell0 2
                have f00 := cellsT_frozen D4.cell0 0
                have f01 := cellsT_frozen D4.cell0 1
                have f02 := cellsT_frozen D4.cell0 2
                go_wp2
                obtain ⟨r1, r2, r3, r4, r5, r6⟩ := D4.done rfl
                refine bodyPost_ret (v := .agg #[.int .i64 st, .slice (some ⟨g, 0, none⟩) xs.length c1, .slice a2 bs.length c2]) ?_ rfl ⟨st, xs.set 0 st, bs, _, _, rfl, by omega, by omega, by first | omega | (rw [List.length_set]; omega), by omega, ⟨k' + 2, by omega, by omega, r1⟩, r2, hB0 ▸ r3⟩
                simp [results, Try.results58, go_sem, r4, r5, r6]
              · have hv2 : v3 = 2 := by omega
                subst hv2
                obtain ⟨a1, c1, rfl⟩ := ownsRow_sliceD D3.out.rowN
                have x12 := D3.out.cell.2.2
                go_wp2_with (at_builtin; refine wpList_append_lies _ rfl _ _ 24 rfl 0 4 j0 (.bool false) 1 1 Try.underlying24 HJ.out.1 HJ.out.2.1 HJ.out.2.2.1 HJ.out.2.2.2 rfl (by decide) ev bs.length (bs.map Value.bool) rfl (D3.out.rowE.alloc _) ⟨w3.heap.size, 0, none⟩ 1 1 [.bool true] rfl rfl (cell_one_new _ _ _) (by simp [Value.oneCell']) (by omega) (by unfold maxLen; omega) (by omega) (Nat.zero_le _) _ rfl ?_; intro g cp w4 hown hgrow hat hlt3; obtain ⟨D4, x31, f31⟩ := D3.out.nextE hgrow hown hat; have y10 := D4.cell.1; have y11 := D4.cell.2.1; have y12 := D4.cell.2.2; have g00 : (w4.setCell ⟨B1, 2, none⟩ (.slice (some ⟨g, 0, none⟩) (bs.length + 1) cp)).cell? ⟨B0, 0, none⟩ = some (.int .i64 0) := cellsT_cell D4.cell0 0; have g01 : (w4.setCell ⟨B1, 2, none⟩ (.slice (some ⟨g, 0, none⟩) (bs.length + 1) cp)).cell? ⟨B0, 1, none⟩ = some (.slice none 0 0) := cellsT_cell D4.cell0 1; have g02 : (w4.setCell ⟨B1, 2, none⟩ (.slice (some ⟨g, 0, none⟩) (bs.length + 1) cp)).cell? ⟨B0, 2, none⟩ = some (.slice none 0 0) := cellsT_cell D4.cell0 2; have f00 := cellsT_frozen D4.cell0 0; have f01 := cellsT_frozen D4.cell0 1; have f02 := cellsT_frozen D4.cell0 2)
                obtain ⟨r1, r2, r3, r4, r5, r6⟩ := D4.done rfl
                refine bodyPost_ret (v := .agg #[.int .i64 st, .slice a1 xs.length c1, .slice (some ⟨g, 0, none⟩) (bs.length + 1) cp]) ?_ rfl ⟨st, xs, bs ++ [true], _, _, rfl, by omega, by omega, by omega, by rw [List.length_append]; simp; omega, ⟨k' + 2, by omega, by omega, r1⟩, r2, hB0 ▸ r3⟩
                simp [results, Try.results58, go_sem, r4, r5, r6]
end Go.Proofs.Ytjdeahdngpccpaa
