/- The reader of drawn inputs: what one draw gives, for every code. -/
import Derived.Test.YtggohgkjdnnndaaBack
import Derived.WalkSmall
namespace Go.Proofs.Ytggohgkjdnnndaa
open Go.RowKit

/-- all blocks but one are as they were; there may be new ones -/
structure KeepsBut (R : Nat) (w w' : World) : Prop where
  os : w'.os = w.os
  tape : w'.tape = w.tape
  output : w'.output = w.output
  size : w.heap.size ≤ w'.heap.size
  block : ∀ k, k < w.heap.size → k ≠ R → w'.heap[k]? = w.heap[k]?
theorem KeepsBut.refl (R : Nat) (w : World) : KeepsBut R w w := ⟨rfl, rfl, rfl, Nat.le_refl _, fun _ _ _ => rfl⟩
theorem KeepsBut.trans {R : Nat} {a b c : World} (h : KeepsBut R a b) (k : KeepsBut R b c) : KeepsBut R a c :=
  ⟨k.os.trans h.os, k.tape.trans h.tape, k.output.trans h.output, Nat.le_trans h.size k.size, fun i hi hr => (k.block i (Nat.lt_of_lt_of_le hi h.size) hr).trans (h.block i hi hr)⟩
theorem KeepsBut.of_below {R : Nat} {w w' : World} (h : Below w.heap.size w w') : KeepsBut R w w' := ⟨h.os, h.tape, h.output, h.size, fun k hk _ => h.block k hk⟩
theorem KeepsBut.below {B R : Nat} {w w' : World} (h : KeepsBut R w w') (hB : B ≤ R) (hs : B ≤ w.heap.size) : Below B w w' :=
  ⟨h.os, h.tape, h.output, h.size, fun k hk => h.block k (by omega) (by omega)⟩
theorem KeepsBut.cell {R : Nat} {w w' : World} (h : KeepsBut R w w') {p : Addr} (hp : p.block < w.heap.size) (hr : p.block ≠ R) : w'.cell? p = w.cell? p := World.cell?_of_block (w := w) (h.block p.block hp hr)
theorem KeepsBut.frozen {R : Nat} {w w' : World} (h : KeepsBut R w w') {p : Addr} (hp : p.block < w.heap.size) (hr : p.block ≠ R) : w'.frozen? p = w.frozen? p := World.frozen?_of_block (w := w) (h.block p.block hp hr)
theorem KeepsBut.setCell {R : Nat} {a w : World} (h : KeepsBut R a w) (i : Nat) (u : Value) : KeepsBut R a (w.setCell ⟨R, i, none⟩ u) :=
  h.trans ⟨rfl, rfl, rfl, by simp, fun k _ hr => Below.heap_setCell w ⟨R, i, none⟩ u k hr⟩
theorem KeepsBut.drewN {R : Nat} {a w : World} (h : KeepsBut R a w) (n : Nat) : KeepsBut R a (w.drewN n) := h.trans ⟨rfl, rfl, rfl, Nat.le_refl _, fun _ _ _ => rfl⟩
theorem KeepsBut.alloc {R : Nat} {a w : World} (h : KeepsBut R a w) (o : Obj) : KeepsBut R a (w.alloc o) := h.trans (KeepsBut.of_below ((Below.refl _ _).alloc (Nat.le_refl _) o))

/-- block R is a reader over a row of bytes below B, k draws on -/
structure RdAt (B R : Nat) (a : Option Addr) (len cap k : Nat) (w : World) : Prop where
  hB : B ≤ R
  hR : R < w.heap.size
  c0 : w.cell? ⟨R, 0, none⟩ = some (.slice a len cap)
  c1 : w.cell? ⟨R, 1, none⟩ = some (.int .i64 (k : Int))
  f1 : w.frozen? ⟨R, 1, none⟩ = false
  hlen : len ≤ 2000
  row : len = 0 ∨ ∃ (b off : Nat) (z : Nat → Nat), a = some ⟨b, off, none⟩ ∧ b < B ∧ ∀ i, i < len → z i < 256 ∧ w.cell? ⟨b, off + i, none⟩ = some (.int .u8 (z i : Int))

theorem RdAt.keeps {B R : Nat} {a : Option Addr} {len cap k : Nat} {w w' : World} (h : RdAt B R a len cap k w) (hw : Below w.heap.size w w') : RdAt B R a len cap k w' :=
  ⟨h.hB, Nat.lt_of_lt_of_le h.hR hw.size, (hw.cell (p := ⟨R, 0, none⟩) h.hR).trans h.c0, (hw.cell (p := ⟨R, 1, none⟩) h.hR).trans h.c1, (hw.frozen (p := ⟨R, 1, none⟩) h.hR).trans h.f1, h.hlen,
    h.row.imp id (fun ⟨b, off, z, ha, hb, hz⟩ => ⟨b, off, z, ha, hb, fun i hi => ⟨(hz i hi).1, (hw.cell (p := ⟨b, off + i, none⟩) (by have h1 := h.hB; have h2 := h.hR; show b < _; omega)).trans (hz i hi).2⟩⟩)⟩
theorem RdAt.drewN {B R : Nat} {a : Option Addr} {len cap k : Nat} {w : World} (h : RdAt B R a len cap k w) (n : Nat) : RdAt B R a len cap k (w.drewN n) := h.keeps (below_drewN (Below.refl _ _) n)
theorem RdAt.step {B R : Nat} {a : Option Addr} {len cap k : Nat} {w : World} (h : RdAt B R a len cap k w) : RdAt B R a len cap (k + 1) (w.setCell ⟨R, 1, none⟩ (.int .i64 ((k : Int) + 1))) := by
  have hk : KeepsBut R w (w.setCell ⟨R, 1, none⟩ (.int .i64 ((k : Int) + 1))) := (KeepsBut.refl R w).setCell 1 _
  refine ⟨h.hB, by simpa using h.hR, ?_, ?_, ?_, h.hlen, ?_⟩
  · rw [World.cell?_setCell_other _ _ _ _ (by simp)]; exact h.c0
  · rw [World.cell?_setCell_same' _ _ _ (by rw [h.c1]; rfl)]; simp
  · rw [World.frozen?_setCell]; exact h.f1
  · refine h.row.imp id (fun ⟨b, off, z, ha, hb, hz⟩ => ⟨b, off, z, ha, hb, fun i hi => ⟨(hz i hi).1, ?_⟩⟩)
    have h1 := h.hB
    have h2 := h.hR
    exact (hk.cell (p := ⟨b, off + i, none⟩) (by show b < _; omega) (by show b ≠ R; omega)).trans (hz i hi).2

theorem i64_xor_nat (a b : Nat) (ha : a < 1099511627776) (hb : b < 1099511627776) : bits .xor .i64 (a : Int) (b : Int) = ((a ^^^ b : Nat) : Int) := by
  have hx : a ^^^ b < 2 ^ 40 := Nat.xor_lt_two_pow (by omega) (by omega)
  show IntKind.i64.wrap ((BitVec.ofInt 64 (a : Int) ^^^ BitVec.ofInt 64 (b : Int)).toNat : Int) = _
  rw [BitVec.toNat_xor, ofInt_u64 a (by omega), ofInt_u64 b (by omega)]
  simp [IntKind.wrap, IntKind.bits, IntKind.signed]
  omega
theorem i64_xor_bd (x : Int) (h0 : 0 ≤ x) (h1 : x < 1099511627776) : 0 ≤ bits .xor .i64 x (x / 64) ∧ bits .xor .i64 x (x / 64) < 1099511627776 := by
  obtain ⟨X, rfl⟩ := Int.eq_ofNat_of_zero_le h0
  have e : ((X : Int) / 64) = ((X / 64 : Nat) : Int) := by omega
  have hx : X ^^^ X / 64 < 2 ^ 40 := Nat.xor_lt_two_pow (by omega) (by omega)
  rw [e, i64_xor_nat X (X / 64) (by omega) (by omega)]
  omega

/-- what a draw leaves -/
def PickPost (B R : Nat) (a : Option Addr) (len cap k : Nat) (n : Int) (w : World) (e : Ending) (w' : World) : Prop :=
  ∃ v : Int, e = .returned (.int .i64 v) ∧ 0 ≤ v ∧ (1 ≤ n → v < n) ∧ RdAt B R a len cap (k + 1) w' ∧ KeepsBut R w w'

set_option maxHeartbeats 800000 in
set_option maxRecDepth 100000 in
theorem pick_any (B R : Nat) (a : Option Addr) (len cap k : Nat) (n : Int) (w : World) (H : RdAt B R a len cap k w) (hk : k ≤ 1000000) (hn : -1000000000 ≤ n) (hn2 : n ≤ 1000000000) :
    Calls Try.prog 45 #[.pointer (some ⟨R, 0, none⟩), .int .i64 n] w (PickPost B R a len cap k n w) := by
  have c0 := H.c0
  have c1 := H.c1
  have f1 := H.f1
  have HH := Lib.hid H
  by_cases h1 : n < 1
  · clear H
    go_enter Try.func45, Try.ntmps45
    go_wp2
    go_ret
    exact ⟨0, rfl, by omega, by omega, HH.out.step, (KeepsBut.refl _ _).setCell 1 _⟩
  · have h1' : 1 ≤ n := by omega
    by_cases h0 : len = 0
    · have h0' : ((len : Int) == 0) = true := by simp [h0]
      clear H h0
      go_enter Try.func45, Try.ntmps45
      go_wp2
      go_ret
      exact ⟨0, rfl, by omega, by omega, HH.out.step, (KeepsBut.refl _ _).setCell 1 _⟩
    · have h0' : ((len : Int) == 0) = false := by simp; omega
      have hpos : 0 < len := by omega
      have hl2 := H.hlen
      obtain ⟨b, off, z, rfl, hb, hz⟩ := HH.out.step.row.resolve_left h0
      have hB := H.hB
      clear h0 H h1
      by_cases hlt : k < len
      · have hcell := (hz k hlt).2
        have hzk : (0 : Int) ≤ (z k : Int) := by omega
        have hzk2 : (z k : Int) < 256 := by have := (hz k hlt).1; omega
        have HZ := Lib.hid hz
        clear hz
        go_enter Try.func45, Try.ntmps45
        go_wp2
        go_ret
        exact ⟨(z k : Int) % n, rfl, Int.emod_nonneg _ (by omega), fun _ => Int.emod_lt_of_pos _ (by omega), HH.out.step, (KeepsBut.refl _ _).setCell 1 _⟩
      · have hm1 : k % len < len := Nat.mod_lt _ hpos
        have hm2 : (k * 7 + 3) % len < len := Nat.mod_lt _ hpos
        have hc1 := (hz _ hm1).2
        have hc2 := (hz _ hm2).2
        have hz1 : (z (k % len) : Int) < 256 := by have := (hz _ hm1).1; omega
        have hz2 : (z ((k * 7 + 3) % len) : Int) < 256 := by have := (hz _ hm2).1; omega
        have hi1 : (0 : Int) ≤ (k : Int) % (len : Int) := Int.emod_nonneg _ (by omega)
        have hi2 : (k : Int) % (len : Int) < len := Int.emod_lt_of_pos _ (by omega)
        have hj1 : (0 : Int) ≤ ((k : Int) * 7 + 3) % (len : Int) := Int.emod_nonneg _ (by omega)
        have hj2 : ((k : Int) * 7 + 3) % (len : Int) < len := Int.emod_lt_of_pos _ (by omega)
        have hq1 : (0 : Int) ≤ (k : Int) / (len : Int) := Int.ediv_nonneg (by omega) (by omega)
        have hq2 : (k : Int) / (len : Int) ≤ k := Int.ediv_le_self _ (by omega)
        have HZ := Lib.hid hz
        clear hz
        go_enter Try.func45, Try.ntmps45
        go_wp2
        go_quiet (fail)
        have hx1 : 0 ≤ (z (k % len) : Int) * 131 + (z ((k * 7 + 3) % len) : Int) * 1117 + (k : Int) * 29 + (k : Int) / (len : Int) * 53 := by omega
        have hx2 : (z (k % len) : Int) * 131 + (z ((k * 7 + 3) % len) : Int) * 1117 + (k : Int) * 29 + (k : Int) / (len : Int) * 53 < 1099511627776 := by omega
        generalize (z (k % len) : Int) * 131 + (z ((k * 7 + 3) % len) : Int) * 1117 + (k : Int) * 29 + (k : Int) / (len : Int) * 53 = x at *
        obtain ⟨hy1, hy2⟩ := i64_xor_bd x hx1 hx2
        clear hz1 hz2 hi1 hi2 hj1 hj2 hc1 hc2 hq1 hq2 HZ
        go_wp2
        go_ret
        exact ⟨bits .xor .i64 x (x / 64) % n, rfl, Int.emod_nonneg _ (by omega), fun _ => Int.emod_lt_of_pos _ (by omega), HH.out.step.drewN nq, ((KeepsBut.refl _ _).setCell 1 _).drewN nq⟩

/-- what 'odd' leaves -/
def OddPost (B R : Nat) (a : Option Addr) (len cap k : Nat) (w : World) (e : Ending) (w' : World) : Prop :=
  ∃ b : Bool, e = .returned (.bool b) ∧ RdAt B R a len cap (k + 1) w' ∧ KeepsBut R w w'

theorem odd_any (B R : Nat) (a : Option Addr) (len cap k : Nat) (n : Int) (w : World) (H : RdAt B R a len cap k w) (hk : k ≤ 1000000) (hn : 1 ≤ n) (hn2 : n ≤ 1000000000) :
    Calls Try.prog 74 #[.pointer (some ⟨R, 0, none⟩), .int .i64 n] w (OddPost B R a len cap k w) := by
  have hp : 0 < n := by omega
  have HC := Lib.hid (pick_any B R a len cap k n w H hk (by omega) hn2)
  clear H
  go_enter Try.func74, Try.ntmps74
  go_wp2_with fail
  refine HC.out.mono ?_
  rintro e w1 ⟨v, rfl, hv0, hv1, hR1, hK1⟩
  clear hv1
  by_cases hv : (v == n - 1) = true
  · go_wp2
    go_ret
    exact ⟨true, rfl, hR1, hK1⟩
  · have hv' : (v == n - 1) = false := by simpa using hv
    clear hv
    go_wp2
    go_ret
    exact ⟨false, rfl, hR1, hK1⟩

/-- what drawing a text leaves -/
def WordPost (B R : Nat) (a : Option Addr) (len cap k : Nat) (w : World) (e : Ending) (w' : World) : Prop :=
  ∃ s : ByteArray, e = .returned (.string s) ∧ s.size ≤ 23 ∧ ∃ k', k ≤ k' ∧ k' ≤ k + 20 ∧ RdAt B R a len cap k' w' ∧ KeepsBut R w w'

/-- one of three texts -/
theorem three_cells (w w1 : World) (x y z : ByteArray) (t : TypeId) (R : Nat) (hR : R < w.heap.size) (h : KeepsBut R (w.alloc (.cells #[.string x, .string y, .string z] t)) w1) (v : Int) (h0 : 0 ≤ v) (h3 : v < 3) :
    ∃ (j : Nat) (s : ByteArray), v = j ∧ j < 3 ∧ (s = x ∨ s = y ∨ s = z) ∧ w1.cell? ⟨w.heap.size, j, none⟩ = some (.string s) := by
  have hc : ∀ j, w1.cell? ⟨w.heap.size, j, none⟩ = (#[.string x, .string y, .string z] : Array Value)[j]? := fun j => by
    rw [h.cell (p := ⟨w.heap.size, j, none⟩) (by simp) (by show w.heap.size ≠ R; omega)]
    exact World.cell?_alloc_new w _ t j
  have : v = 0 ∨ v = 1 ∨ v = 2 := by omega
  rcases this with rfl | rfl | rfl
  · exact ⟨0, x, rfl, by omega, .inl rfl, hc 0⟩
  · exact ⟨1, y, rfl, by omega, .inr (.inl rfl), hc 1⟩
  · exact ⟨2, z, rfl, by omega, .inr (.inr rfl), hc 2⟩

theorem l20Letter_any (B R : Nat) (a : Option Addr) (len cap k : Nat) (n : Int) (w : World) (H : RdAt B R a len cap k w) (hk : k ≤ 900000) (hn : 1 ≤ n) (hn2 : n ≤ 1000) :
    Calls Try.prog 67 #[.pointer (some ⟨R, 0, none⟩), .int .i64 n] w (WordPost B R a len cap k w) := by
  have HC := Lib.hid (odd_any B R a len cap k n w H (by omega) hn (by omega))
  clear H
  go_enter Try.func67, Try.ntmps67
  go_wp2_with fail
  refine HC.out.mono ?_
  clear HC
  rintro e w2 ⟨b, rfl, hR2, hK2⟩
  cases b with
  | true =>
    go_wp2_with fail
    have hR3 : RdAt B R a len cap (k + 1) (w2.alloc (.cells #[.string ⟨#[]⟩, .string ⟨#[114, 114]⟩, .string ⟨#[120]⟩] 9)) := hR2.keeps ((Below.refl _ _).alloc (Nat.le_refl _) _)
    refine (pick_any B R a len cap (k + 1) 3 _ hR3 (by omega) (by omega) (by omega)).mono ?_
    rintro e w3 ⟨v3, rfl, hv30, hv31, hR4, hK3⟩
    obtain ⟨j, s3, rfl, hj, hs3, hcell⟩ := three_cells _ _ _ _ _ _ R hR2.hR hK3 v3 hv30 (hv31 (by omega))
    have hs3' : s3.size ≤ 15 := by rcases hs3 with rfl | rfl | rfl <;> simp [ByteArray.size]
    clear hv31 hs3
    go_wp2
    go_ret
    exact ⟨s3, rfl, by omega, k + 2, by omega, by omega, hR4, hK2.trans ((KeepsBut.of_below ((Below.refl _ _).alloc (Nat.le_refl _) _)).trans hK3)⟩
  | false =>
    go_wp2_with fail
    have hR3 : RdAt B R a len cap (k + 1) (w2.alloc (.cells #[.string ⟨#[114]⟩, .string ⟨#[100]⟩, .string ⟨#[110]⟩] 9)) := hR2.keeps ((Below.refl _ _).alloc (Nat.le_refl _) _)
    refine (pick_any B R a len cap (k + 1) 3 _ hR3 (by omega) (by omega) (by omega)).mono ?_
    rintro e w3 ⟨v3, rfl, hv30, hv31, hR4, hK3⟩
    obtain ⟨j, s3, rfl, hj, hs3, hcell⟩ := three_cells _ _ _ _ _ _ R hR2.hR hK3 v3 hv30 (hv31 (by omega))
    have hs3' : s3.size ≤ 15 := by rcases hs3 with rfl | rfl | rfl <;> simp [ByteArray.size]
    clear hv31 hs3
    go_wp2
    go_ret
    exact ⟨s3, rfl, by omega, k + 2, by omega, by omega, hR4, hK2.trans ((KeepsBut.of_below ((Below.refl _ _).alloc (Nat.le_refl _) _)).trans hK3)⟩
end Go.Proofs.Ytggohgkjdnnndaa
