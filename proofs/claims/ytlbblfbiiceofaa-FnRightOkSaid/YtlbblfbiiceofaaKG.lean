/- The reader of drawn inputs: what one draw gives, for every code. How a slice of integers that came in lies in memory: what the walks are told of it. No condition. The drawing functions of chapter 1: what they return lies within bounds, and nothing that was there is written. Rows that a drawing call owns, by their places in a list, beside the code that is read. No condition. Drawn machines: within bounds, in memory of their own. No condition. Rows that a drawing call owns, by their places in a list, beside the code that is read. No condition. Drawing a rule. No condition. Drawing a rule that is -/
import Derived.Test.YtlbblfbiiceofaaKA
import Derived.WalkSmall
import Derived.WalkKit
import Derived.Test.YtlbblfbiiceofaaQueue
import Derived.Test.YtlbblfbiiceofaaApart
import Derived.Test.YtlbblfbiiceofaaMach
import Derived.Deep.RegionLaw
import Derived.Deep.AppendLies
import Derived.Test.YtlbblfbiiceofaaKC
import Derived.Laws.AppendOwnNone
import Derived.Outline
import Derived.Deep.RegionWith
import Derived.Deep.CutBlock
import Derived.Deep.RegionHeld3
import Derived.Test.YtlbblfbiiceofaaKB

namespace Go.Proofs.Ytlbblfbiiceofaa
open Go.RowKit

/-- all blocks but one are as they were; there may be new ones -/
structure KeepsBut (R : Nat) (w w' : World) : Prop where
  os : w'.os = w.os
  tape : w'.tape = w.tape
  output : w'.output = w.output
  size : w.heap.size ≤ w'.heap.size
  block : ∀ k, k < w.heap.size → k ≠ R → w'.heap[k]? = w.heap[k]?
theorem KeepsBut.refl (R : Nat) (w : World) : KeepsBut R w w := ⟨rfl, rfl, rfl, Nat.le_refl _, fun _ _ _ => rfl⟩
theorem KeepsBut.trans {R : Nat} {a b c : World} (h : KeepsBut R a b) (k : KeepsBut R b c) : KeepsBut R a c :=
  ⟨k.os.trans h.os, k.tape.trans h.tape, k.output.trans h.output, Nat.le_trans h.size k.size, fun i hi hr => (k.block i (Nat.lt_of_lt_of_le hi h.size) hr).trans (h.block i hi hr)⟩
theorem KeepsBut.of_below {R : Nat} {w w' : World} (h : Below w.heap.size w w') : KeepsBut R w w' := ⟨h.os, h.tape, h.output, h.size, fun k hk _ => h.block k hk⟩
theorem KeepsBut.below {B R : Nat} {w w' : World} (h : KeepsBut R w w') (hB : B ≤ R) (hs : B ≤ w.heap.size) : Below B w w' :=
  ⟨h.os, h.tape, h.output, h.size, fun k hk => h.block k (by omega) (by omega)⟩
theorem KeepsBut.cell {R : Nat} {w w' : World} (h : KeepsBut R w w') {p : Addr} (hp : p.block < w.heap.size) (hr : p.block ≠ R) : w'.cell? p = w.cell? p := World.cell?_of_block (w := w) (h.block p.block hp hr)
theorem KeepsBut.frozen {R : Nat} {w w' : World} (h : KeepsBut R w w') {p : Addr} (hp : p.block < w.heap.size) (hr : p.block ≠ R) : w'.frozen? p = w.frozen? p := World.frozen?_of_block (w := w) (h.block p.block hp hr)
theorem KeepsBut.setCell {R : Nat} {a w : World} (h : KeepsBut R a w) (i : Nat) (u : Value) : KeepsBut R a (w.setCell ⟨R, i, none⟩ u) :=
  h.trans ⟨rfl, rfl, rfl, by simp, fun k _ hr => Below.heap_setCell w ⟨R, i, none⟩ u k hr⟩
theorem KeepsBut.drewN {R : Nat} {a w : World} (h : KeepsBut R a w) (n : Nat) : KeepsBut R a (w.drewN n) := h.trans ⟨rfl, rfl, rfl, Nat.le_refl _, fun _ _ _ => rfl⟩
theorem KeepsBut.alloc {R : Nat} {a w : World} (h : KeepsBut R a w) (o : Obj) : KeepsBut R a (w.alloc o) := h.trans (KeepsBut.of_below ((Below.refl _ _).alloc (Nat.le_refl _) o))

/-- block R is a reader over a row of bytes below B, k draws on -/
structure RdAt (B R : Nat) (a : Option Addr) (len cap k : Nat) (w : World) : Prop where
  hB : B ≤ R
  hR : R < w.heap.size
  c0 : w.cell? ⟨R, 0, none⟩ = some (.slice a len cap)
  c1 : w.cell? ⟨R, 1, none⟩ = some (.int .i64 (k : Int))
  f1 : w.frozen? ⟨R, 1, none⟩ = false
  hlen : len ≤ 2000
  row : len = 0 ∨ ∃ (b off : Nat) (z : Nat → Nat), a = some ⟨b, off, none⟩ ∧ b < B ∧ ∀ i, i < len → z i < 256 ∧ w.cell? ⟨b, off + i, none⟩ = some (.int .u8 (z i : Int))

theorem RdAt.keeps {B R : Nat} {a : Option Addr} {len cap k : Nat} {w w' : World} (h : RdAt B R a len cap k w) (hw : Below w.heap.size w w') : RdAt B R a len cap k w' :=
  ⟨h.hB, Nat.lt_of_lt_of_le h.hR hw.size, (hw.cell (p := ⟨R, 0, none⟩) h.hR).trans h.c0, (hw.cell (p := ⟨R, 1, none⟩) h.hR).trans h.c1, (hw.frozen (p := ⟨R, 1, none⟩) h.hR).trans h.f1, h.hlen,
    h.row.imp id (fun ⟨b, off, z, ha, hb, hz⟩ => ⟨b, off, z, ha, hb, fun i hi => ⟨(hz i hi).1, (hw.cell (p := ⟨b, off + i, none⟩) (by have h1 := h.hB; have h2 := h.hR; show b < _; omega)).trans (hz i hi).2⟩⟩)⟩
theorem RdAt.drewN {B R : Nat} {a : Option Addr} {len cap k : Nat} {w : World} (h : RdAt B R a len cap k w) (n : Nat) : RdAt B R a len cap k (w.drewN n) := h.keeps (below_drewN (Below.refl _ _) n)
theorem RdAt.step {B R : Nat} {a : Option Addr} {len cap k : Nat} {w : World} (h : RdAt B R a len cap k w) : RdAt B R a len cap (k + 1) (w.setCell ⟨R, 1, none⟩ (.int .i64 ((k : Int) + 1))) := by
  have hk : KeepsBut R w (w.setCell ⟨R, 1, none⟩ (.int .i64 ((k : Int) + 1))) := (KeepsBut.refl R w).setCell 1 _
  refine ⟨h.hB, by simpa using h.hR, ?_, ?_, ?_, h.hlen, ?_⟩
  · rw [World.cell?_setCell_other _ _ _ _ (by simp)]; exact h.c0
  · rw [World.cell?_setCell_same' _ _ _ (by rw [h.c1]; rfl)]; simp
  · rw [World.frozen?_setCell]; exact h.f1
  · refine h.row.imp id (fun ⟨b, off, z, ha, hb, hz⟩ => ⟨b, off, z, ha, hb, fun i hi => ⟨(hz i hi).1, ?_⟩⟩)
    have h1 := h.hB
    have h2 := h.hR
    exact (hk.cell (p := ⟨b, off + i, none⟩) (by show b < _; omega) (by show b ≠ R; omega)).trans (hz i hi).2

theorem i64_xor_nat (a b : Nat) (ha : a < 1099511627776) (hb : b < 1099511627776) : bits .xor .i64 (a : Int) (b : Int) = ((a ^^^ b : Nat) : Int) := by
  have hx : a ^^^ b < 2 ^ 40 := Nat.xor_lt_two_pow (by omega) (by omega)
  show IntKind.i64.wrap ((BitVec.ofInt 64 (a : Int) ^^^ BitVec.ofInt 64 (b : Int)).toNat : Int) = _
  rw [BitVec.toNat_xor, ofInt_u64 a (by omega), ofInt_u64 b (by omega)]
  simp [IntKind.wrap, IntKind.bits, IntKind.signed]
  omega
theorem i64_xor_bd (x : Int) (h0 : 0 ≤ x) (h1 : x < 1099511627776) : 0 ≤ bits .xor .i64 x (x / 64) ∧ bits .xor .i64 x (x / 64) < 1099511627776 := by
  obtain ⟨X, rfl⟩ := Int.eq_ofNat_of_zero_le h0
  have e : ((X : Int) / 64) = ((X / 64 : Nat) : Int) := by omega
  have hx : X ^^^ X / 64 < 2 ^ 40 := Nat.xor_lt_two_pow (by omega) (by omega)
  rw [e, i64_xor_nat X (X / 64) (by omega) (by omega)]
  omega

/-- what a draw leaves -/
def PickPost (B R : Nat) (a : Option Addr) (len cap k : Nat) (n : Int) (w : World) (e : Ending) (w' : World) : Prop :=
  ∃ v : Int, e = .returned (.int .i64 v) ∧ 0 ≤ v ∧ (1 ≤ n → v < n) ∧ RdAt B R a len cap (k + 1) w' ∧ KeepsBut R w w'

set_option maxHeartbeats 800000 in
set_option maxRecDepth 100000 in
theorem pick_any (B R : Nat) (a : Option Addr) (len cap k : Nat) (n : Int) (w : World) (H : RdAt B R a len cap k w) (hk : k ≤ 1000000) (hn : -1000000000 ≤ n) (hn2 : n ≤ 1000000000) :
    Calls Try.prog 59 #[.pointer (some ⟨R, 0, none⟩), .int .i64 n] w (PickPost B R a len cap k n w) := by
  have c0 := H.c0
  have c1 := H.c1
  have f1 := H.f1
  have HH := Lib.hid H
  by_cases h1 : n < 1
  · clear H
    go_enter Try.func59, Try.ntmps59
    go_wp2
    go_ret
    exact ⟨0, rfl, by omega, by omega, HH.out.step, (KeepsBut.refl _ _).setCell 1 _⟩
  · have h1' : 1 ≤ n := by omega
    by_cases h0 : len = 0
    · have h0' : ((len : Int) == 0) = true := by simp [h0]
      clear H h0
      go_enter Try.func59, Try.ntmps59
      go_wp2
      go_ret
      exact ⟨0, rfl, by omega, by omega, HH.out.step, (KeepsBut.refl _ _).setCell 1 _⟩
    · have h0' : ((len : Int) == 0) = false := by simp; omega
      have hpos : 0 < len := by omega
      have hl2 := H.hlen
      obtain ⟨b, off, z, rfl, hb, hz⟩ := HH.out.step.row.resolve_left h0
      have hB := H.hB
      clear h0 H h1
      by_cases hlt : k < len
      · have hcell := (hz k hlt).2
        have hzk : (0 : Int) ≤ (z k : Int) := by omega
        have hzk2 : (z k : Int) < 256 := by have := (hz k hlt).1; omega
        have HZ := Lib.hid hz
        clear hz
        go_enter Try.func59, Try.ntmps59
        go_wp2
        go_ret
        exact ⟨(z k : Int) % n, rfl, Int.emod_nonneg _ (by omega), fun _ => Int.emod_lt_of_pos _ (by omega), HH.out.step, (KeepsBut.refl _ _).setCell 1 _⟩
      · have hm1 : k % len < len := Nat.mod_lt _ hpos
        have hm2 : (k * 7 + 3) % len < len := Nat.mod_lt _ hpos
        have hc1 := (hz _ hm1).2
        have hc2 := (hz _ hm2).2
        have hz1 : (z (k % len) : Int) < 256 := by have := (hz _ hm1).1; omega
        have hz2 : (z ((k * 7 + 3) % len) : Int) < 256 := by have := (hz _ hm2).1; omega
        have hi1 : (0 : Int) ≤ (k : Int) % (len : Int) := Int.emod_nonneg _ (by omega)
        have hi2 : (k : Int) % (len : Int) < len := Int.emod_lt_of_pos _ (by omega)
        have hj1 : (0 : Int) ≤ ((k : Int) * 7 + 3) % (len : Int) := Int.emod_nonneg _ (by omega)
        have hj2 : ((k : Int) * 7 + 3) % (len : Int) < len := Int.emod_lt_of_pos _ (by omega)
        have hq1 : (0 : Int) ≤ (k : Int) / (len : Int) := Int.ediv_nonneg (by omega) (by omega)
        have hq2 : (k : Int) / (len : Int) ≤ k := Int.ediv_le_self _ (by omega)
        have HZ := Lib.hid hz
        clear hz
        go_enter Try.func59, Try.ntmps59
        go_wp2
        go_quiet (fail)
        have hx1 : 0 ≤ (z (k % len) : Int) * 131 + (z ((k * 7 + 3) % len) : Int) * 1117 + (k : Int) * 29 + (k : Int) / (len : Int) * 53 := by omega
        have hx2 : (z (k % len) : Int) * 131 + (z ((k * 7 + 3) % len) : Int) * 1117 + (k : Int) * 29 + (k : Int) / (len : Int) * 53 < 1099511627776 := by omega
        generalize (z (k % len) : Int) * 131 + (z ((k * 7 + 3) % len) : Int) * 1117 + (k : Int) * 29 + (k : Int) / (len : Int) * 53 = x at *
        obtain ⟨hy1, hy2⟩ := i64_xor_bd x hx1 hx2
        clear hz1 hz2 hi1 hi2 hj1 hj2 hc1 hc2 hq1 hq2 HZ
        go_wp2
        go_ret
        exact ⟨bits .xor .i64 x (x / 64) % n, rfl, Int.emod_nonneg _ (by omega), fun _ => Int.emod_lt_of_pos _ (by omega), HH.out.step.drewN nq, ((KeepsBut.refl _ _).setCell 1 _).drewN nq⟩

/-- what 'odd' leaves -/
def OddPost (B R : Nat) (a : Option Addr) (len cap k : Nat) (w : World) (e : Ending) (w' : World) : Prop :=
  ∃ b : Bool, e = .returned (.bool b) ∧ RdAt B R a len cap (k + 1) w' ∧ KeepsBut R w w'

theorem odd_any (B R : Nat) (a : Option Addr) (len cap k : Nat) (n : Int) (w : World) (H : RdAt B R a len cap k w) (hk : k ≤ 1000000) (hn : 1 ≤ n) (hn2 : n ≤ 1000000000) :
    Calls Try.prog 78 #[.pointer (some ⟨R, 0, none⟩), .int .i64 n] w (OddPost B R a len cap k w) := by
  have hp : 0 < n := by omega
  have HC := Lib.hid (pick_any B R a len cap k n w H hk (by omega) hn2)
  clear H
  go_enter Try.func78, Try.ntmps78
  go_wp2_with fail
  refine HC.out.mono ?_
  rintro e w1 ⟨v, rfl, hv0, hv1, hR1, hK1⟩
  clear hv1
  by_cases hv : (v == n - 1) = true
  · go_wp2
    go_ret
    exact ⟨true, rfl, hR1, hK1⟩
  · have hv' : (v == n - 1) = false := by simpa using hv
    clear hv
    go_wp2
    go_ret
    exact ⟨false, rfl, hR1, hK1⟩

/-- what drawing a text leaves -/
def WordPost (B R : Nat) (a : Option Addr) (len cap k : Nat) (w : World) (e : Ending) (w' : World) : Prop :=
  ∃ s : ByteArray, e = .returned (.string s) ∧ s.size ≤ 23 ∧ ∃ k', k ≤ k' ∧ k' ≤ k + 20 ∧ RdAt B R a len cap k' w' ∧ KeepsBut R w w'

/-- one of three texts -/
theorem three_cells (w w1 : World) (x y z : ByteArray) (t : TypeId) (R : Nat) (hR : R < w.heap.size) (h : KeepsBut R (w.alloc (.cells #[.string x, .string y, .string z] t)) w1) (v : Int) (h0 : 0 ≤ v) (h3 : v < 3) :
    ∃ (j : Nat) (s : ByteArray), v = j ∧ j < 3 ∧ (s = x ∨ s = y ∨ s = z) ∧ w1.cell? ⟨w.heap.size, j, none⟩ = some (.string s) := by
  have hc : ∀ j, w1.cell? ⟨w.heap.size, j, none⟩ = (#[.string x, .string y, .string z] : Array Value)[j]? := fun j => by
    rw [h.cell (p := ⟨w.heap.size, j, none⟩) (by simp) (by show w.heap.size ≠ R; omega)]
    exact World.cell?_alloc_new w _ t j
  have : v = 0 ∨ v = 1 ∨ v = 2 := by omega
  rcases this with rfl | rfl | rfl
  · exact ⟨0, x, rfl, by omega, .inl rfl, hc 0⟩
  · exact ⟨1, y, rfl, by omega, .inr (.inl rfl), hc 1⟩
  · exact ⟨2, z, rfl, by omega, .inr (.inr rfl), hc 2⟩

end Go.Proofs.Ytlbblfbiiceofaa

namespace Go.Proofs.Ytlbblfbiiceofaa
/-- nil; or a row of 'cap' cells, the numbers 'zs' (the first 'len' are the elements, the rest spare room), each of which fits its kind -/
def IsRow (k : IntKind) (w : World) (a : Option Addr) (len cap : Nat) (zs : List Int) : Prop :=
  (a = none ∧ len = 0 ∧ cap = 0 ∧ zs = []) ∨
  ∃ x, a = some x ∧ len ≤ cap ∧ cap ≤ maxLen ∧ zs.length = cap ∧ (∀ i, i < zs.length → w.cell? (x.add i) = some (.int k (zs.getD i 0))) ∧ ∀ n ∈ zs, (Lit.int k n).wf = true
end Go.Proofs.Ytlbblfbiiceofaa

namespace Go.Proofs.Ytlbblfbiiceofaa
open Go.RowKit

/-- what opening a code leaves -/
def OpenPost (w : World) (e : Ending) (w' : World) : Prop :=
  ∃ (a : Option Addr) (len cap : Nat), e = .returned (.pointer (some ⟨w.heap.size, 0, none⟩)) ∧ RdAt w.heap.size w.heap.size a len cap 0 w' ∧ Below w.heap.size w w'

theorem open_rd (w : World) (a : Option Addr) (len cap : Nat) (t : TypeId) (hl : len ≤ 2000)
    (hrow : len = 0 ∨ ∃ (b off : Nat) (z : Nat → Nat), a = some ⟨b, off, none⟩ ∧ b < w.heap.size ∧ ∀ i, i < len → z i < 256 ∧ w.cell? ⟨b, off + i, none⟩ = some (.int .u8 (z i : Int))) :
    RdAt w.heap.size w.heap.size a len cap 0 (w.alloc (.cells #[.slice a len cap, .int .i64 0] t)) := by
  refine ⟨Nat.le_refl _, by simp, ?_, ?_, ?_, hl, hrow.imp id (fun ⟨b, off, z, ha, hb, hz⟩ => ⟨b, off, z, ha, hb, fun i hi => ⟨(hz i hi).1, ?_⟩⟩)⟩
  · exact World.cell?_alloc_new w _ t 0
  · exact World.cell?_alloc_new w _ t 1
  · exact World.frozen?_alloc_new w _ t 1
  · exact (World.cell?_alloc_lt w _ ⟨b, off + i, none⟩ hb).trans (hz i hi).2

theorem row_bytes {w : World} {a : Option Addr} {len cap : Nat} {zs : List Int} (h : IsRow .u8 w a len cap zs) :
    len = 0 ∨ ∃ (b off : Nat) (z : Nat → Nat), a = some ⟨b, off, none⟩ ∧ b < w.heap.size ∧ ∀ i, i < len → z i < 256 ∧ w.cell? ⟨b, off + i, none⟩ = some (.int .u8 (z i : Int)) := by
  rcases h with ⟨_, h, _⟩ | ⟨x, rfl, hl, hm, hz, hcell, hwf⟩
  · exact .inl h
  · by_cases h0 : len = 0
    · exact .inl h0
    · obtain ⟨b, off, spot⟩ := x
      have hc := hcell 0 (by omega)
      have hspot : spot = none := by simpa [Addr.add] using World.cell?_spot hc
      subst hspot
      have hb : b < w.heap.size := by
        have := World.block_lt_of_cell? w ⟨b, off, none⟩ (u := .int .u8 (zs.getD 0 0)) (by simpa [Addr.add] using hc)
        exact this
      refine .inr ⟨b, off, fun i => (zs.getD i 0).toNat, rfl, hb, fun i hi => ?_⟩
      have hw := hwf (zs.getD i 0) (by
        have : i < zs.length := by omega
        rw [List.getD, List.getElem?_eq_getElem this]; exact List.getElem_mem _)
      have hw' : 0 ≤ zs.getD i 0 ∧ zs.getD i 0 ≤ 255 := by
        simp [Lit.wf, IntKind.min, IntKind.max, IntKind.signed, IntKind.bits] at hw
        simp only [List.getD]
        omega
      have hci := hcell i (by omega)
      rw [show (⟨b, off, none⟩ : Addr).add i = ⟨b, off + i, none⟩ from by unfold Addr.add; by_cases h : i = 0 <;> simp [h]] at hci
      refine ⟨by show (zs.getD i 0).toNat < 256; omega, ?_⟩
      rw [hci, Int.toNat_of_nonneg hw'.1]

theorem l20Open_any (a : Option Addr) (len cap : Nat) (zs : List Int) (w : World) (h : IsRow .u8 w a len cap zs) :
    Calls Try.prog 53 #[.slice a len cap] w (OpenPost w) := by
  have hrow := row_bytes h
  have hcap : len ≤ cap ∧ cap ≤ maxLen := by
    rcases h with ⟨_, rfl, rfl, _⟩ | ⟨x, _, h1, h2, _⟩
    · exact ⟨Nat.le_refl _, Nat.zero_le _⟩
    · exact ⟨h1, h2⟩
  obtain ⟨hc1, hc2⟩ := hcap
  unfold maxLen at hc2
  clear h
  by_cases hbig : 2000 < len
  · have hrow2 := hrow
    obtain ⟨b, off, z, rfl, hb, hz⟩ := hrow2.resolve_left (by omega)
    have H := Lib.hid (open_rd w (some ⟨b, off, none⟩) 2000 cap 96 (Nat.le_refl _) (.inr ⟨b, off, z, rfl, hb, fun i hi => hz i (by omega)⟩))
    clear hz hrow hrow2
    have hcp : 2000 ≤ cap := by omega
    go_enter Try.func53, Try.ntmps53
    go_wp2
    go_ret
    exact ⟨_, _, _, rfl, H.out, (Below.refl _ _).alloc (Nat.le_refl _) _⟩
  · have H := Lib.hid (open_rd w a len cap 96 (by omega) hrow)
    clear hrow
    go_enter Try.func53, Try.ntmps53
    go_wp2
    go_ret
    exact ⟨_, _, _, rfl, H.out, (Below.refl _ _).alloc (Nat.le_refl _) _⟩
end Go.Proofs.Ytlbblfbiiceofaa

namespace Go.Proofs.Ytlbblfbiiceofaa
open Go.RowKit

theorem KeepsBut.grownBy {R : Nat} {w w' : World} (h : KeepsBut R w w') : w.grownBy w' (some R) := ⟨h.os, h.tape, h.output, h.size, fun k hk hne => h.block k hk (fun e => hne (by rw [e]))⟩
theorem KeepsBut.grown {R : Nat} {a w w' : World} {row : Option Nat} (h : KeepsBut R a w) (hg : w.grownBy w' row) (hr : ∀ k, row = some k → a.heap.size ≤ k) : KeepsBut R a w' :=
  ⟨hg.os.trans h.os, hg.tape.trans h.tape, hg.output.trans h.output, Nat.le_trans h.size hg.size, fun k hk hR =>
    (hg.block k (Nat.lt_of_lt_of_le hk h.size) (fun e => by have := hr k e.symm; omega)).trans (h.block k hk hR)⟩
theorem RdAt.keepsR {B R : Nat} {a : Option Addr} {len cap k : Nat} {w w' : World} (h : RdAt B R a len cap k w) (hw : Below (R + 1) w w') : RdAt B R a len cap k w' :=
  ⟨h.hB, Nat.lt_of_lt_of_le h.hR hw.size, (hw.cell (p := ⟨R, 0, none⟩) (Nat.lt_succ_self R)).trans h.c0, (hw.cell (p := ⟨R, 1, none⟩) (Nat.lt_succ_self R)).trans h.c1, (hw.frozen (p := ⟨R, 1, none⟩) (Nat.lt_succ_self R)).trans h.f1, h.hlen,
    h.row.imp id (fun ⟨b, off, z, ha, hb, hz⟩ => ⟨b, off, z, ha, hb, fun i hi => ⟨(hz i hi).1, (hw.cell (p := ⟨b, off + i, none⟩) (by have h1 := h.hB; show b < _; omega)).trans (hz i hi).2⟩⟩)⟩
theorem RdAt.grown {B R : Nat} {a : Option Addr} {len cap k : Nat} {w w' : World} {row : Option Nat} (h : RdAt B R a len cap k w) (hg : w.grownBy w' row) (hr : ∀ k, row = some k → R < k) : RdAt B R a len cap k w' :=
  h.keepsR ((Below.refl _ _).grown hg h.hR (fun k e => hr k e))
structure OwR (B R : Nat) (a : Option Addr) (len cap : Nat) (w0 : World) (k : Nat) (ts : List Thing) (w : World) : Prop where
  rd : RdAt B R a len cap k w
  hR : R < w0.heap.size
  keep : KeepsBut R w0 w
  ap : Apart w0.heap.size ts w
section
variable {B R : Nat} {a : Option Addr} {len cap : Nat} {w0 : World} {k : Nat} {ts : List Thing} {w w' : World}
theorem OwR.start (h : RdAt B R a len cap k w) : OwR B R a len cap w k [] w := ⟨h, h.hR, KeepsBut.refl _ _, Apart.nil _ _⟩
theorem OwR.size (h : OwR B R a len cap w0 k ts w) : w0.heap.size ≤ w.heap.size := h.keep.size
theorem OwR.same (h : OwR B R a len cap w0 k ts w) (hg : w.grownBy w' none) : OwR B R a len cap w0 k ts w' := ⟨h.rd.grown hg (fun _ e => by cases e), h.hR, h.keep.grown hg (fun _ e => by cases e), h.ap.same hg⟩
theorem OwR.alloc (h : OwR B R a len cap w0 k ts w) (o : Obj) : OwR B R a len cap w0 k ts (w.alloc o) := h.same (World.grownBy_alloc w o none)
theorem OwR.drew (h : OwR B R a len cap w0 k ts w) : OwR B R a len cap w0 k ts w.drew := h.same (grown_drew w none)
theorem OwR.picked {k' : Nat} (h : OwR B R a len cap w0 k ts w) (hr : RdAt B R a len cap k' w') (hk : KeepsBut R w w') : OwR B R a len cap w0 k' ts w' :=
  ⟨hr, h.hR, h.keep.trans hk, h.ap.other hk.grownBy (fun k e => by cases e; exact h.hR)⟩
theorem OwR.sub (h : OwR B R a len cap w0 k ts w) {us : List Thing} (s : us.Sublist ts) : OwR B R a len cap w0 k us w := ⟨h.rd, h.hR, h.keep, h.ap.sub s⟩
theorem OwR.perm (h : OwR B R a len cap w0 k ts w) {us : List Thing} (s : ts.Perm us) : OwR B R a len cap w0 k us w := ⟨h.rd, h.hR, h.keep, h.ap.perm s⟩
theorem OwR.row (h : OwR B R a len cap w0 k ts w) (i : Nat) (hi : i < ts.length) {e : TypeId} {sz : Nat} {v : Value} {n : Nat} {xs : List Value} (he : ts[i] = rowT e sz v n xs) : w.ownsRow 0 e sz v n xs := by
  have := h.ap.at i hi
  rw [he] at this; exact this
theorem OwR.lit (h : OwR B R a len cap w0 k ts w) (cs : Array Value) (e : TypeId) (n sz : Nat) (hs : cs.size = n * sz) (hm : n ≤ maxLen) : OwR B R a len cap w0 k (rowT e sz (.slice (some ⟨w.heap.size, 0, none⟩) n n) n cs.toList :: ts) (w.alloc (.cells cs e)) :=
  have h1 := h.alloc (.cells cs e)
  ⟨h1.rd, h1.hR, h1.keep, h.ap.more (World.grownBy_alloc w _ none) _ (World.ownsRow_lit (base := 0) w cs n (Nat.zero_le _) hm hs) h.size (fun j e => by cases e; simp)⟩
theorem OwR.turn {i g cp n n' sz : Nat} {e : TypeId} {v : Value} {xs xs' : List Value} {w1 : World} (h : OwR B R a len cap w0 k ts w) (hi : i < ts.length) (he : ts[i] = rowT e sz v n xs) (hg : w.grownBy w1 v.ownBlock)
    (ho : w1.ownsRow 0 e sz (.slice (some ⟨g, 0, none⟩) n' cp) n' xs') (hat : v.ownBlock = some g ∨ g = w.heap.size) :
    OwR B R a len cap w0 k (ts.set i (rowT e sz (.slice (some ⟨g, 0, none⟩) n' cp) n' xs')) w1 := by
  have hlt := h.ap.ltAt i hi
  rw [he] at hlt
  have hR := h.hR
  exact ⟨h.rd.grown hg (fun j e => by have := (hlt j e).1; omega), h.hR, h.keep.grown hg (fun j e => (hlt j e).1), h.ap.turnAt i hi (by rw [he]; exact hg) _ ho h.size
    (fun j e => ⟨by rw [he]; cases e; exact hat.imp id (fun e => Nat.le_of_eq e.symm), (World.ownsRow.lt ho j e).2⟩)⟩
theorem OwR.store {i g c n sz : Nat} {e : TypeId} {xs : List Value} (h : OwR B R a len cap w0 k ts w) (hi : i < ts.length) (he : ts[i] = rowT e sz (.slice (some ⟨g, 0, none⟩) n c) n xs) (j : Nat) (u : Value) :
    OwR B R a len cap w0 k (ts.set i (rowT e sz (.slice (some ⟨g, 0, none⟩) n c) n (xs.set j u))) (w.setCell ⟨g, j, none⟩ u) := by
  have hlt := (h.ap.ltAt i hi) g (by rw [he]; rfl)
  have ho := (World.ownsRow.stored (h.row i hi he) j u).1
  exact h.turn hi he (grown_setCell w g j u) ho (.inl rfl)
end
end Go.Proofs.Ytlbblfbiiceofaa

namespace Go.Proofs.Ytlbblfbiiceofaa
open Go.RowKit

theorem ownsRow_sliceD {w : World} {b : Nat} {e : TypeId} {size : Nat} {v : Value} {n : Nat} {xs : List Value} (h : w.ownsRow b e size v n xs) : ∃ a c, v = .slice a n c := by
  rcases h.2 with ⟨rfl, rfl⟩ | ⟨g, cap, _, rfl, _⟩
  · exact ⟨_, _, rfl⟩
  · exact ⟨_, _, rfl⟩

/-- a machine that is being drawn -/
structure Drawing (B R : Nat) (a : Option Addr) (len cap : Nat) (w0 : World) (B0 B1 k : Nat) (st : Int) (nv : Value) (xs : List Int) (ev : Value) (bs : List Bool) (w : World) : Prop where
  rd : RdAt B R a len cap k w
  hR : R < w0.heap.size
  keep : KeepsBut R w0 w
  ap : Apart w0.heap.size [cellsT B1 #[.int .i64 st, nv, ev] 115, rowT 3 1 nv xs.length (xs.map (Value.int .i64)), rowT 4 1 ev bs.length (bs.map Value.bool), cellsT B0 #[.int .i64 0, .slice none 0 0, .slice none 0 0] 115] w

section
variable {B R : Nat} {a : Option Addr} {len cap : Nat} {w0 : World} {B0 B1 k : Nat} {st : Int} {nv : Value} {xs : List Int} {ev : Value} {bs : List Bool} {w w' : World}
end

/-- what drawing a machine leaves -/
def MachDrawn (B R : Nat) (a : Option Addr) (len cap k : Nat) (w : World) (e : Ending) (w' : World) : Prop :=
  ∃ (st : Int) (xs : List Int) (bs : List Bool) (nv ev : Value), e = .returned (.agg #[.int .i64 st, nv, ev]) ∧ 0 ≤ st ∧ st ≤ 5 ∧ xs.length ≤ 15 ∧ bs.length ≤ 6 ∧
    (∃ k', k ≤ k' ∧ k' ≤ k + 30 ∧ RdAt B R a len cap k' w') ∧ KeepsBut R w w' ∧ Apart w.heap.size [rowT 3 1 nv xs.length (xs.map (Value.int .i64)), rowT 4 1 ev bs.length (bs.map Value.bool)] w'

end Go.Proofs.Ytlbblfbiiceofaa

namespace Go.Proofs.Ytlbblfbiiceofaa
open Go.RowKit

/-- nothing is put behind a row of the call's own -/
theorem run_append_zero {P : Program} {w : World} (base : Nat) (t ty e : TypeId) (i : TypeInfo) (size : Nat) (ht : P.underlying t = some (.slice e)) (hi : P.info? e = some i)
    (v : Value) (n : Nat) (xs : List Value) (hown : w.ownsRow base e size v n xs) (p : Option Addr) (c : Nat) :
    (Builtin.append_ #[t, t] ty #[v, .slice p 0 c]).run P w = .ok v w := by
  rcases hown.2 with ⟨rfl, rfl⟩ | ⟨g, cap, cur, rfl, _, _, hnc, _⟩
  · cases p <;> simp [Builtin.append_, run_underlying ht, sizeOf, typeInfo, hi, Builtin.lenOf, Builtin.firstCells, loadCells, loadCellsFrom, Result.andThen]
  · cases p <;> simp [Builtin.append_, run_underlying ht, sizeOf, typeInfo, hi, Builtin.lenOf, Builtin.firstCells, hnc, storeCells, loadCells, loadCellsFrom, Result.andThen]
theorem wpList_append_zero {P : Program} {w : World} {ops : Array Oper} {rest : List Oper} {o : Oper} {a : Act} {Q : Exit → Act → World → Prop} (hgd : o.guard = none) (s x : Operand) (t : TypeId)
    (ho : o.op = .call { callee := .builtin .append, args := #[s, x], argTypes := #[t, t] })
    (base : Nat) (e : TypeId) (i : TypeInfo) (size : Nat) (ht : P.underlying t = some (.slice e)) (hi : P.info? e = some i)
    (v : Value) (n : Nat) (xs : List Value) (hs : a.eval s = v) (hown : w.ownsRow base e size v n xs) (p : Option Addr) (c : Nat) (hx : a.eval x = .slice p 0 c)
    (h : wpList P ops Q rest (a.put o.dst v) w) : wpList P ops Q (o :: rest) a w := by
  refine wpList_plain hgd fun K hK => ?_
  have hrun := run_append_zero (P := P) (w := w) base t o.type e i size ht hi v n xs hown p c
  unfold Oper.wp
  simp [execOp, ho, resolve, invoke, builtin, hs, hx, hrun, Result.andThen]
  exact hK _ _ h

/-- the cells of marks in memory -/
theorem marks_news {w : World} {b : Nat} {e : TypeId} {g c n : Nat} {xs : List Value} (h : w.ownsRow b e 5 (.slice (some ⟨g, 0, none⟩) n c) n xs) : ∀ j u, xs[j]? = some u → w.cell? ((⟨g, 0, none⟩ : Addr).add j) = some u := by
  intro j u hj
  have hl := h.1
  have hlt : j < xs.length := by
    rcases Nat.lt_or_ge j xs.length with h | h
    · exact h
    · rw [List.getElem?_eq_none h] at hj; cases hj
  have := World.ownsRow.cellAt h j (by omega)
  rw [show (⟨g, 0, none⟩ : Addr).add j = ⟨g, j, none⟩ by unfold Addr.add; split <;> simp_all, this, hj]
theorem cellsM_one (ms : List Mk) : ∀ u ∈ cellsM ms, u.oneCell' = true := by
  induction ms with
  | nil => intro u h; cases h
  | cons m ms ih =>
    intro u h
    rw [cellsM, List.mem_append] at h
    rcases h with h | h
    · simp only [Mk.cells, List.mem_cons, List.not_mem_nil, or_false] at h
      rcases h with rfl | rfl | rfl | rfl | rfl <;> rfl
    · exact ih u h
/-- a block that was just laid, read as a slice -/
theorem new_news (w : World) (cs : Array Value) (t : TypeId) (b : Nat) (hb : b = w.heap.size) : ∀ j u, cs.toList[j]? = some u → (w.alloc (.cells cs t)).cell? ((⟨b, 0, none⟩ : Addr).add j) = some u := by
  subst hb
  intro j u hj
  rw [show (⟨w.heap.size, 0, none⟩ : Addr).add j = ⟨w.heap.size, j, none⟩ by unfold Addr.add; split <;> simp_all, World.cell?_alloc_new]
  simpa using hj
theorem infoMarkD : (Try.prog.info? 81).map (fun i => (i.zero, i.size, i.bytes)) = some (some (.agg #[.int .i64 0, .int .i64 0, .string ⟨#[]⟩, .string ⟨#[]⟩, .int .i64 0]), 5, 56) := by kernel_rfl
theorem infoMarkS : (Try.prog.info? 41).map (fun i => (i.zero, i.size, i.bytes)) = some (some (.slice none 0 0), 1, 24) := by kernel_rfl
end Go.Proofs.Ytlbblfbiiceofaa

namespace Go.Proofs.Ytlbblfbiiceofaa
open Go.RowKit

/-- what drawing a rule leaves -/
def RulePost (B R : Nat) (a : Option Addr) (len cap k : Nat) (w : World) (e : Ending) (w' : World) : Prop :=
  ∃ (kind : Int) (letter thn : ByteArray) (many : Int), e = .returned (.agg #[.int .i64 kind, .string letter, .string thn, .int .i64 many]) ∧ 0 ≤ kind ∧ kind ≤ 5 ∧ letter.size = 1 ∧ thn.size ≤ 1 ∧ -1 ≤ many ∧ many ≤ 6 ∧
    ∃ k', k ≤ k' ∧ k' ≤ k + 10 ∧ RdAt B R a len cap k' w' ∧ KeepsBut R w w'

/-- a block that holds a rule that is being drawn -/
structure RuF (B : Nat) (kind : Int) (letter thn : ByteArray) (many : Int) (w : World) : Prop where
  hB : B < w.heap.size
  c0 : w.cell? ⟨B, 0, none⟩ = some (.int .i64 kind)
  c1 : w.cell? ⟨B, 1, none⟩ = some (.string letter)
  c2 : w.cell? ⟨B, 2, none⟩ = some (.string thn)
  c3 : w.cell? ⟨B, 3, none⟩ = some (.int .i64 many)
  f : ∀ i, w.frozen? ⟨B, i, none⟩ = false
theorem RuF.keeps {B R : Nat} {kind : Int} {letter thn : ByteArray} {many : Int} {w w' : World} (h : RuF B kind letter thn many w) (hk : KeepsBut R w w') (hne : B ≠ R) : RuF B kind letter thn many w' :=
  ⟨Nat.lt_of_lt_of_le h.hB hk.size, (hk.cell (p := ⟨B, 0, none⟩) h.hB hne).trans h.c0, (hk.cell (p := ⟨B, 1, none⟩) h.hB hne).trans h.c1, (hk.cell (p := ⟨B, 2, none⟩) h.hB hne).trans h.c2, (hk.cell (p := ⟨B, 3, none⟩) h.hB hne).trans h.c3,
    fun i => (hk.frozen (p := ⟨B, i, none⟩) h.hB hne).trans (h.f i)⟩
theorem RuF.new (w : World) (kind : Int) (letter thn : ByteArray) (many : Int) (t : TypeId) : RuF w.heap.size kind letter thn many (w.alloc (.cells #[.int .i64 kind, .string letter, .string thn, .int .i64 many] t)) :=
  ⟨by simp, World.cell?_alloc_new w _ _ 0, World.cell?_alloc_new w _ _ 1, World.cell?_alloc_new w _ _ 2, World.cell?_alloc_new w _ _ 3, fun i => World.frozen?_alloc_new w _ _ i⟩
theorem keeps_set (w : World) (b i : Nat) (u : Value) : KeepsBut b w (w.setCell ⟨b, i, none⟩ u) := (KeepsBut.refl b w).setCell i u
theorem RdAt.other {B R : Nat} {a : Option Addr} {len cap k : Nat} {w : World} (h : RdAt B R a len cap k w) (b i : Nat) (u : Value) (hb : b ≠ R) (hB : B ≤ b) : RdAt B R a len cap k (w.setCell ⟨b, i, none⟩ u) := by
  have hk := keeps_set w b i u
  refine ⟨h.hB, by simpa using h.hR, (hk.cell (p := ⟨R, 0, none⟩) h.hR (Ne.symm hb)).trans h.c0, (hk.cell (p := ⟨R, 1, none⟩) h.hR (Ne.symm hb)).trans h.c1, (hk.frozen (p := ⟨R, 1, none⟩) h.hR (Ne.symm hb)).trans h.f1, h.hlen, ?_⟩
  refine h.row.imp id (fun ⟨c, off, z, ha, hc, hz⟩ => ⟨c, off, z, ha, hc, fun i hi => ⟨(hz i hi).1, ?_⟩⟩)
  have h1 := h.hB
  have h2 := h.hR
  exact (hk.cell (p := ⟨c, off + i, none⟩) (by show c < _; omega) (by show c ≠ b; omega)).trans (hz i hi).2

/-- a rule that is being drawn, and the place where it will be laid -/
structure Dr (B R : Nat) (a : Option Addr) (len cap : Nat) (w0 : World) (RB RU : Nat) (k : Nat) (kind : Int) (letter thn : ByteArray) (many : Int) (w : World) : Prop where
  rd : RdAt B R a len cap k w
  kp : KeepsBut R w0 w
  ru : RuF RU kind letter thn many w
  rb : RuF RB 0 ⟨#[]⟩ ⟨#[]⟩ 0 w
  hRB : w0.heap.size ≤ RB
  hRU : w0.heap.size ≤ RU
  hR0 : R < w0.heap.size
  ne : RB ≠ RU
section
variable {B R : Nat} {a : Option Addr} {len cap : Nat} {w0 : World} {RB RU k : Nat} {kind : Int} {letter thn : ByteArray} {many : Int} {w w' : World}
theorem Dr.keeps {k' : Nat} (h : Dr B R a len cap w0 RB RU k kind letter thn many w) (hR : RdAt B R a len cap k' w') (hK : KeepsBut R w w') : Dr B R a len cap w0 RB RU k' kind letter thn many w' :=
  ⟨hR, h.kp.trans hK, h.ru.keeps hK (by have := h.hRU; have := h.hR0; omega), h.rb.keeps hK (by have := h.hRB; have := h.hR0; omega), h.hRB, h.hRU, h.hR0, h.ne⟩
theorem Dr.alloc (h : Dr B R a len cap w0 RB RU k kind letter thn many w) (o : Obj) : Dr B R a len cap w0 RB RU k kind letter thn many (w.alloc o) :=
  h.keeps (h.rd.keeps ((Below.refl _ _).alloc (Nat.le_refl _) o)) ((KeepsBut.refl R w).alloc o)
theorem set_kp (h : Dr B R a len cap w0 RB RU k kind letter thn many w) (b i : Nat) (u : Value) (hb : w0.heap.size ≤ b) : KeepsBut R w0 (w.setCell ⟨b, i, none⟩ u) :=
  ⟨h.kp.os, h.kp.tape, h.kp.output, by simpa using h.kp.size, fun j hj hr => (Below.heap_setCell w ⟨b, i, none⟩ u j (by show j ≠ b; omega)).trans (h.kp.block j hj hr)⟩
theorem Dr.set3 (h : Dr B R a len cap w0 RB RU k kind letter thn many w) (u : Int) : Dr B R a len cap w0 RB RU k kind letter thn u (w.setCell ⟨RU, 3, none⟩ (.int .i64 u)) := by
  have hne : RU ≠ R := by have := h.hRU; have := h.hR0; omega
  have hB := h.rd.hB
  have c := h.ru
  refine ⟨h.rd.other RU 3 _ hne (by have := h.hRU; have := h.hR0; omega), set_kp h RU 3 _ h.hRU, ⟨by simpa using c.hB, ?_, ?_, ?_, ?_, fun i => ?_⟩, h.rb.keeps (keeps_set w RU 3 _) h.ne, h.hRB, h.hRU, h.hR0, h.ne⟩
  · rw [World.cell?_setCell_other _ _ _ _ (by simp)]; exact c.c0
  · rw [World.cell?_setCell_other _ _ _ _ (by simp)]; exact c.c1
  · rw [World.cell?_setCell_other _ _ _ _ (by simp)]; exact c.c2
  · exact World.cell?_setCell_same' _ _ _ (by rw [c.c3]; rfl)
  · rw [World.frozen?_setCell]; exact c.f i
theorem Dr.set2 (h : Dr B R a len cap w0 RB RU k kind letter thn many w) (u : ByteArray) : Dr B R a len cap w0 RB RU k kind letter u many (w.setCell ⟨RU, 2, none⟩ (.string u)) := by
  have hne : RU ≠ R := by have := h.hRU; have := h.hR0; omega
  have hB := h.rd.hB
  have c := h.ru
  refine ⟨h.rd.other RU 2 _ hne (by have := h.hRU; have := h.hR0; omega), set_kp h RU 2 _ h.hRU, ⟨by simpa using c.hB, ?_, ?_, ?_, ?_, fun i => ?_⟩, h.rb.keeps (keeps_set w RU 2 _) h.ne, h.hRB, h.hRU, h.hR0, h.ne⟩
  · rw [World.cell?_setCell_other _ _ _ _ (by simp)]; exact c.c0
  · rw [World.cell?_setCell_other _ _ _ _ (by simp)]; exact c.c1
  · exact World.cell?_setCell_same' _ _ _ (by rw [c.c2]; rfl)
  · rw [World.cell?_setCell_other _ _ _ _ (by simp)]; exact c.c3
  · rw [World.frozen?_setCell]; exact c.f i
/-- the rule laid at its place -/
theorem Dr.fin (h : Dr B R a len cap w0 RB RU k kind letter thn many w) {W : World} (hW : W = (((w.setCell ⟨RB, 0, none⟩ (.int .i64 kind)).setCell ⟨RB, 1, none⟩ (.string letter)).setCell ⟨RB, 2, none⟩ (.string thn)).setCell ⟨RB, 3, none⟩ (.int .i64 many)) :
    W.cell? ⟨RB, 0, none⟩ = some (.int .i64 kind) ∧ W.cell? ⟨RB, 1, none⟩ = some (.string letter) ∧ W.cell? ⟨RB, 2, none⟩ = some (.string thn) ∧ W.cell? ⟨RB, 3, none⟩ = some (.int .i64 many) ∧ RdAt B R a len cap k W ∧ KeepsBut R w0 W := by
  subst hW
  have hne : RB ≠ R := by have := h.hRB; have := h.hR0; omega
  have hB := h.rd.hB
  have hBB : B ≤ RB := by have := h.hRB; have := h.hR0; omega
  have c := h.rb
  have b0 := c.c0
  have b1 := c.c1
  have b2 := c.c2
  have b3 := c.c3
  refine ⟨by go_simp, by go_simp, by go_simp, by go_simp, (((h.rd.other RB 0 _ hne hBB).other RB 1 _ hne hBB).other RB 2 _ hne hBB).other RB 3 _ hne hBB, ?_⟩
  have hsame : ∀ (x : World) (i : Nat) (u : Value), KeepsBut R w0 x → KeepsBut R w0 (x.setCell ⟨RB, i, none⟩ u) := fun x i u hx =>
    ⟨hx.os, hx.tape, hx.output, by simpa using hx.size, fun j hj hr => (Below.heap_setCell x ⟨RB, i, none⟩ u j (by have := h.hRB; show j ≠ RB; omega)).trans (hx.block j hj hr)⟩
  exact hsame _ _ _ (hsame _ _ _ (hsame _ _ _ (hsame _ _ _ h.kp)))
theorem Dr.cells (h : Dr B R a len cap w0 RB RU k kind letter thn many w) : (w.cell? ⟨RU, 0, none⟩ = some (.int .i64 kind) ∧ w.cell? ⟨RU, 1, none⟩ = some (.string letter) ∧ w.cell? ⟨RU, 2, none⟩ = some (.string thn) ∧ w.cell? ⟨RU, 3, none⟩ = some (.int .i64 many)) ∧
    (w.frozen? ⟨RU, 0, none⟩ = false ∧ w.frozen? ⟨RU, 1, none⟩ = false ∧ w.frozen? ⟨RU, 2, none⟩ = false ∧ w.frozen? ⟨RU, 3, none⟩ = false) := ⟨⟨h.ru.c0, h.ru.c1, h.ru.c2, h.ru.c3⟩, h.ru.f 0, h.ru.f 1, h.ru.f 2, h.ru.f 3⟩
theorem Dr.cellsB (h : Dr B R a len cap w0 RB RU k kind letter thn many w) : (w.cell? ⟨RB, 0, none⟩ = some (.int .i64 0) ∧ w.cell? ⟨RB, 1, none⟩ = some (.string ⟨#[]⟩) ∧ w.cell? ⟨RB, 2, none⟩ = some (.string ⟨#[]⟩) ∧ w.cell? ⟨RB, 3, none⟩ = some (.int .i64 0)) ∧
    (w.frozen? ⟨RB, 0, none⟩ = false ∧ w.frozen? ⟨RB, 1, none⟩ = false ∧ w.frozen? ⟨RB, 2, none⟩ = false ∧ w.frozen? ⟨RB, 3, none⟩ = false) := ⟨⟨h.rb.c0, h.rb.c1, h.rb.c2, h.rb.c3⟩, h.rb.f 0, h.rb.f 1, h.rb.f 2, h.rb.f 3⟩
end
end Go.Proofs.Ytlbblfbiiceofaa

namespace Go.Proofs.Ytlbblfbiiceofaa
open Go.RowKit

theorem odd0_any (R : Nat) (w : World) :
    Calls Try.prog 78 #[.pointer (some ⟨R, 0, none⟩), .int .i64 0] w fun e w' => e = .returned (.bool false) ∧ w = w' := by
  go_enter Try.func78, Try.ntmps78
  go_wp2_with fail
  go_ret
  exact ⟨rfl, rfl⟩

set_option maxHeartbeats 4000000 in
set_option maxRecDepth 100000 in
theorem l20Rule0_any (B R : Nat) (a : Option Addr) (len cap k : Nat) (w : World) (H : RdAt B R a len cap k w) (hk : k ≤ 900000) :
    Calls Try.prog 97 #[.pointer (some ⟨R, 0, none⟩), .int .i64 0] w (RulePost B R a len cap k w) := by
  have R1 := Lib.hid (H.keeps ((Below.refl _ w).alloc (Nat.le_refl _) (.cells #[.int .i64 0, .string ⟨#[]⟩, .string ⟨#[]⟩, .int .i64 0] 79)))
  have K1 := Lib.hid ((KeepsBut.refl R w).alloc (.cells #[.int .i64 0, .string ⟨#[]⟩, .string ⟨#[]⟩, .int .i64 0] 79))
  have F1 := Lib.hid (RuF.new w 0 ⟨#[]⟩ ⟨#[]⟩ 0 79)
  have HR := Lib.hid H.hR
  have HNE : Hid (w.heap.size ≠ R) := Lib.hid (Nat.ne_of_gt H.hR)
  clear H
  go_enter Try.func97, Try.ntmps97
  go_wp2_with fail
  refine (pick_any B R a len cap k 5 _ R1.out (by omega) (by omega) (by omega)).mono ?_
  rintro e w2 ⟨v, rfl, hv0, hv1, hR2, hK2⟩
  have hv5 := hv1 (by omega)
  have F2 := Lib.hid (F1.out.keeps hK2 HNE.out)
  have K2 := Lib.hid (K1.out.trans hK2)
  have R2 := Lib.hid hR2
  clear hv1 hR2 hK2 F1 K1 R1
  go_wp2_with fail
  refine (pick_any B R a len cap (k + 1) 3 _ (R2.out.keeps ((Below.refl _ _).alloc (Nat.le_refl _) _)) (by omega) (by omega) (by omega)).mono ?_
  rintro e w3 ⟨v3, rfl, hv30, hv31, hR3, hK3⟩
  obtain ⟨j, s3, rfl, hj, hs3, hcell⟩ := three_cells _ _ _ _ _ _ R R2.out.hR hK3 v3 hv30 (hv31 (by omega))
  have hsz3 : s3.size = 1 := by rcases hs3 with rfl | rfl | rfl <;> simp [ByteArray.size]
  have F3 := Lib.hid ((F2.out.keeps ((KeepsBut.refl R w2).alloc (.cells #[.string ⟨#[114]⟩, .string ⟨#[100]⟩, .string ⟨#[110]⟩] 9)) HNE.out).keeps hK3 HNE.out)
  have K3 := Lib.hid ((K2.out.alloc (.cells #[.string ⟨#[114]⟩, .string ⟨#[100]⟩, .string ⟨#[110]⟩] 9)).trans hK3)
  have R3 := Lib.hid hR3
  clear hv31 hR3 hK3 F2 K2 R2 hs3 hv30
  have hD : ∀ x : Int, Dr B R a len cap w w.heap.size w3.heap.size (k + 2) x s3 ⟨#[]⟩ 0 (w3.alloc (.cells #[.int .i64 x, .string s3, .string ⟨#[]⟩, .int .i64 0] 79)) := fun x =>
    ⟨R3.out.keeps ((Below.refl _ _).alloc (Nat.le_refl _) _), K3.out.alloc _, RuF.new w3 x s3 ⟨#[]⟩ 0 79, F3.out.keeps (R := R) ((KeepsBut.refl R w3).alloc _) HNE.out, Nat.le_refl _, K3.out.size, HR.out, Nat.ne_of_lt F3.out.hB⟩
  have HD := Lib.hid hD
  clear hD F3 K3 R3 HNE HR
  generalize hRB : w.heap.size = RB at *
  generalize hRU : w3.heap.size = RU at *
  obtain rfl | rfl | rfl | rfl | rfl : v = 0 ∨ v = 1 ∨ v = 2 ∨ v = 3 ∨ v = 4 := by omega
  · go_wp2_with fail
    refine (pick_any B R a len cap (k + 2) 4 _ (HD.out 0).rd (by omega) (by omega) (by omega)).mono ?_
    rintro e w5 ⟨v5, rfl, p0, p1, hR5, hK5⟩
    have p2 := p1 (by omega)
    have D5 := Lib.hid ((HD.out 0).keeps hR5 hK5)
    clear hR5 hK5 p1
    have hwr : IntKind.i64.wrap (v5) = v5 := IntWalk.i64_in _ (by omega)
    have D6 := Lib.hid (D5.out.set3 (v5))
    obtain ⟨⟨y0, y1, y2, y3⟩, f0, f1, f2, f3⟩ := D5.out.cells
    go_wp2_with fail
    clear y0 y1 y2 y3 f0 f1 f2 f3 D5
    refine (odd0_any R _).mono ?_
    rintro e w7 ⟨rfl, rfl⟩
    have D7 := D6
    clear D6
    obtain ⟨⟨y0, y1, y2, y3⟩, f0, f1, f2, f3⟩ := D7.out.cells
    obtain ⟨⟨z0, z1, z2, z3⟩, g0, g1, g2, g3⟩ := D7.out.cellsB
    have hq1 : RB ≠ RU := D7.out.ne
    have hq2 : RU ≠ RB := Ne.symm hq1
    have FI := Lib.hid (fun W hW => D7.out.fin (W := W) hW)
    go_wp2
    obtain ⟨r0, r1, r2, r3, r4, r5⟩ := FI.out _ rfl
    refine bodyPost_ret (v := .agg #[.int .i64 0, .string s3, .string ⟨#[]⟩, .int .i64 (v5)]) ?_ rfl ⟨0, s3, ⟨#[]⟩, (v5), rfl, by omega, by omega, hsz3, Nat.zero_le _, by omega, by omega, k + 3, by omega, by omega, r4, r5⟩
    simp [results, Try.results97, go_sem, r0, r1, r2, r3]
  · go_wp2_with fail
    refine (pick_any B R a len cap (k + 2) 2 _ (HD.out 1).rd (by omega) (by omega) (by omega)).mono ?_
    rintro e w5 ⟨v5, rfl, p0, p1, hR5, hK5⟩
    have p2 := p1 (by omega)
    have D5 := Lib.hid ((HD.out 1).keeps hR5 hK5)
    clear hR5 hK5 p1
    have hwr : IntKind.i64.wrap (2 + v5) = 2 + v5 := IntWalk.i64_in _ (by omega)
    have D6 := Lib.hid (D5.out.set3 (2 + v5))
    obtain ⟨⟨y0, y1, y2, y3⟩, f0, f1, f2, f3⟩ := D5.out.cells
    go_wp2_with fail
    clear y0 y1 y2 y3 f0 f1 f2 f3 D5
    refine (odd0_any R _).mono ?_
    rintro e w7 ⟨rfl, rfl⟩
    have D7 := D6
    clear D6
    obtain ⟨⟨y0, y1, y2, y3⟩, f0, f1, f2, f3⟩ := D7.out.cells
    obtain ⟨⟨z0, z1, z2, z3⟩, g0, g1, g2, g3⟩ := D7.out.cellsB
    have hq1 : RB ≠ RU := D7.out.ne
    have hq2 : RU ≠ RB := Ne.symm hq1
    have FI := Lib.hid (fun W hW => D7.out.fin (W := W) hW)
    go_wp2
    obtain ⟨r0, r1, r2, r3, r4, r5⟩ := FI.out _ rfl
    refine bodyPost_ret (v := .agg #[.int .i64 1, .string s3, .string ⟨#[]⟩, .int .i64 (2 + v5)]) ?_ rfl ⟨1, s3, ⟨#[]⟩, (2 + v5), rfl, by omega, by omega, hsz3, Nat.zero_le _, by omega, by omega, k + 3, by omega, by omega, r4, r5⟩
    simp [results, Try.results97, go_sem, r0, r1, r2, r3]
  · go_wp2_with fail
    have DA := Lib.hid ((HD.out 2).alloc (.cells #[.string ⟨#[114]⟩, .string ⟨#[100]⟩, .string ⟨#[110]⟩] 9))
    refine (pick_any B R a len cap (k + 2) 3 _ DA.out.rd (by omega) (by omega) (by omega)).mono ?_
    rintro e w5 ⟨v5, rfl, p0, p1, hR5, hK5⟩
    obtain ⟨j5, s5, rfl, hj5, hs5, hc5⟩ := three_cells _ _ _ _ _ _ R (HD.out 2).rd.hR hK5 v5 p0 (p1 (by omega))
    rw [World.size_alloc, hRU] at hc5
    have hsz5 : s5.size ≤ 1 := by rcases hs5 with rfl | rfl | rfl <;> simp [ByteArray.size]
    have D5 := Lib.hid (DA.out.keeps hR5 hK5)
    clear hR5 hK5 p1 DA hs5
    have D6 := Lib.hid (D5.out.set2 s5)
    obtain ⟨⟨y0, y1, y2, y3⟩, f0, f1, f2, f3⟩ := D5.out.cells
    go_wp2_with fail
    clear y0 y1 y2 y3 f0 f1 f2 f3 D5
    refine (odd0_any R _).mono ?_
    rintro e w7 ⟨rfl, rfl⟩
    have D7 := D6
    clear D6
    obtain ⟨⟨y0, y1, y2, y3⟩, f0, f1, f2, f3⟩ := D7.out.cells
    obtain ⟨⟨z0, z1, z2, z3⟩, g0, g1, g2, g3⟩ := D7.out.cellsB
    have hq1 : RB ≠ RU := D7.out.ne
    have hq2 : RU ≠ RB := Ne.symm hq1
    have FI := Lib.hid (fun W hW => D7.out.fin (W := W) hW)
    go_wp2
    obtain ⟨r0, r1, r2, r3, r4, r5⟩ := FI.out _ rfl
    refine bodyPost_ret (v := .agg #[.int .i64 2, .string s3, .string s5, .int .i64 0]) ?_ rfl ⟨2, s3, s5, 0, rfl, by omega, by omega, hsz3, hsz5, by omega, by omega, k + 3, by omega, by omega, r4, r5⟩
    simp [results, Try.results97, go_sem, r0, r1, r2, r3]
  · go_wp2_with fail
    refine (pick_any B R a len cap (k + 2) 5 _ (HD.out 3).rd (by omega) (by omega) (by omega)).mono ?_
    rintro e w5 ⟨v5, rfl, p0, p1, hR5, hK5⟩
    have p2 := p1 (by omega)
    have D5 := Lib.hid ((HD.out 3).keeps hR5 hK5)
    clear hR5 hK5 p1
    have hwr : IntKind.i64.wrap (v5) = v5 := IntWalk.i64_in _ (by omega)
    have D6 := Lib.hid (D5.out.set3 (v5))
    obtain ⟨⟨y0, y1, y2, y3⟩, f0, f1, f2, f3⟩ := D5.out.cells
    go_wp2_with fail
    clear y0 y1 y2 y3 f0 f1 f2 f3 D5
    refine (odd0_any R _).mono ?_
    rintro e w7 ⟨rfl, rfl⟩
    have D7 := D6
    clear D6
    obtain ⟨⟨y0, y1, y2, y3⟩, f0, f1, f2, f3⟩ := D7.out.cells
    obtain ⟨⟨z0, z1, z2, z3⟩, g0, g1, g2, g3⟩ := D7.out.cellsB
    have hq1 : RB ≠ RU := D7.out.ne
    have hq2 : RU ≠ RB := Ne.symm hq1
    have FI := Lib.hid (fun W hW => D7.out.fin (W := W) hW)
    go_wp2
    obtain ⟨r0, r1, r2, r3, r4, r5⟩ := FI.out _ rfl
    refine bodyPost_ret (v := .agg #[.int .i64 3, .string s3, .string ⟨#[]⟩, .int .i64 (v5)]) ?_ rfl ⟨3, s3, ⟨#[]⟩, (v5), rfl, by omega, by omega, hsz3, Nat.zero_le _, by omega, by omega, k + 3, by omega, by omega, r4, r5⟩
    simp [results, Try.results97, go_sem, r0, r1, r2, r3]
  · go_wp2_with fail
    refine (pick_any B R a len cap (k + 2) 3 _ (HD.out 4).rd (by omega) (by omega) (by omega)).mono ?_
    rintro e w5 ⟨v5, rfl, p0, p1, hR5, hK5⟩
    have p2 := p1 (by omega)
    have D5 := Lib.hid ((HD.out 4).keeps hR5 hK5)
    clear hR5 hK5 p1
    have hwr : IntKind.i64.wrap (1 + v5) = 1 + v5 := IntWalk.i64_in _ (by omega)
    have D6 := Lib.hid (D5.out.set3 (1 + v5))
    obtain ⟨⟨y0, y1, y2, y3⟩, f0, f1, f2, f3⟩ := D5.out.cells
    go_wp2_with fail
    clear y0 y1 y2 y3 f0 f1 f2 f3 D5
    refine (odd0_any R _).mono ?_
    rintro e w7 ⟨rfl, rfl⟩
    have D7 := D6
    clear D6
    obtain ⟨⟨y0, y1, y2, y3⟩, f0, f1, f2, f3⟩ := D7.out.cells
    obtain ⟨⟨z0, z1, z2, z3⟩, g0, g1, g2, g3⟩ := D7.out.cellsB
    have hq1 : RB ≠ RU := D7.out.ne
    have hq2 : RU ≠ RB := Ne.symm hq1
    have FI := Lib.hid (fun W hW => D7.out.fin (W := W) hW)
    go_wp2
    obtain ⟨r0, r1, r2, r3, r4, r5⟩ := FI.out _ rfl
    refine bodyPost_ret (v := .agg #[.int .i64 4, .string s3, .string ⟨#[]⟩, .int .i64 (1 + v5)]) ?_ rfl ⟨4, s3, ⟨#[]⟩, (1 + v5), rfl, by omega, by omega, hsz3, Nat.zero_le _, by omega, by omega, k + 3, by omega, by omega, r4, r5⟩
    simp [results, Try.results97, go_sem, r0, r1, r2, r3]
end Go.Proofs.Ytlbblfbiiceofaa

namespace Go.Proofs.Ytlbblfbiiceofaa
open Go.RowKit

/-- the row of the parts -/
def outT (ov : Value) (ps : List (Value × List Mk)) : Thing := rowT 41 1 ov ps.length (ps.map Prod.fst)
/-- a part -/
def innM (p : Value × List Mk) : Thing := rowT 81 5 p.1 p.2.length (cellsM p.2)
/-- all marks -/
def totM (ps : List (Value × List Mk)) : Nat := (ps.map fun p => p.2.length).sum
/-- parts that are being put together -/
structure PartsOk (ps : List (Value × List Mk)) (left : Nat) : Prop where
  n1 : 1 ≤ ps.length
  n3 : ps.length ≤ 3
  tot : totM ps + left + ps.length ≤ 8
  one : ∀ p ∈ ps, 1 ≤ p.2.length
  wf : ∀ p ∈ ps, ∀ m ∈ p.2, m.wf
/-- the length of a slice -/
def lenV : Value → Nat
  | .slice _ n _ => n
  | _ => 0
/-- what drawing a term leaves -/
def TermDrawn (B R : Nat) (a : Option Addr) (len cap k : Nat) (w : World) (e : Ending) (w' : World) : Prop :=
  ∃ (ms : List Mk) (v : Value) (k' : Nat), e = .returned v ∧ ms.length ≤ 10 ∧ (∀ m ∈ ms, m.wf) ∧ k ≤ k' ∧ k' ≤ k + 100 ∧ OwR B R a len cap w k' [rowT 81 5 v ms.length (cellsM ms)] w'
theorem markOf_wf (k : Int) (h0 : 0 ≤ k) (h1 : k ≤ 3) : (markOf k).wf := by
  refine ⟨?_, (show (Lit.int .i64 0).wf = true by decide), Nat.zero_le _, Nat.zero_le _, (show (Lit.int .i64 0).wf = true by decide)⟩
  obtain rfl | rfl | rfl | rfl : k = 0 ∨ k = 1 ∨ k = 2 ∨ k = 3 := by omega
  all_goals decide
theorem rule_wf {kind many : Int} {letter thn : ByteArray} (p1 : 0 ≤ kind) (p2 : kind ≤ 5) (p3 : letter.size = 1) (p4 : thn.size ≤ 1) (p5 : -1 ≤ many) (p6 : many ≤ 6) : (Mk.mk 0 ⟨kind, letter, thn, many⟩).wf := by
  refine ⟨(show (Lit.int .i64 0).wf = true by decide), ?_, by show letter.size ≤ _; unfold maxLen; omega, by show thn.size ≤ _; unfold maxLen; omega, ?_⟩
  · show (Lit.int .i64 kind).wf = true
    exact WalkArith.wf_i64 (by omega)
  · show (Lit.int .i64 many).wf = true
    exact WalkArith.wf_i64 (by omega)
theorem OwR.start1 {B R : Nat} {a : Option Addr} {len cap k : Nat} {w : World} (h : RdAt B R a len cap k w) (t : TypeId) (cs : Array Value) (n sz : Nat) (hs : cs.size = n * sz) (hm : n ≤ maxLen) : OwR B R a len cap w k [rowT t sz (.slice (some ⟨w.heap.size, 0, none⟩) n n) n cs.toList] (w.alloc (.cells cs t)) := (OwR.start h).lit cs t n sz hs hm
section
variable {B R : Nat} {a : Option Addr} {len cap : Nat} {w0 : World} {k : Nat} {ov : Value} {ps : List (Value × List Mk)} {w w1 : World}
/-- a part more -/
theorem OwR.part {p : Value × List Mk} {g cp : Nat} {tt : TypeId} (h : OwR B R a len cap w0 k (innM p :: outT ov ps :: ps.map innM) w) (hg : (w.alloc (.cells #[p.1] tt)).grownBy w1 ov.ownBlock)
    (ho : w1.ownsRow 0 41 1 (.slice (some ⟨g, 0, none⟩) (ps.length + 1) cp) (ps.length + 1) (ps.map Prod.fst ++ [p.1])) (hat : ov.ownBlock = some g ∨ g = (w.alloc (.cells #[p.1] tt)).heap.size) :
    OwR B R a len cap w0 k (outT (.slice (some ⟨g, 0, none⟩) (ps.length + 1) cp) (ps ++ [p]) :: (ps ++ [p]).map innM) w1 := by
  have h1 := (h.alloc (.cells #[p.1] tt)).turn (i := 1) (by simp) rfl hg ho hat
  have e : outT (.slice (some ⟨g, 0, none⟩) (ps.length + 1) cp) (ps ++ [p]) = rowT 41 1 (.slice (some ⟨g, 0, none⟩) (ps.length + 1) cp) (ps.length + 1) (ps.map Prod.fst ++ [p.1]) := by
    rw [outT, List.length_append, List.map_append]; rfl
  rw [e, List.map_append]
  refine h1.perm ?_
  show (innM p :: rowT 41 1 _ _ _ :: ps.map innM).Perm _
  exact (List.Perm.swap _ _ _).trans (List.Perm.cons _ (List.perm_append_singleton _ _).symm)
end
theorem PartsOk.not {ps qs : List (Value × List Mk)} {p : Value × List Mk} {v : Value} {left : Nat} (h : PartsOk (ps ++ p :: qs) (left + 1)) : PartsOk (ps ++ (v, p.2 ++ [markOf 3]) :: qs) left := by
  refine ⟨by simp; omega, by have := h.n3; simpa using this, ?_, ?_, ?_⟩
  · have := h.tot
    simp [totM] at this ⊢
    omega
  · intro q hq
    rcases List.mem_append.1 hq with g | g
    · exact h.one q (List.mem_append.2 (.inl g))
    · rcases List.mem_cons.1 g with rfl | g
      · simp
      · exact h.one q (List.mem_append.2 (.inr (List.mem_cons_of_mem _ g)))
  · intro q hq
    rcases List.mem_append.1 hq with g | g
    · exact h.wf q (List.mem_append.2 (.inl g))
    · rcases List.mem_cons.1 g with rfl | g
      · intro m hm
        rcases List.mem_append.1 hm with f | f
        · exact h.wf p (List.mem_append.2 (.inr List.mem_cons_self)) m f
        · rw [List.mem_singleton] at f; subst f; exact markOf_wf 3 (by omega) (by omega)
      · exact h.wf q (List.mem_append.2 (.inr (List.mem_cons_of_mem _ g)))
theorem PartsOk.join {ps qs : List (Value × List Mk)} {p r : Value × List Mk} {v : Value} {left : Nat} {k : Int} (k0 : 0 ≤ k) (k3 : k ≤ 3) (h : PartsOk (ps ++ p :: r :: qs) left) : PartsOk (ps ++ (v, p.2 ++ r.2 ++ [markOf k]) :: qs) left := by
  refine ⟨by simp; omega, by have := h.n3; simp at this ⊢; omega, ?_, ?_, ?_⟩
  · have := h.tot
    simp [totM] at this ⊢
    omega
  · intro q hq
    rcases List.mem_append.1 hq with g | g
    · exact h.one q (List.mem_append.2 (.inl g))
    · rcases List.mem_cons.1 g with rfl | g
      · simp; omega
      · exact h.one q (List.mem_append.2 (.inr (List.mem_cons_of_mem _ (List.mem_cons_of_mem _ g))))
  · intro q hq
    rcases List.mem_append.1 hq with g | g
    · exact h.wf q (List.mem_append.2 (.inl g))
    · rcases List.mem_cons.1 g with rfl | g
      · intro m hm
        rcases List.mem_append.1 hm with f | f
        · rcases List.mem_append.1 f with f | f
          · exact h.wf p (List.mem_append.2 (.inr List.mem_cons_self)) m f
          · exact h.wf r (List.mem_append.2 (.inr (List.mem_cons_of_mem _ List.mem_cons_self))) m f
        · rw [List.mem_singleton] at f; subst f; exact markOf_wf k k0 k3
      · exact h.wf q (List.mem_append.2 (.inr (List.mem_cons_of_mem _ (List.mem_cons_of_mem _ g))))
theorem le_tot {ps : List (Value × List Mk)} {p : Value × List Mk} (hp : p ∈ ps) : p.2.length ≤ totM ps := by
  induction ps with
  | nil => cases hp
  | cons q qs ih =>
    rw [totM, List.map_cons, List.sum_cons]
    rcases List.mem_cons.1 hp with rfl | h
    · omega
    · have := ih h
      rw [totM] at this; omega
theorem PartsOk.le {ps : List (Value × List Mk)} {left : Nat} (h : PartsOk ps left) (p : Value × List Mk) (hp : p ∈ ps) : 1 ≤ p.2.length ∧ p.2.length ≤ 7 := by
  refine ⟨h.one p hp, ?_⟩
  have h1 : p.2.length ≤ totM ps := by
    exact le_tot hp
  have h2 := h.tot
  have h3 := h.n1
  omega
section
variable {B R : Nat} {a : Option Addr} {len cap : Nat} {w0 : World} {k : Nat} {ts : List Thing} {w : World}
theorem OwR.formM (h : OwR B R a len cap w0 k ts w) (i : Nat) (hi : i < ts.length) {p : Value × List Mk} (he : ts[i] = innM p) (hn : 1 ≤ p.2.length) : ∃ g c, p.1 = .slice (some ⟨g, 0, none⟩) p.2.length c := by
  have hr := h.row i hi he
  rcases hr.2 with ⟨_, hz⟩ | ⟨g, cap, cur, e, _⟩
  · omega
  · exact ⟨g, cap, e⟩
theorem OwR.formO (h : OwR B R a len cap w0 k ts w) (i : Nat) (hi : i < ts.length) {oa : Option Addr} {n c : Nat} {e : TypeId} {xs : List Value} (he : ts[i] = rowT e 1 (.slice oa n c) n xs) (hn : 1 ≤ n) : ∃ g, oa = some ⟨g, 0, none⟩ ∧ n ≤ c ∧ c ≤ maxLen ∧ R < g ∧ g < w.heap.size := by
  have hr := h.row i hi he
  have hlt := h.ap.ltAt i hi
  have hR := h.hR
  rcases hr.2 with ⟨e1, hz⟩ | ⟨g, cap, cur, e1, _, hg, h1, h2, _⟩
  · omega
  · simp only [Value.slice.injEq, true_and] at e1
    obtain ⟨rfl, rfl⟩ := e1
    have hb := hlt g (by rw [he]; rfl)
    exact ⟨g, rfl, h1, h2, by omega, hb.2⟩
/-- what a row of one-cell elements holds, read in whatever world the row is owned in -/
theorem OwR.cell (h : OwR B R a len cap w0 k ts w) (i : Nat) (hi : i < ts.length) {g n c : Nat} {e : TypeId} {xs : List Value} (he : ts[i] = rowT e 1 (.slice (some ⟨g, 0, none⟩) n c) n xs) (j : Nat) (hj : j < n) : w.cell? ⟨g, j, none⟩ = xs[j]? ∧ w.frozen? ⟨g, j, none⟩ = false :=
  have hr := h.row i hi he
  ⟨World.ownsRow.cellAt hr j (by omega), World.ownsRow.frozenAt hr j⟩
end
theorem seg_news {w : World} {b : Nat} {e : TypeId} {g c n : Nat} {xs : List Value} (h : w.ownsRow b e 1 (.slice (some ⟨g, 0, none⟩) n c) n xs) (k : Nat) (x : Value) (hx : xs[k]? = some x) : ∀ j u, [x][j]? = some u → w.cell? ((⟨g, k, none⟩ : Addr).add j) = some u := by
  intro j u hj
  cases j with
  | zero =>
    simp only [List.getElem?_cons_zero, Option.some.injEq] at hj
    subst hj
    have hlt : k < xs.length := by
      rcases Nat.lt_or_ge k xs.length with h | h
      · exact h
      · rw [List.getElem?_eq_none h] at hx; cases hx
    have := World.ownsRow.cellAt h k (by have := h.1; omega)
    rw [hx] at this
    exact this
  | succ j => simp at hj
theorem mark_kind (v : Int) (h0 : 0 ≤ v) (h3 : v < 3) : ∃ kd, IntKind.i64.wrap (1 + IntKind.i64.wrap (v.tdiv 2)) = kd ∧ 0 ≤ kd ∧ kd ≤ 3 := by
  obtain rfl | rfl | rfl : v = 0 ∨ v = 1 ∨ v = 2 := by omega
  all_goals exact ⟨_, rfl, by decide, by decide⟩
theorem innM_snoc (v : Value) (ms : List Mk) (m : Mk) (n : Nat) (h : n = ms.length + 1) : innM (v, ms ++ [m]) = rowT 81 5 v n (cellsM (ms ++ [m])) := by
  subst h
  rw [innM]; simp only [List.length_append, List.length_singleton]
theorem cellsM_snoc (ms : List Mk) (m : Mk) : cellsM (ms ++ [m]) = cellsM ms ++ m.cells := by rw [cellsM_append]; simp [cellsM]
end Go.Proofs.Ytlbblfbiiceofaa

namespace Go.Proofs.Ytlbblfbiiceofaa
open Go.RowKit

def Mk.zero : Mk := ⟨0, Ru.void⟩

theorem set5_append (a l : List Value) (j : Nat) (x : Value) : (a ++ l).set (a.length + j) x = a ++ l.set j x := by
  rw [List.set_append_right _ _ (by omega)]; congr 1; congr 1; omega
theorem cellsM_set (ms : List Mk) : ∀ (k : Nat) (_ : k < ms.length) (m : Mk), (((((cellsM ms).set (k * 5) (.int .i64 m.kind)).set (k * 5 + 1) (.int .i64 m.its.kind)).set (k * 5 + 2) (.string m.its.letter)).set (k * 5 + 3) (.string m.its.thn)).set (k * 5 + 4) (.int .i64 m.its.many) = cellsM (ms.set k m) := by
  induction ms with
  | nil => intro k h; exact absurd h (Nat.not_lt_zero k)
  | cons x ms ih =>
    intro k h m
    match k, h with
    | 0, _ => simp [cellsM, Mk.cells]
    | k + 1, h =>
      have hl : x.cells.length = 5 := rfl
      have e : ∀ j, (k + 1) * 5 + j = x.cells.length + (k * 5 + j) := fun j => by rw [hl]; omega
      have e0 : (k + 1) * 5 = x.cells.length + k * 5 := by rw [hl]; omega
      simp only [cellsM, List.set_cons_succ]
      rw [e, e, e, e, e0, set5_append, set5_append, set5_append, set5_append, set5_append, ih k (by simpa using h) m]
/-- marks of which the first k are copied -/
def cpM (ms : List Mk) (k : Nat) : List Mk := ms.take k ++ List.replicate (ms.length - k) Mk.zero
/-- a fresh slice that holds marks -/
def MarksPost (ms : List Mk) (w : World) (e : Ending) (w' : World) : Prop :=
  ∃ v, e = .returned v ∧ w'.ownsRow w.heap.size 81 5 v ms.length (cellsM ms) ∧ Below w.heap.size w w'

end Go.Proofs.Ytlbblfbiiceofaa

namespace Go.Proofs.Ytlbblfbiiceofaa
open Go.RowKit

theorem oddN_any (B R : Nat) (a : Option Addr) (len cap k : Nat) (n : Int) (w : World) (H : RdAt B R a len cap k w) (hk : k ≤ 900000) (hn : 0 ≤ n) (hn2 : n ≤ 1000) :
    Calls Try.prog 78 #[.pointer (some ⟨R, 0, none⟩), .int .i64 n] w fun e w' => ∃ b : Bool, e = .returned (.bool b) ∧ ∃ k', k ≤ k' ∧ k' ≤ k + 1 ∧ RdAt B R a len cap k' w' ∧ KeepsBut R w w' := by
  by_cases h : n = 0
  · subst h
    refine (odd0_any R w).mono ?_
    rintro e w' ⟨rfl, rfl⟩
    exact ⟨false, rfl, k, Nat.le_refl _, Nat.le_succ _, H, KeepsBut.refl _ _⟩
  · refine (odd_any B R a len cap k n w H (by omega) (by omega) (by omega)).mono ?_
    rintro e w' ⟨b, rfl, h1, h2⟩
    exact ⟨b, rfl, k + 1, Nat.le_succ _, Nat.le_refl _, h1, h2⟩

set_option maxHeartbeats 12000000 in
set_option maxRecDepth 100000 in
theorem l20Term_any (B R : Nat) (a : Option Addr) (len cap k : Nat) (n : Int) (w : World) (H : RdAt B R a len cap k w) (hk : k ≤ 800000) (hn : 0 ≤ n) (hn2 : n ≤ 1000) :
    Calls Try.prog 82 #[.pointer (some ⟨R, 0, none⟩), .int .i64 n] w (TermDrawn B R a len cap k w) := by
  obtain ⟨i0, hi, hz0, hz1, hz2⟩ := info_parts infoMarkD
  obtain ⟨s0, hs, hy0, hy1, hy2⟩ := info_parts infoMarkS
  have HI := Lib.hid (And.intro hi (And.intro hz0 (And.intro hz1 hz2)))
  have HS := Lib.hid (And.intro hs (And.intro hy0 (And.intro hy1 hy2)))
  clear hi hz0 hz1 hz2 hs hy0 hy1 hy2
  have O0 := Lib.hid (OwR.start1 H 41 #[] 0 1 rfl (Nat.zero_le _))
  have HRW := Lib.hid H.hR
  clear H
  go_enter Try.func82, Try.ntmps82
  go_wp2_with fail
  refine (pick_any B R a len cap k 3 _ O0.out.rd (by omega) (by omega) (by omega)).mono ?_
  rintro e w2 ⟨v, rfl, hv0, hv1, hR2, hK2⟩
  have hv3 := hv1 (by omega)
  have O1 := Lib.hid (O0.out.picked hR2 hK2)
  clear hv1 hR2 hK2 O0
  generalize hB0 : w.heap.size = B0 at *
  have HB0 := Lib.hid hB0
  clear hB0
  go_wp2_with fail
  go_loopw [5, 6] (fun ov rv wr => ∃ (ps : List (Value × List Mk)) (rm : Nat) (ri : Int) (k' : Nat), ri = (rm : Int) ∧ rv = .int .i64 ri ∧ 1 ≤ ps.length + rm ∧ ps.length + rm ≤ 3 ∧ totM ps = ps.length ∧ (∀ p ∈ ps, 1 ≤ p.2.length) ∧ (∀ p ∈ ps, ∀ m ∈ p.2, m.wf) ∧ k' ≤ k + 1 + 10 * ps.length ∧ k ≤ k' ∧ OwR B R a len cap w k' (outT ov ps :: ps.map innM) wr) (fun _ rv _ => (intOf rv).toNat)
  case atStart => exact ⟨[], (1 + v).toNat, 1 + v, k + 1, by omega, rfl, by simp; omega, by simp; omega, rfl, by simp, by simp, by simp, by omega, O1.out⟩
  case round =>
    obtain ⟨ps, rm, ri, k1, hri, rfl, hp1, hp3, htot, hone, hwf, hk1, hk2, hO⟩ := hrel
    have O2 := Lib.hid hO
    have HRI := Lib.hid hri
    have HALL := Lib.hid (And.intro htot (And.intro hone hwf))
    have HNP := Lib.hid (And.intro hp1 (And.intro hp3 (And.intro hk1 hk2)))
    obtain ⟨oa, oc, rfl⟩ := ownsRow_sliceD (hO.row 0 (by simp) rfl)
    clear hO htot hone hwf O1
    by_cases hlt : 0 < rm
    · have hltI : 0 < ri := by omega
      have hq : IntKind.i64.wrap (ri - 1) = ri - 1 := IntWalk.i64_in _ (by omega)
      have hpl : ps.length ≤ 3 := by omega
      clear hri hp1
      go_wp2_with fail
      refine (l20Rule0_any B R a len cap k1 wr O2.out.rd (by omega)).mono ?_
      rintro e w3 ⟨kind, letter, thn, many, rfl, p1, p2, p3, p4, p5, p6, k3, hk3, hk4, hR3, hK3⟩
      have O3 := Lib.hid (O2.out.picked hR3 hK3)
      generalize hmk : Mk.mk 0 ⟨kind, letter, thn, many⟩ = mk at *
      have O4 : Hid (OwR B R a len cap w k3 (innM (.slice (some ⟨w3.heap.size, 0, none⟩) 1 1, [Mk.mk 0 ⟨kind, letter, thn, many⟩]) :: outT (.slice oa ps.length oc) ps :: ps.map innM) (w3.alloc (.cells #[.int .i64 0, .int .i64 kind, .string letter, .string thn, .int .i64 many] 81))) := Lib.hid (O3.out.lit #[.int .i64 0, .int .i64 kind, .string letter, .string thn, .int .i64 many] 81 1 5 rfl (by unfold maxLen; omega))
      have HWF := Lib.hid (rule_wf p1 p2 p3 p4 p5 p6)
      clear hR3 hK3 p1 p2 p3 p4 p5 p6 hmk
      go_wp2_with (at_builtin; refine wpList_append_lies _ rfl _ _ 110 rfl 0 41 s0 (.slice none 0 0) 1 24 Try.underlying110 HS.out.1 HS.out.2.1 HS.out.2.2.1 HS.out.2.2.2 rfl (by decide) (.slice oa ps.length oc) ps.length (ps.map Prod.fst) rfl ((O4.out.row 1 (by simp) rfl).alloc _) ⟨w3.heap.size + 1, 0, none⟩ 1 1 [.slice (some ⟨w3.heap.size, 0, none⟩) 1 1] rfl rfl (new_news _ #[.slice (some ⟨w3.heap.size, 0, none⟩) 1 1] _ _ (by simp)) (by simp [Value.oneCell']) (by omega) (by unfold maxLen; omega) (by omega) (Nat.zero_le _) _ rfl ?_; intro g9 cp w6 hown hgrow hat hlt3; have O5 := Lib.hid (O4.out.part hgrow hown hat); clear hown hgrow hat hlt3)
      go_roundw
      case rel =>
        refine ⟨ps ++ [_], rm - 1, ri - 1, k3, by have := HRI.out; omega, by first | rfl | rw [hq], ?_, ?_, ?_, ?_, ?_, ?_, ?_, O5.out⟩
        · rw [List.length_append, List.length_singleton]; have := HNP.out.1; omega
        · rw [List.length_append, List.length_singleton]; have := HNP.out.2.1; omega
        · rw [List.length_append, List.length_singleton, totM, List.map_append, List.sum_append]
          have := HALL.out.1
          rw [totM] at this
          simp [this]
        · intro q hq2
          rcases List.mem_append.1 hq2 with h | h
          · exact HALL.out.2.1 q h
          · rw [List.mem_singleton] at h; subst h; exact Nat.le_refl _
        · intro q hq2
          rcases List.mem_append.1 hq2 with h | h
          · exact HALL.out.2.2 q h
          · rw [List.mem_singleton] at h; subst h
            intro m hm
            rw [List.mem_singleton] at hm; subst hm
            exact HWF.out
        · rw [List.length_append, List.length_singleton]; have := HNP.out.2.2.1; omega
        · have := HNP.out.2.2.2; omega
      case measure => simp [intOf]; omega
    · skip
      have hrm : rm = 0 := by omega
      have hnlt : ¬ 0 < ri := by omega
      have HPO := Lib.hid (show PartsOk ps 2 from ⟨by omega, by omega, by have := HALL.out.1; omega, HALL.out.2.1, HALL.out.2.2⟩)
      have HKB := Lib.hid (show k1 + 10 * (2 + ps.length) ≤ k + 81 ∧ k ≤ k1 by have := HNP.out.2.2.1; have := HNP.out.2.2.2; omega)
      clear hri hp1 hp3 hk1 hk2 hlt HALL HNP hrm
      go_wp2_with fail
      clear hnlt
      go_loopw [5, 7, 8, 9, 10] (fun ov lv _ _ _ wr => ∃ (ps : List (Value × List Mk)) (left : Nat) (li : Int) (k' : Nat), li = (left : Int) ∧ lv = .int .i64 li ∧ left ≤ 2 ∧ PartsOk ps left ∧ k' + 10 * (left + ps.length) ≤ k + 81 ∧ k ≤ k' ∧ OwR B R a len cap w k' (outT ov ps :: ps.map innM) wr) (fun ov lv _ _ _ _ => lenV ov + (intOf lv).toNat)
      case atStart => exact ⟨ps, 2, 2, k1, rfl, rfl, Nat.le_refl _, HPO.out, HKB.out.1, HKB.out.2, O2.out⟩
      case round =>
        clear HPO HKB O2
        obtain ⟨ps, left, li, k2, hli, rfl, hl2, hpo, hkb1, hkb2, hO⟩ := hrel
        have HPO := Lib.hid hpo
        have HLI := Lib.hid hli
        have HKB := Lib.hid (And.intro hkb1 hkb2)
        have O2 := Lib.hid hO
        have hn1 := hpo.n1
        have hn3 := hpo.n3
        have hli0 : 0 ≤ li := by omega
        have hli2 : li ≤ 2 := by omega
        have hqL : IntKind.i64.wrap (li - 1) = li - 1 := IntWalk.i64_in _ (by omega)
        obtain ⟨oa, oc, rfl⟩ := ownsRow_sliceD (hO.row 0 (by simp) rfl)
        clear hO hpo hkb1 hkb2 hli
        rcases ps with _ | ⟨⟨v1, m1⟩, _ | ⟨⟨v2, m2⟩, _ | ⟨⟨v3, m3⟩, _ | ⟨p4, rest⟩⟩⟩⟩
        · simp at hn1
        · have HONE := Lib.hid (HPO.out)
          have h1a := HPO.out.le (v1, m1) (by simp)
          obtain ⟨g1, c1, hv1⟩ := O2.out.formM 1 (by simp) (p := (v1, m1)) rfl h1a.1
          simp only at hv1 h1a
          subst hv1
          obtain ⟨go, rfl, hoc1, hoc2, hgR, hgo⟩ := O2.out.formO 0 (by simp) (n := 1) rfl (by omega)
          unfold maxLen at hoc2
          clear hn1 hn3
          have x1 := (O2.out.cell (i := 0) (n := 1) (by simp) rfl 0 (by omega)).1
          simp only [List.map_cons, List.map_nil, List.getElem?_cons_zero] at x1
          replace HKB := Lib.hid (show k2 + 10 * (left + 1) ≤ k + 81 ∧ k ≤ k2 by have h1 := HKB.out.1; have h2 := HKB.out.2; simp at h1; omega)
          have HW1 := Lib.hid (fun m hm => HPO.out.wf (.slice (some ⟨g1, 0, none⟩) m1.length c1, m1) (by simp) m hm)
          have HL1 := Lib.hid h1a
          clear HONE
          go_wp2_with fail
          clear x1
          refine (pick_any B R a len cap k2 6 _ O2.out.rd (by have := HKB.out.1; omega) (by omega) (by omega)).mono ?_
          rintro e w4 ⟨v6, rfl, q0, q1, hR4, hK4⟩
          have O3 := Lib.hid (O2.out.picked hR4 hK4)
          clear q1 hR4 hK4 O2
          by_cases h60 : v6 = 0
          · subst h60
            go_wp2_with (at_builtin; refine wpList_append_lies _ rfl _ _ 41 rfl 0 81 i0 (.agg #[.int .i64 0, .int .i64 0, .string ⟨#[]⟩, .string ⟨#[]⟩, .int .i64 0]) 5 56 Try.underlying41 HI.out.1 HI.out.2.1 HI.out.2.2.1 HI.out.2.2.2 rfl (by decide) (.slice (some ⟨g1, 0, none⟩) m1.length c1) m1.length (cellsM m1) rfl ((O3.out.alloc _).row 1 (by simp) rfl) ⟨w4.heap.size, 0, none⟩ 1 1 (markOf 3).cells rfl rfl (new_news w4 #[.int .i64 3, .int .i64 0, .string ⟨#[]⟩, .string ⟨#[]⟩, .int .i64 0] _ _ rfl) (by intro u hu; exact cellsM_one [markOf 3] u (by simpa [cellsM] using hu)) (by omega) (by unfold maxLen; omega) (by omega) (Nat.zero_le _) _ rfl ?_; intro gT cT wT hown hgrow hat hlt3; rw [← cellsM_snoc] at hown; have O4 := Lib.hid ((O3.out.alloc (.cells #[.int .i64 3, .int .i64 0, .string ⟨#[]⟩, .string ⟨#[]⟩, .int .i64 0] 81)).turn (i := 1) (by simp) rfl hgrow hown hat); clear hown hgrow hat hlt3)
            have HLE := Lib.hid (show (m1.length + 1) = ((m1 ++ [markOf 3])).length from by simp)
            have HWF := Lib.hid (fun m hm => (List.mem_append.1 hm).elim (fun h => HW1.out m h) (fun h => by rw [List.mem_singleton] at h; subst h; exact markOf_wf 3 (by omega) (by omega)) : ∀ m ∈ (m1 ++ [markOf 3]), m.wf)
            have HLL := Lib.hid (by have := HL1.out; omega : 1 ≤ (m1.length + 1) ∧ (m1.length + 1) ≤ 8)
            have hll2 := HLL.out.2
            refine (oddN_any B R a len cap (k2 + 1) n _ O4.out.rd (by have := HKB.out.1; omega) hn (by omega)).mono ?_
            rintro e wo ⟨b, rfl, k5, hk5, hk6, hR5, hK5⟩
            have O5 := Lib.hid (O4.out.picked hR5 hK5)
            clear hR5 hK5
            cases b with
            | false =>
              go_wp2_with fail
              go_ret
              refine ⟨(m1 ++ [markOf 3]), (.slice (some ⟨gT, 0, none⟩) (m1.length + 1) cT), k5, rfl, by have h1 := HLE.out; have h2 := HLL.out.2; omega, HWF.out, by have := HKB.out.2; omega, by have := HKB.out.1; omega, ?_⟩
              have hz := O5.out.sub (us := [rowT 81 5 (.slice (some ⟨gT, 0, none⟩) (m1.length + 1) cT) (m1.length + 1) (cellsM ((m1 ++ [markOf 3])))]) (List.Sublist.cons _ (List.Sublist.cons_cons _ (List.nil_sublist _)))
              rw [HLE.out] at hz ⊢
              exact hz
            | true =>
              go_wp2_with fail
              refine (pick_any B R a len cap k5 3 _ O5.out.rd (by have := HKB.out.1; omega) (by omega) (by omega)).mono ?_
              rintro e wq ⟨v5, rfl, q0, q1, hR6, hK6⟩
              have q2 := q1 (by omega)
              have O6 := Lib.hid (O5.out.picked hR6 hK6)
              clear q1 hR6 hK6 O5
              obtain rfl | rfl | rfl : v5 = 0 ∨ v5 = 1 ∨ v5 = 2 := by omega
              · have O7 := Lib.hid (O6.out.lit #[] 81 0 5 rfl (Nat.zero_le _))
                go_wp2_with fail
                go_ret
                exact ⟨[], _, k5 + 1, rfl, Nat.zero_le _, (fun m hm => by cases hm), by have := HKB.out.2; omega, by have := HKB.out.1; omega, O7.out.sub (List.Sublist.cons_cons _ (List.nil_sublist _))⟩
              · go_wp2_with (at_builtin; refine wpList_append_lies _ rfl _ _ 41 rfl 0 81 i0 (.agg #[.int .i64 0, .int .i64 0, .string ⟨#[]⟩, .string ⟨#[]⟩, .int .i64 0]) 5 56 Try.underlying41 HI.out.1 HI.out.2.1 HI.out.2.2.1 HI.out.2.2.2 rfl (by decide) (.slice (some ⟨gT, 0, none⟩) (m1.length + 1) cT) (m1.length + 1) (cellsM ((m1 ++ [markOf 3]))) rfl ((O6.out.alloc _).row 1 (by simp) rfl) ⟨wq.heap.size, 0, none⟩ 1 1 (markOf 1).cells rfl rfl (new_news wq #[.int .i64 1, .int .i64 0, .string ⟨#[]⟩, .string ⟨#[]⟩, .int .i64 0] _ _ rfl) (by intro u hu; exact cellsM_one [markOf 1] u (by simpa [cellsM] using hu)) (by omega) (by unfold maxLen; omega) (by omega) (Nat.zero_le _) _ rfl ?_; intro gZ cZ wZ hown hgrow hat hlt3; rw [← cellsM_snoc] at hown; have O7 := Lib.hid ((O6.out.alloc (.cells #[.int .i64 1, .int .i64 0, .string ⟨#[]⟩, .string ⟨#[]⟩, .int .i64 0] 81)).turn (i := 1) (by simp) rfl hgrow hown hat); clear hown hgrow hat hlt3)
                go_ret
                refine ⟨(m1 ++ [markOf 3]) ++ [markOf 1], .slice (some ⟨gZ, 0, none⟩) ((m1.length + 1) + 1) cZ, k5 + 1, rfl, by rw [List.length_append, List.length_singleton]; have h1 := HLE.out; have h2 := HLL.out.2; omega, ?_, by have := HKB.out.2; omega, by have := HKB.out.1; omega, ?_⟩
                · intro m hm
                  rcases List.mem_append.1 hm with h | h
                  · exact HWF.out m h
                  · rw [List.mem_singleton] at h; subst h; exact markOf_wf 1 (by omega) (by omega)
                · have hz := O7.out.sub (us := [rowT 81 5 (.slice (some ⟨gZ, 0, none⟩) ((m1.length + 1) + 1) cZ) ((m1.length + 1) + 1) (cellsM ((m1 ++ [markOf 3]) ++ [markOf 1]))]) (List.Sublist.cons _ (List.Sublist.cons_cons _ (List.nil_sublist _)))
                  rw [show ((m1 ++ [markOf 3]) ++ [markOf 1]).length = (m1.length + 1) + 1 by rw [List.length_append, List.length_singleton, ← HLE.out]]
                  exact hz
              · have hrow := O6.out.row 1 (by simp) (n := (m1.length + 1)) (sz := 5) rfl
                have d0 := World.ownsRow.cellAt hrow 0 (by have := HLL.out.1; omega)
                have f0 := World.ownsRow.frozenAt hrow 0
                have d1 := World.ownsRow.cellAt hrow 1 (by have := HLL.out.1; omega)
                have f1 := World.ownsRow.frozenAt hrow 1
                have d2 := World.ownsRow.cellAt hrow 2 (by have := HLL.out.1; omega)
                have f2 := World.ownsRow.frozenAt hrow 2
                have d3 := World.ownsRow.cellAt hrow 3 (by have := HLL.out.1; omega)
                have f3 := World.ownsRow.frozenAt hrow 3
                have d4 := World.ownsRow.cellAt hrow 4 (by have := HLL.out.1; omega)
                have f4 := World.ownsRow.frozenAt hrow 4
                obtain ⟨mz, mzs, hmz⟩ : ∃ mz mzs, (m1 ++ [markOf 3]) = mz :: mzs := by
                  cases hc : (m1 ++ [markOf 3]) with
                  | nil => have h1 := HLE.out; have h2 := HLL.out.1; rw [hc] at h1; simp at h1
                  | cons x y => exact ⟨x, y, rfl⟩
                have HC := Lib.hid (cellsM_set ((m1 ++ [markOf 3])) 0 (by have h1 := HLE.out; have h2 := HLL.out.1; omega) (Mk.mk 0 Ru.void))
                rw [hmz] at d0 d1 d2 d3 d4
                obtain ⟨kz, ⟨rz, lz, tz, nz⟩⟩ := mz
                simp only [cellsM, Mk.cells, List.cons_append, List.getElem?_cons_zero, List.getElem?_cons_succ] at d0 d1 d2 d3 d4
                have S0 := O6.out.store (i := 1) (by simp) (n := (m1.length + 1)) (sz := 5) rfl 0 (.int .i64 0)
                have S1 := S0.store (i := 1) (by simp) (n := (m1.length + 1)) (sz := 5) rfl 1 (.int .i64 0)
                have S2 := S1.store (i := 1) (by simp) (n := (m1.length + 1)) (sz := 5) rfl 2 (.string ⟨#[]⟩)
                have S3 := S2.store (i := 1) (by simp) (n := (m1.length + 1)) (sz := 5) rfl 3 (.string ⟨#[]⟩)
                have S4 := S3.store (i := 1) (by simp) (n := (m1.length + 1)) (sz := 5) rfl 4 (.int .i64 0)
                have S5 := Lib.hid S4
                clear S0 S1 S2 S3 S4 hrow hmz
                go_wp2_with fail
                go_ret
                refine ⟨((m1 ++ [markOf 3])).set 0 (Mk.mk 0 Ru.void), (.slice (some ⟨gT, 0, none⟩) (m1.length + 1) cT), k5 + 1, rfl, by rw [List.length_set]; have h1 := HLE.out; have h2 := HLL.out.2; omega, ?_, by have := HKB.out.2; omega, by have := HKB.out.1; omega, ?_⟩
                · intro m hm
                  rcases List.mem_or_eq_of_mem_set hm with h | h
                  · exact HWF.out m h
                  · subst h; exact markOf_wf 0 (by omega) (by omega)
                · have hz := S5.out.sub (us := [rowT 81 5 (.slice (some ⟨gT, 0, none⟩) (m1.length + 1) cT) (m1.length + 1) (cellsM (((m1 ++ [markOf 3])).set 0 (Mk.mk 0 Ru.void)))]) (by rw [← HC.out]; exact (List.Sublist.cons _ (List.Sublist.cons_cons _ (List.nil_sublist _))))
                  rw [List.length_set, ← HLE.out]
                  exact hz
          · have h6b : (v6 == 0) = false := by simpa using h60
            clear h60
            go_wp2_with fail
            have HWF := Lib.hid (HW1.out : ∀ m ∈ m1, m.wf)
            have HLL := Lib.hid (by have := HL1.out; omega : 1 ≤ m1.length ∧ m1.length ≤ 8)
            have hll2 := HLL.out.2
            refine (oddN_any B R a len cap (k2 + 1) n _ O3.out.rd (by have := HKB.out.1; omega) hn (by omega)).mono ?_
            rintro e wo ⟨b, rfl, k5, hk5, hk6, hR5, hK5⟩
            have O5 := Lib.hid (O3.out.picked hR5 hK5)
            clear hR5 hK5
            cases b with
            | false =>
              go_wp2_with fail
              go_ret
              refine ⟨m1, (.slice (some ⟨g1, 0, none⟩) m1.length c1), k5, rfl, by have h2 := HLL.out.2; omega, HWF.out, by have := HKB.out.2; omega, by have := HKB.out.1; omega, ?_⟩
              have hz := O5.out.sub (us := [rowT 81 5 (.slice (some ⟨g1, 0, none⟩) m1.length c1) m1.length (cellsM (m1))]) (List.Sublist.cons _ (List.Sublist.cons_cons _ (List.nil_sublist _)))
              exact hz
            | true =>
              go_wp2_with fail
              refine (pick_any B R a len cap k5 3 _ O5.out.rd (by have := HKB.out.1; omega) (by omega) (by omega)).mono ?_
              rintro e wq ⟨v5, rfl, q0, q1, hR6, hK6⟩
              have q2 := q1 (by omega)
              have O6 := Lib.hid (O5.out.picked hR6 hK6)
              clear q1 hR6 hK6 O5
              obtain rfl | rfl | rfl : v5 = 0 ∨ v5 = 1 ∨ v5 = 2 := by omega
              · have O7 := Lib.hid (O6.out.lit #[] 81 0 5 rfl (Nat.zero_le _))
                go_wp2_with fail
                go_ret
                exact ⟨[], _, k5 + 1, rfl, Nat.zero_le _, (fun m hm => by cases hm), by have := HKB.out.2; omega, by have := HKB.out.1; omega, O7.out.sub (List.Sublist.cons_cons _ (List.nil_sublist _))⟩
              · go_wp2_with (at_builtin; refine wpList_append_lies _ rfl _ _ 41 rfl 0 81 i0 (.agg #[.int .i64 0, .int .i64 0, .string ⟨#[]⟩, .string ⟨#[]⟩, .int .i64 0]) 5 56 Try.underlying41 HI.out.1 HI.out.2.1 HI.out.2.2.1 HI.out.2.2.2 rfl (by decide) (.slice (some ⟨g1, 0, none⟩) m1.length c1) m1.length (cellsM (m1)) rfl ((O6.out.alloc _).row 1 (by simp) rfl) ⟨wq.heap.size, 0, none⟩ 1 1 (markOf 1).cells rfl rfl (new_news wq #[.int .i64 1, .int .i64 0, .string ⟨#[]⟩, .string ⟨#[]⟩, .int .i64 0] _ _ rfl) (by intro u hu; exact cellsM_one [markOf 1] u (by simpa [cellsM] using hu)) (by omega) (by unfold maxLen; omega) (by omega) (Nat.zero_le _) _ rfl ?_; intro gZ cZ wZ hown hgrow hat hlt3; rw [← cellsM_snoc] at hown; have O7 := Lib.hid ((O6.out.alloc (.cells #[.int .i64 1, .int .i64 0, .string ⟨#[]⟩, .string ⟨#[]⟩, .int .i64 0] 81)).turn (i := 1) (by simp) rfl hgrow hown hat); clear hown hgrow hat hlt3)
                go_ret
                refine ⟨m1 ++ [markOf 1], .slice (some ⟨gZ, 0, none⟩) (m1.length + 1) cZ, k5 + 1, rfl, by rw [List.length_append, List.length_singleton]; have h2 := HLL.out.2; omega, ?_, by have := HKB.out.2; omega, by have := HKB.out.1; omega, ?_⟩
                · intro m hm
                  rcases List.mem_append.1 hm with h | h
                  · exact HWF.out m h
                  · rw [List.mem_singleton] at h; subst h; exact markOf_wf 1 (by omega) (by omega)
                · have hz := O7.out.sub (us := [rowT 81 5 (.slice (some ⟨gZ, 0, none⟩) (m1.length + 1) cZ) (m1.length + 1) (cellsM (m1 ++ [markOf 1]))]) (List.Sublist.cons _ (List.Sublist.cons_cons _ (List.nil_sublist _)))
                  rw [show (m1 ++ [markOf 1]).length = m1.length + 1 by rw [List.length_append, List.length_singleton]]
                  exact hz
              · have hrow := O6.out.row 1 (by simp) (n := m1.length) (sz := 5) rfl
                have d0 := World.ownsRow.cellAt hrow 0 (by have := HLL.out.1; omega)
                have f0 := World.ownsRow.frozenAt hrow 0
                have d1 := World.ownsRow.cellAt hrow 1 (by have := HLL.out.1; omega)
                have f1 := World.ownsRow.frozenAt hrow 1
                have d2 := World.ownsRow.cellAt hrow 2 (by have := HLL.out.1; omega)
                have f2 := World.ownsRow.frozenAt hrow 2
                have d3 := World.ownsRow.cellAt hrow 3 (by have := HLL.out.1; omega)
                have f3 := World.ownsRow.frozenAt hrow 3
                have d4 := World.ownsRow.cellAt hrow 4 (by have := HLL.out.1; omega)
                have f4 := World.ownsRow.frozenAt hrow 4
                obtain ⟨mz, mzs, hmz⟩ : ∃ mz mzs, m1 = mz :: mzs := by
                  cases hc : m1 with
                  | nil => have h2 := HLL.out.1; rw [hc] at h2; simp at h2
                  | cons x y => exact ⟨x, y, rfl⟩
                have HC := Lib.hid (cellsM_set (m1) 0 (by have h2 := HLL.out.1; omega) (Mk.mk 0 Ru.void))
                rw [hmz] at d0 d1 d2 d3 d4
                obtain ⟨kz, ⟨rz, lz, tz, nz⟩⟩ := mz
                simp only [cellsM, Mk.cells, List.cons_append, List.getElem?_cons_zero, List.getElem?_cons_succ] at d0 d1 d2 d3 d4
                have S0 := O6.out.store (i := 1) (by simp) (n := m1.length) (sz := 5) rfl 0 (.int .i64 0)
                have S1 := S0.store (i := 1) (by simp) (n := m1.length) (sz := 5) rfl 1 (.int .i64 0)
                have S2 := S1.store (i := 1) (by simp) (n := m1.length) (sz := 5) rfl 2 (.string ⟨#[]⟩)
                have S3 := S2.store (i := 1) (by simp) (n := m1.length) (sz := 5) rfl 3 (.string ⟨#[]⟩)
                have S4 := S3.store (i := 1) (by simp) (n := m1.length) (sz := 5) rfl 4 (.int .i64 0)
                have S5 := Lib.hid S4
                clear S0 S1 S2 S3 S4 hrow hmz
                go_wp2_with fail
                go_ret
                refine ⟨(m1).set 0 (Mk.mk 0 Ru.void), (.slice (some ⟨g1, 0, none⟩) m1.length c1), k5 + 1, rfl, by rw [List.length_set]; have h2 := HLL.out.2; omega, ?_, by have := HKB.out.2; omega, by have := HKB.out.1; omega, ?_⟩
                · intro m hm
                  rcases List.mem_or_eq_of_mem_set hm with h | h
                  · exact HWF.out m h
                  · subst h; exact markOf_wf 0 (by omega) (by omega)
                · have hz := S5.out.sub (us := [rowT 81 5 (.slice (some ⟨g1, 0, none⟩) m1.length c1) m1.length (cellsM ((m1).set 0 (Mk.mk 0 Ru.void)))]) (by rw [← HC.out]; exact (List.Sublist.cons _ (List.Sublist.cons_cons _ (List.nil_sublist _))))
                  rw [List.length_set]
                  exact hz
        · have HTWO := Lib.hid (HPO.out)
          have h1a := HPO.out.le (v1, m1) (by simp)
          obtain ⟨g1, c1, hv1⟩ := O2.out.formM 1 (by simp) (p := (v1, m1)) rfl h1a.1
          simp only at hv1 h1a
          subst hv1
          have h2a := HPO.out.le (v2, m2) (by simp)
          obtain ⟨g2, c2, hv2⟩ := O2.out.formM 2 (by simp) (p := (v2, m2)) rfl h2a.1
          simp only at hv2 h2a
          subst hv2
          obtain ⟨go, rfl, hoc1, hoc2, hgR, hgo⟩ := O2.out.formO 0 (by simp) (n := 2) rfl (by omega)
          unfold maxLen at hoc2
          clear hn1 hn3
          go_wp2_with fail
          refine (pick_any B R a len cap k2 1 _ O2.out.rd (by have := HKB.out.1; omega) (by omega) (by omega)).mono ?_
          rintro e w3 ⟨v8, rfl, q0, q1, hR3, hK3⟩
          obtain rfl : v8 = 0 := by have := q1 (by omega); omega
          have O3 := Lib.hid (O2.out.picked hR3 hK3)
          obtain ⟨k3, hk3⟩ : ∃ k3, k3 = k2 + 1 := ⟨_, rfl⟩
          rw [← hk3] at O3
          replace HKB := Lib.hid (show k3 + 10 * (left + 2) ≤ k + 82 ∧ k ≤ k3 by have h1 := HKB.out.1; have h2 := HKB.out.2; simp at h1; omega)
          clear hR3 hK3 q1 O2 hk3 q0
          by_cases hl0 : 0 < left
          · have hl0I : 0 < li := by have := HLI.out; omega
            go_wp2_with fail
            refine (pick_any B R a len cap k3 4 _ O3.out.rd (by have := HKB.out.1; omega) (by omega) (by omega)).mono ?_
            rintro e wp ⟨v4, rfl, q0, q1, hR4, hK4⟩
            have O4 := Lib.hid (O3.out.picked hR4 hK4)
            clear q1 hR4 hK4
            by_cases h40 : v4 = 0
            · subst h40
              obtain ⟨l, rfl⟩ : ∃ l, left = l + 1 := ⟨left - 1, by omega⟩
              have O5 := Lib.hid (O4.out.lit #[] 81 0 5 rfl (Nat.zero_le _))
              have x1 := (O5.out.cell (i := 1) (n := 2) (by simp) rfl 0 (by omega)).1
              simp only [List.map_cons, List.map_nil, List.getElem?_cons_zero] at x1
              go_wp2_with (first | (at_builtin; refine wpList_append_lies _ rfl _ _ 41 rfl 0 81 i0 (.agg #[.int .i64 0, .int .i64 0, .string ⟨#[]⟩, .string ⟨#[]⟩, .int .i64 0]) 5 56 Try.underlying41 HI.out.1 HI.out.2.1 HI.out.2.2.1 HI.out.2.2.2 rfl (by decide) (.slice (some ⟨gA, 0, none⟩) m1.length cA) m1.length (cellsM m1) rfl ((O6.out.alloc _).row 0 (by simp) rfl) ⟨wA.heap.size, 0, none⟩ 1 1 (markOf 3).cells rfl rfl (new_news wA #[.int .i64 3, .int .i64 0, .string ⟨#[]⟩, .string ⟨#[]⟩, .int .i64 0] _ _ rfl) (by intro u hu; exact cellsM_one [markOf 3] u (by simpa [cellsM] using hu)) (by omega) (by unfold maxLen; omega) (by omega) (Nat.zero_le _) _ rfl ?_; intro gB cB wB hown hgrow hat hlt3; rw [← cellsM_snoc] at hown; have O7 := Lib.hid ((O6.out.alloc (.cells #[.int .i64 3, .int .i64 0, .string ⟨#[]⟩, .string ⟨#[]⟩, .int .i64 0] 81)).turn (i := 0) (by simp) rfl hgrow hown hat); obtain ⟨cS, fS⟩ := O7.out.cell (i := 1) (n := 2) (by simp) rfl 0 (by omega); simp only [List.map_cons, List.map_nil, List.getElem?_cons_zero] at cS; clear hown hgrow hat hlt3) | (at_builtin; refine wpList_append_lies _ rfl _ _ 41 rfl 0 81 i0 (.agg #[.int .i64 0, .int .i64 0, .string ⟨#[]⟩, .string ⟨#[]⟩, .int .i64 0]) 5 56 Try.underlying41 HI.out.1 HI.out.2.1 HI.out.2.2.1 HI.out.2.2.2 rfl (by decide) (.slice (some ⟨wp.heap.size, 0, none⟩) 0 0) 0 [] rfl (O5.out.row 0 (by simp) rfl) ⟨g1, 0, none⟩ m1.length c1 (cellsM m1) rfl (cellsM_length m1) (marks_news (O5.out.row 2 (by simp) rfl)) (cellsM_one m1) h1a.1 (by unfold maxLen; omega) (by omega) (Nat.zero_le _) _ rfl ?_; intro gA cA wA hown hgrow hat hlt3; simp only [Nat.zero_add, List.nil_append] at hown ⊢; have O6 := Lib.hid (O5.out.turn (i := 0) (by simp) rfl hgrow hown hat); clear hown hgrow hat hlt3))
              have O8 := Lib.hid (O7.out.store (i := 1) (by simp) rfl 0 (.slice (some ⟨gB, 0, none⟩) (m1.length + 1) cB))
              go_roundw
              case rel =>
                refine ⟨[(.slice (some ⟨gB, 0, none⟩) (m1.length + 1) cB, m1 ++ [markOf 3]), (.slice (some ⟨g2, 0, none⟩) m2.length c2, m2)], l, li - 1, (k3 + 1), by have := HLI.out; omega, by first | rfl | rw [hqL], by omega, PartsOk.not (ps := []) (qs := [(.slice (some ⟨g2, 0, none⟩) m2.length c2, m2)]) HPO.out, by have := HKB.out.1; simp at this ⊢; omega, by have := HKB.out.2; omega, ?_⟩
                have hz := (O8.out.perm (List.Perm.swap _ _ _)).sub (List.Sublist.cons_cons _ (List.Sublist.cons_cons _ (List.Sublist.cons _ (List.Sublist.cons_cons _ (List.nil_sublist _)))))
                simp only [List.map_cons, List.map_nil]
                rw [innM_snoc _ m1 (markOf 3) (m1.length + 1) rfl]
                exact hz
              case measure => simp [intOf, lenV]; omega
            · have h4b : (v4 == 0) = false := by simpa using h40
              clear h40
              have OL := Lib.hid (O4.out.lit #[] 81 0 5 rfl (Nat.zero_le _))
              have O5 := Lib.hid OL.out.drew
              have x1 := (O4.out.cell (i := 0) (n := 2) (by simp) rfl 0 (by omega)).1
              simp only [List.map_cons, List.map_nil, List.getElem?_cons_zero] at x1
              have x2 := (OL.out.cell (i := 1) (n := 2) (by simp) rfl 0 (by omega)).1
              simp only [List.map_cons, List.map_nil, List.getElem?_cons_zero] at x2
              have x3 := (O4.out.cell (i := 0) (n := 2) (by simp) rfl 1 (by omega)).1
              simp only [List.map_cons, List.map_nil, List.getElem?_cons_zero, List.getElem?_cons_succ] at x3
              have x4 := (OL.out.cell (i := 1) (n := 2) (by simp) rfl 1 (by omega)).1
              simp only [List.map_cons, List.map_nil, List.getElem?_cons_zero, List.getElem?_cons_succ] at x4
              have hw1 : IntKind.i64.wrap 1 = 1 := by decide
              have hw2 : IntKind.i64.wrap 2 = 2 := by decide
              go_upto_region 12 with fail
              go_region_held3 (fun w' => w'.cell? ⟨go, 0, none⟩ = some (.slice (some ⟨g1, 0, none⟩) m1.length c1) ∧ w'.cell? ⟨go, 1, none⟩ = some (.slice (some ⟨g2, 0, none⟩) m2.length c2))
                (refine ⟨?_, ?_⟩ <;> go_simp)
                (first | (refine step_append_lies _ rfl _ _ 41 rfl 0 81 i0 (.agg #[.int .i64 0, .int .i64 0, .string ⟨#[]⟩, .string ⟨#[]⟩, .int .i64 0]) 5 56 Try.underlying41 HI.out.1 HI.out.2.1 HI.out.2.2.1 HI.out.2.2.2 rfl (by decide) (.slice (some ⟨gB, 0, none⟩) (m1.length + m2.length) cB) (m1.length + m2.length) (cellsM (m1 ++ m2)) rfl ((O8.out.alloc _).row 0 (by simp) rfl) ⟨wC.heap.size, 0, none⟩ 1 1 (markOf kd).cells rfl rfl (new_news wC #[.int .i64 kd, .int .i64 0, .string ⟨#[]⟩, .string ⟨#[]⟩, .int .i64 0] _ _ rfl) (by intro u hu; exact cellsM_one [markOf kd] u (by simpa [cellsM] using hu)) (by omega) (by unfold maxLen; omega) (by omega) (Nat.zero_le _) _ rfl ?_; intro gE cE wE hown hgrow hat hlt3; rw [← cellsM_snoc] at hown; have O9 := Lib.hid ((O8.out.alloc (.cells #[.int .i64 kd, .int .i64 0, .string ⟨#[]⟩, .string ⟨#[]⟩, .int .i64 0] 81)).turn (i := 0) (by simp) rfl hgrow hown hat); have z1 := (O9.out.cell (i := 1) (n := 2) (by simp) rfl 0 (by omega)).1; simp only [List.map_cons, List.map_nil, List.getElem?_cons_zero] at z1; have z2 := (O9.out.cell (i := 1) (n := 2) (by simp) rfl 1 (by omega)).1; simp only [List.map_cons, List.map_nil, List.getElem?_cons_zero, List.getElem?_cons_succ] at z2; clear hown hgrow hat hlt3) | (go_at_call 59; refine (pick_any B R a len cap (k3 + 1) 3 _ O7.out.rd (by have := HKB.out.1; omega) (by omega) (by omega)).mono ?_; rintro e wC ⟨vC, rfl, q0, q1, hRC, hKC⟩; have q2 := q1 (by omega); have O8 := Lib.hid (O7.out.picked hRC hKC); obtain ⟨kd, hw3, hd0, hd1⟩ := mark_kind vC q0 q2; have y1 := fun o => ((O8.out.alloc o).cell (i := 1) (n := 2) (by simp) rfl 0 (by omega)).1; simp only [List.map_cons, List.map_nil, List.getElem?_cons_zero] at y1; have y2 := fun o => ((O8.out.alloc o).cell (i := 1) (n := 2) (by simp) rfl 1 (by omega)).1; simp only [List.map_cons, List.map_nil, List.getElem?_cons_zero, List.getElem?_cons_succ] at y2; have y3 := (O8.out.cell (i := 1) (n := 2) (by simp) rfl 0 (by omega)).1; simp only [List.map_cons, List.map_nil, List.getElem?_cons_zero] at y3; have y4 := (O8.out.cell (i := 1) (n := 2) (by simp) rfl 1 (by omega)).1; simp only [List.map_cons, List.map_nil, List.getElem?_cons_zero, List.getElem?_cons_succ] at y4; clear hRC hKC q1) | (refine step_append_lies _ rfl _ _ 41 rfl 0 81 i0 (.agg #[.int .i64 0, .int .i64 0, .string ⟨#[]⟩, .string ⟨#[]⟩, .int .i64 0]) 5 56 Try.underlying41 HI.out.1 HI.out.2.1 HI.out.2.2.1 HI.out.2.2.2 rfl (by decide) (.slice (some ⟨gA, 0, none⟩) m1.length cA) m1.length (cellsM m1) rfl (O6.out.row 0 (by simp) rfl) ⟨g2, 0, none⟩ m2.length c2 (cellsM m2) rfl (cellsM_length m2) (marks_news (O6.out.row 3 (by simp) rfl)) (cellsM_one m2) h2a.1 (by unfold maxLen; omega) (by omega) (Nat.zero_le _) _ rfl ?_; intro gB cB wB hown hgrow hat hlt3; rw [← cellsM_append] at hown; have O7 := Lib.hid (O6.out.turn (i := 0) (by simp) rfl hgrow hown hat); have x7 := (O7.out.cell (i := 1) (n := 2) (by simp) rfl 0 (by omega)).1; simp only [List.map_cons, List.map_nil, List.getElem?_cons_zero] at x7; have x8 := (O7.out.cell (i := 1) (n := 2) (by simp) rfl 1 (by omega)).1; simp only [List.map_cons, List.map_nil, List.getElem?_cons_zero, List.getElem?_cons_succ] at x8; clear hown hgrow hat hlt3) | (refine step_append_lies _ rfl _ _ 41 rfl 0 81 i0 (.agg #[.int .i64 0, .int .i64 0, .string ⟨#[]⟩, .string ⟨#[]⟩, .int .i64 0]) 5 56 Try.underlying41 HI.out.1 HI.out.2.1 HI.out.2.2.1 HI.out.2.2.2 rfl (by decide) (.slice (some ⟨wp.heap.size, 0, none⟩) 0 0) 0 [] rfl (O5.out.row 0 (by simp) rfl) ⟨g1, 0, none⟩ m1.length c1 (cellsM m1) rfl (cellsM_length m1) (marks_news (O5.out.row 2 (by simp) rfl)) (cellsM_one m1) h1a.1 (by unfold maxLen; omega) (by omega) (Nat.zero_le _) _ rfl ?_; intro gA cA wA hown hgrow hat hlt3; simp only [Nat.zero_add, List.nil_append] at hown ⊢; have O6 := Lib.hid (O5.out.turn (i := 0) (by simp) rfl hgrow hown hat); have x5 := (O6.out.cell (i := 1) (n := 2) (by simp) rfl 0 (by omega)).1; simp only [List.map_cons, List.map_nil, List.getElem?_cons_zero] at x5; have x6 := (O6.out.cell (i := 1) (n := 2) (by simp) rfl 1 (by omega)).1; simp only [List.map_cons, List.map_nil, List.getElem?_cons_zero, List.getElem?_cons_succ] at x6; clear hown hgrow hat hlt3))
              all_goals
                have OA := Lib.hid (O9.out.lit #[] 41 0 1 rfl (Nat.zero_le _))
                go_wp2_with (first | (at_builtin; refine wpList_append_zero rfl _ _ 110 rfl 0 41 s0 1 Try.underlying110 HS.out.1 (.slice (some ⟨gG, 0, none⟩) 1 cG) 1 [(.slice (some ⟨gE, 0, none⟩) (m1.length + m2.length + 1) cE)] rfl (OC.out.row 0 (by simp) rfl) _ _ rfl ?_; have OE := OC) | (at_builtin; refine wpList_append_lies _ rfl _ _ 110 rfl 0 41 s0 (.slice none 0 0) 1 24 Try.underlying110 HS.out.1 HS.out.2.1 HS.out.2.2.1 HS.out.2.2.2 rfl (by decide) (.slice (some ⟨wE.heap.size, 0, none⟩) 0 0) 0 [] rfl ((OB.out.alloc _).row 0 (by simp) rfl) ⟨wE.heap.size + 1, 0, none⟩ 1 1 [(.slice (some ⟨gE, 0, none⟩) (m1.length + m2.length + 1) cE)] rfl rfl (new_news _ #[(.slice (some ⟨gE, 0, none⟩) (m1.length + m2.length + 1) cE)] _ _ (by simp)) (by simp [Value.oneCell']) (by omega) (by unfold maxLen; omega) (by omega) (Nat.zero_le _) _ rfl ?_; intro gG cG wG hown hgrow hat hlt3; have OC := Lib.hid ((OB.out.alloc _).turn (i := 0) (by simp) rfl hgrow hown hat); clear hown hgrow hat hlt3) | (at_builtin; refine wpList_append_zero rfl _ _ 110 rfl 0 41 s0 1 Try.underlying110 HS.out.1 (.slice (some ⟨wE.heap.size, 0, none⟩) 0 0) 0 [] rfl (OA.out.row 0 (by simp) rfl) _ _ rfl ?_; have OB := OA))
                go_roundw
                case rel =>
                  refine ⟨[(.slice (some ⟨gE, 0, none⟩) (m1.length + m2.length + 1) cE, m1 ++ m2 ++ [markOf kd])], left, li, (k3 + 1) + 1, HLI.out, by first | rfl | trivial, by omega, PartsOk.join (ps := []) (qs := []) (p := (.slice (some ⟨g1, 0, none⟩) m1.length c1, m1)) (r := (.slice (some ⟨g2, 0, none⟩) m2.length c2, m2)) (by omega) (by omega) HPO.out, by have := HKB.out.1; simp at this ⊢; omega, by have := HKB.out.2; omega, ?_⟩
                  have hz := OE.out.sub (List.Sublist.cons_cons _ (List.Sublist.cons_cons _ (List.nil_sublist _)))
                  simp only [List.map_cons, List.map_nil]
                  rw [innM_snoc _ (m1 ++ m2) (markOf kd) (m1.length + m2.length + 1) (by rw [List.length_append])]
                  exact hz
                case measure => simp [intOf, lenV]; try omega
          · have hl0I : ¬ 0 < li := by have := HLI.out; omega
            generalize w3 = wp at *
            have OL := Lib.hid (O3.out.lit #[] 81 0 5 rfl (Nat.zero_le _))
            have O5 := Lib.hid OL.out.drew
            have x1 := (O3.out.cell (i := 0) (n := 2) (by simp) rfl 0 (by omega)).1
            simp only [List.map_cons, List.map_nil, List.getElem?_cons_zero] at x1
            have x2 := (OL.out.cell (i := 1) (n := 2) (by simp) rfl 0 (by omega)).1
            simp only [List.map_cons, List.map_nil, List.getElem?_cons_zero] at x2
            have x3 := (O3.out.cell (i := 0) (n := 2) (by simp) rfl 1 (by omega)).1
            simp only [List.map_cons, List.map_nil, List.getElem?_cons_zero, List.getElem?_cons_succ] at x3
            have x4 := (OL.out.cell (i := 1) (n := 2) (by simp) rfl 1 (by omega)).1
            simp only [List.map_cons, List.map_nil, List.getElem?_cons_zero, List.getElem?_cons_succ] at x4
            have hw1 : IntKind.i64.wrap 1 = 1 := by decide
            have hw2 : IntKind.i64.wrap 2 = 2 := by decide
            go_upto_region 12 with fail
            go_region_held3 (fun w' => w'.cell? ⟨go, 0, none⟩ = some (.slice (some ⟨g1, 0, none⟩) m1.length c1) ∧ w'.cell? ⟨go, 1, none⟩ = some (.slice (some ⟨g2, 0, none⟩) m2.length c2))
              (refine ⟨?_, ?_⟩ <;> go_simp)
              (first | (refine step_append_lies _ rfl _ _ 41 rfl 0 81 i0 (.agg #[.int .i64 0, .int .i64 0, .string ⟨#[]⟩, .string ⟨#[]⟩, .int .i64 0]) 5 56 Try.underlying41 HI.out.1 HI.out.2.1 HI.out.2.2.1 HI.out.2.2.2 rfl (by decide) (.slice (some ⟨gB, 0, none⟩) (m1.length + m2.length) cB) (m1.length + m2.length) (cellsM (m1 ++ m2)) rfl ((O8.out.alloc _).row 0 (by simp) rfl) ⟨wC.heap.size, 0, none⟩ 1 1 (markOf kd).cells rfl rfl (new_news wC #[.int .i64 kd, .int .i64 0, .string ⟨#[]⟩, .string ⟨#[]⟩, .int .i64 0] _ _ rfl) (by intro u hu; exact cellsM_one [markOf kd] u (by simpa [cellsM] using hu)) (by omega) (by unfold maxLen; omega) (by omega) (Nat.zero_le _) _ rfl ?_; intro gE cE wE hown hgrow hat hlt3; rw [← cellsM_snoc] at hown; have O9 := Lib.hid ((O8.out.alloc (.cells #[.int .i64 kd, .int .i64 0, .string ⟨#[]⟩, .string ⟨#[]⟩, .int .i64 0] 81)).turn (i := 0) (by simp) rfl hgrow hown hat); have z1 := (O9.out.cell (i := 1) (n := 2) (by simp) rfl 0 (by omega)).1; simp only [List.map_cons, List.map_nil, List.getElem?_cons_zero] at z1; have z2 := (O9.out.cell (i := 1) (n := 2) (by simp) rfl 1 (by omega)).1; simp only [List.map_cons, List.map_nil, List.getElem?_cons_zero, List.getElem?_cons_succ] at z2; clear hown hgrow hat hlt3) | (go_at_call 59; refine (pick_any B R a len cap k3 3 _ O7.out.rd (by have := HKB.out.1; omega) (by omega) (by omega)).mono ?_; rintro e wC ⟨vC, rfl, q0, q1, hRC, hKC⟩; have q2 := q1 (by omega); have O8 := Lib.hid (O7.out.picked hRC hKC); obtain ⟨kd, hw3, hd0, hd1⟩ := mark_kind vC q0 q2; have y1 := fun o => ((O8.out.alloc o).cell (i := 1) (n := 2) (by simp) rfl 0 (by omega)).1; simp only [List.map_cons, List.map_nil, List.getElem?_cons_zero] at y1; have y2 := fun o => ((O8.out.alloc o).cell (i := 1) (n := 2) (by simp) rfl 1 (by omega)).1; simp only [List.map_cons, List.map_nil, List.getElem?_cons_zero, List.getElem?_cons_succ] at y2; have y3 := (O8.out.cell (i := 1) (n := 2) (by simp) rfl 0 (by omega)).1; simp only [List.map_cons, List.map_nil, List.getElem?_cons_zero] at y3; have y4 := (O8.out.cell (i := 1) (n := 2) (by simp) rfl 1 (by omega)).1; simp only [List.map_cons, List.map_nil, List.getElem?_cons_zero, List.getElem?_cons_succ] at y4; clear hRC hKC q1) | (refine step_append_lies _ rfl _ _ 41 rfl 0 81 i0 (.agg #[.int .i64 0, .int .i64 0, .string ⟨#[]⟩, .string ⟨#[]⟩, .int .i64 0]) 5 56 Try.underlying41 HI.out.1 HI.out.2.1 HI.out.2.2.1 HI.out.2.2.2 rfl (by decide) (.slice (some ⟨gA, 0, none⟩) m1.length cA) m1.length (cellsM m1) rfl (O6.out.row 0 (by simp) rfl) ⟨g2, 0, none⟩ m2.length c2 (cellsM m2) rfl (cellsM_length m2) (marks_news (O6.out.row 3 (by simp) rfl)) (cellsM_one m2) h2a.1 (by unfold maxLen; omega) (by omega) (Nat.zero_le _) _ rfl ?_; intro gB cB wB hown hgrow hat hlt3; rw [← cellsM_append] at hown; have O7 := Lib.hid (O6.out.turn (i := 0) (by simp) rfl hgrow hown hat); have x7 := (O7.out.cell (i := 1) (n := 2) (by simp) rfl 0 (by omega)).1; simp only [List.map_cons, List.map_nil, List.getElem?_cons_zero] at x7; have x8 := (O7.out.cell (i := 1) (n := 2) (by simp) rfl 1 (by omega)).1; simp only [List.map_cons, List.map_nil, List.getElem?_cons_zero, List.getElem?_cons_succ] at x8; clear hown hgrow hat hlt3) | (refine step_append_lies _ rfl _ _ 41 rfl 0 81 i0 (.agg #[.int .i64 0, .int .i64 0, .string ⟨#[]⟩, .string ⟨#[]⟩, .int .i64 0]) 5 56 Try.underlying41 HI.out.1 HI.out.2.1 HI.out.2.2.1 HI.out.2.2.2 rfl (by decide) (.slice (some ⟨wp.heap.size, 0, none⟩) 0 0) 0 [] rfl (O5.out.row 0 (by simp) rfl) ⟨g1, 0, none⟩ m1.length c1 (cellsM m1) rfl (cellsM_length m1) (marks_news (O5.out.row 2 (by simp) rfl)) (cellsM_one m1) h1a.1 (by unfold maxLen; omega) (by omega) (Nat.zero_le _) _ rfl ?_; intro gA cA wA hown hgrow hat hlt3; simp only [Nat.zero_add, List.nil_append] at hown ⊢; have O6 := Lib.hid (O5.out.turn (i := 0) (by simp) rfl hgrow hown hat); have x5 := (O6.out.cell (i := 1) (n := 2) (by simp) rfl 0 (by omega)).1; simp only [List.map_cons, List.map_nil, List.getElem?_cons_zero] at x5; have x6 := (O6.out.cell (i := 1) (n := 2) (by simp) rfl 1 (by omega)).1; simp only [List.map_cons, List.map_nil, List.getElem?_cons_zero, List.getElem?_cons_succ] at x6; clear hown hgrow hat hlt3))
            all_goals
              have OA := Lib.hid (O9.out.lit #[] 41 0 1 rfl (Nat.zero_le _))
              go_wp2_with (first | (at_builtin; refine wpList_append_zero rfl _ _ 110 rfl 0 41 s0 1 Try.underlying110 HS.out.1 (.slice (some ⟨gG, 0, none⟩) 1 cG) 1 [(.slice (some ⟨gE, 0, none⟩) (m1.length + m2.length + 1) cE)] rfl (OC.out.row 0 (by simp) rfl) _ _ rfl ?_; have OE := OC) | (at_builtin; refine wpList_append_lies _ rfl _ _ 110 rfl 0 41 s0 (.slice none 0 0) 1 24 Try.underlying110 HS.out.1 HS.out.2.1 HS.out.2.2.1 HS.out.2.2.2 rfl (by decide) (.slice (some ⟨wE.heap.size, 0, none⟩) 0 0) 0 [] rfl ((OB.out.alloc _).row 0 (by simp) rfl) ⟨wE.heap.size + 1, 0, none⟩ 1 1 [(.slice (some ⟨gE, 0, none⟩) (m1.length + m2.length + 1) cE)] rfl rfl (new_news _ #[(.slice (some ⟨gE, 0, none⟩) (m1.length + m2.length + 1) cE)] _ _ (by simp)) (by simp [Value.oneCell']) (by omega) (by unfold maxLen; omega) (by omega) (Nat.zero_le _) _ rfl ?_; intro gG cG wG hown hgrow hat hlt3; have OC := Lib.hid ((OB.out.alloc _).turn (i := 0) (by simp) rfl hgrow hown hat); clear hown hgrow hat hlt3) | (at_builtin; refine wpList_append_zero rfl _ _ 110 rfl 0 41 s0 1 Try.underlying110 HS.out.1 (.slice (some ⟨wE.heap.size, 0, none⟩) 0 0) 0 [] rfl (OA.out.row 0 (by simp) rfl) _ _ rfl ?_; have OB := OA))
              go_roundw
              case rel =>
                refine ⟨[(.slice (some ⟨gE, 0, none⟩) (m1.length + m2.length + 1) cE, m1 ++ m2 ++ [markOf kd])], left, li, k3 + 1, HLI.out, by first | rfl | trivial, by omega, PartsOk.join (ps := []) (qs := []) (p := (.slice (some ⟨g1, 0, none⟩) m1.length c1, m1)) (r := (.slice (some ⟨g2, 0, none⟩) m2.length c2, m2)) (by omega) (by omega) HPO.out, by have := HKB.out.1; simp at this ⊢; omega, by have := HKB.out.2; omega, ?_⟩
                have hz := OE.out.sub (List.Sublist.cons_cons _ (List.Sublist.cons_cons _ (List.nil_sublist _)))
                simp only [List.map_cons, List.map_nil]
                rw [innM_snoc _ (m1 ++ m2) (markOf kd) (m1.length + m2.length + 1) (by rw [List.length_append])]
                exact hz
              case measure => simp [intOf, lenV]; try omega
        · have HTHR := Lib.hid (HPO.out)
          have h1a := HPO.out.le (v1, m1) (by simp)
          obtain ⟨g1, c1, hv1⟩ := O2.out.formM 1 (by simp) (p := (v1, m1)) rfl h1a.1
          simp only at hv1 h1a
          subst hv1
          have h2a := HPO.out.le (v2, m2) (by simp)
          obtain ⟨g2, c2, hv2⟩ := O2.out.formM 2 (by simp) (p := (v2, m2)) rfl h2a.1
          simp only at hv2 h2a
          subst hv2
          have h3a := HPO.out.le (v3, m3) (by simp)
          obtain ⟨g3, c3, hv3⟩ := O2.out.formM 3 (by simp) (p := (v3, m3)) rfl h3a.1
          simp only at hv3 h3a
          subst hv3
          obtain ⟨go, rfl, hoc1, hoc2, hgR, hgo⟩ := O2.out.formO 0 (by simp) (n := 3) rfl (by omega)
          unfold maxLen at hoc2
          have hoc3 : ¬ oc = 2 := by omega
          have hoc4 : (oc == 2) = false := by simpa using hoc3
          have hoc5 : oc ≠ 2 := hoc3
          clear hn1 hn3
          go_wp2_with fail
          refine (pick_any B R a len cap k2 2 _ O2.out.rd (by have := HKB.out.1; omega) (by omega) (by omega)).mono ?_
          rintro e w3 ⟨v8, rfl, q0, q1, hR3, hK3⟩
          have O3 := Lib.hid (O2.out.picked hR3 hK3)
          obtain ⟨k3, hk3⟩ : ∃ k3, k3 = k2 + 1 := ⟨_, rfl⟩
          rw [← hk3] at O3
          replace HKB := Lib.hid (show k3 + 10 * (left + 3) ≤ k + 82 ∧ k ≤ k3 by have h1 := HKB.out.1; have h2 := HKB.out.2; simp at h1; omega)
          have q2 := q1 (by omega)
          clear hR3 hK3 q1 O2 hk3
          obtain rfl | rfl : v8 = 0 ∨ v8 = 1 := by omega
          · clear q0 q2
            by_cases hl0 : 0 < left
            · have hl0I : 0 < li := by have := HLI.out; omega
              go_wp2_with fail
              refine (pick_any B R a len cap k3 4 _ O3.out.rd (by have := HKB.out.1; omega) (by omega) (by omega)).mono ?_
              rintro e wp ⟨v4, rfl, q0, q1, hR4, hK4⟩
              have O4 := Lib.hid (O3.out.picked hR4 hK4)
              clear q1 hR4 hK4
              by_cases h40 : v4 = 0
              · subst h40
                obtain ⟨l, rfl⟩ : ∃ l, left = l + 1 := ⟨left - 1, by omega⟩
                have O5 := Lib.hid (O4.out.lit #[] 81 0 5 rfl (Nat.zero_le _))
                have x1 := (O5.out.cell (i := 1) (n := 3) (by simp) rfl 0 (by omega)).1
                simp only [List.map_cons, List.map_nil, List.getElem?_cons_zero] at x1
                go_wp2_with (first | (at_builtin; refine wpList_append_lies _ rfl _ _ 41 rfl 0 81 i0 (.agg #[.int .i64 0, .int .i64 0, .string ⟨#[]⟩, .string ⟨#[]⟩, .int .i64 0]) 5 56 Try.underlying41 HI.out.1 HI.out.2.1 HI.out.2.2.1 HI.out.2.2.2 rfl (by decide) (.slice (some ⟨gA, 0, none⟩) m1.length cA) m1.length (cellsM m1) rfl ((O6.out.alloc _).row 0 (by simp) rfl) ⟨wA.heap.size, 0, none⟩ 1 1 (markOf 3).cells rfl rfl (new_news wA #[.int .i64 3, .int .i64 0, .string ⟨#[]⟩, .string ⟨#[]⟩, .int .i64 0] _ _ rfl) (by intro u hu; exact cellsM_one [markOf 3] u (by simpa [cellsM] using hu)) (by omega) (by unfold maxLen; omega) (by omega) (Nat.zero_le _) _ rfl ?_; intro gB cB wB hown hgrow hat hlt3; rw [← cellsM_snoc] at hown; have O7 := Lib.hid ((O6.out.alloc (.cells #[.int .i64 3, .int .i64 0, .string ⟨#[]⟩, .string ⟨#[]⟩, .int .i64 0] 81)).turn (i := 0) (by simp) rfl hgrow hown hat); obtain ⟨cS, fS⟩ := O7.out.cell (i := 1) (n := 3) (by simp) rfl 0 (by omega); simp only [List.map_cons, List.map_nil, List.getElem?_cons_zero] at cS; clear hown hgrow hat hlt3) | (at_builtin; refine wpList_append_lies _ rfl _ _ 41 rfl 0 81 i0 (.agg #[.int .i64 0, .int .i64 0, .string ⟨#[]⟩, .string ⟨#[]⟩, .int .i64 0]) 5 56 Try.underlying41 HI.out.1 HI.out.2.1 HI.out.2.2.1 HI.out.2.2.2 rfl (by decide) (.slice (some ⟨wp.heap.size, 0, none⟩) 0 0) 0 [] rfl (O5.out.row 0 (by simp) rfl) ⟨g1, 0, none⟩ m1.length c1 (cellsM m1) rfl (cellsM_length m1) (marks_news (O5.out.row 2 (by simp) rfl)) (cellsM_one m1) h1a.1 (by unfold maxLen; omega) (by omega) (Nat.zero_le _) _ rfl ?_; intro gA cA wA hown hgrow hat hlt3; simp only [Nat.zero_add, List.nil_append] at hown ⊢; have O6 := Lib.hid (O5.out.turn (i := 0) (by simp) rfl hgrow hown hat); clear hown hgrow hat hlt3))
                have O8 := Lib.hid (O7.out.store (i := 1) (by simp) rfl 0 (.slice (some ⟨gB, 0, none⟩) (m1.length + 1) cB))
                go_roundw
                case rel =>
                  refine ⟨[(.slice (some ⟨gB, 0, none⟩) (m1.length + 1) cB, m1 ++ [markOf 3]), (.slice (some ⟨g2, 0, none⟩) m2.length c2, m2), (.slice (some ⟨g3, 0, none⟩) m3.length c3, m3)], l, li - 1, (k3 + 1), by have := HLI.out; omega, by first | rfl | rw [hqL], by omega, PartsOk.not (ps := []) (qs := [(.slice (some ⟨g2, 0, none⟩) m2.length c2, m2), (.slice (some ⟨g3, 0, none⟩) m3.length c3, m3)]) HPO.out, by have := HKB.out.1; simp at this ⊢; omega, by have := HKB.out.2; omega, ?_⟩
                  have hz := (O8.out.perm (List.Perm.swap _ _ _)).sub (List.Sublist.cons_cons _ (List.Sublist.cons_cons _ (List.Sublist.cons _ (List.Sublist.cons_cons _ (List.Sublist.cons_cons _ (List.nil_sublist _))))))
                  simp only [List.map_cons, List.map_nil]
                  rw [innM_snoc _ m1 (markOf 3) (m1.length + 1) rfl]
                  exact hz
                case measure => simp [intOf, lenV]; omega
              · have h4b : (v4 == 0) = false := by simpa using h40
                clear h40
                have OL := Lib.hid (O4.out.lit #[] 81 0 5 rfl (Nat.zero_le _))
                have O5 := Lib.hid OL.out.drew
                have x1 := (O4.out.cell (i := 0) (n := 3) (by simp) rfl 0 (by omega)).1
                simp only [List.map_cons, List.map_nil, List.getElem?_cons_zero] at x1
                have x2 := (OL.out.cell (i := 1) (n := 3) (by simp) rfl 0 (by omega)).1
                simp only [List.map_cons, List.map_nil, List.getElem?_cons_zero] at x2
                have x3 := (O4.out.cell (i := 0) (n := 3) (by simp) rfl 1 (by omega)).1
                simp only [List.map_cons, List.map_nil, List.getElem?_cons_zero, List.getElem?_cons_succ] at x3
                have x4 := (OL.out.cell (i := 1) (n := 3) (by simp) rfl 1 (by omega)).1
                simp only [List.map_cons, List.map_nil, List.getElem?_cons_zero, List.getElem?_cons_succ] at x4
                have hw1 : IntKind.i64.wrap 1 = 1 := by decide
                have hw2 : IntKind.i64.wrap 2 = 2 := by decide
                go_upto_region 12 with fail
                go_region_held3 (fun w' => w'.cell? ⟨go, 0, none⟩ = some (.slice (some ⟨g1, 0, none⟩) m1.length c1) ∧ w'.cell? ⟨go, 1, none⟩ = some (.slice (some ⟨g2, 0, none⟩) m2.length c2))
                  (refine ⟨?_, ?_⟩ <;> go_simp)
                  (first | (refine step_append_lies _ rfl _ _ 41 rfl 0 81 i0 (.agg #[.int .i64 0, .int .i64 0, .string ⟨#[]⟩, .string ⟨#[]⟩, .int .i64 0]) 5 56 Try.underlying41 HI.out.1 HI.out.2.1 HI.out.2.2.1 HI.out.2.2.2 rfl (by decide) (.slice (some ⟨gB, 0, none⟩) (m1.length + m2.length) cB) (m1.length + m2.length) (cellsM (m1 ++ m2)) rfl ((O8.out.alloc _).row 0 (by simp) rfl) ⟨wC.heap.size, 0, none⟩ 1 1 (markOf kd).cells rfl rfl (new_news wC #[.int .i64 kd, .int .i64 0, .string ⟨#[]⟩, .string ⟨#[]⟩, .int .i64 0] _ _ rfl) (by intro u hu; exact cellsM_one [markOf kd] u (by simpa [cellsM] using hu)) (by omega) (by unfold maxLen; omega) (by omega) (Nat.zero_le _) _ rfl ?_; intro gE cE wE hown hgrow hat hlt3; rw [← cellsM_snoc] at hown; have O9 := Lib.hid ((O8.out.alloc (.cells #[.int .i64 kd, .int .i64 0, .string ⟨#[]⟩, .string ⟨#[]⟩, .int .i64 0] 81)).turn (i := 0) (by simp) rfl hgrow hown hat); have z1 := (O9.out.cell (i := 1) (n := 3) (by simp) rfl 0 (by omega)).1; simp only [List.map_cons, List.map_nil, List.getElem?_cons_zero] at z1; have z2 := (O9.out.cell (i := 1) (n := 3) (by simp) rfl 1 (by omega)).1; simp only [List.map_cons, List.map_nil, List.getElem?_cons_zero, List.getElem?_cons_succ] at z2; clear hown hgrow hat hlt3) | (go_at_call 59; refine (pick_any B R a len cap (k3 + 1) 3 _ O7.out.rd (by have := HKB.out.1; omega) (by omega) (by omega)).mono ?_; rintro e wC ⟨vC, rfl, q0, q1, hRC, hKC⟩; have q2 := q1 (by omega); have O8 := Lib.hid (O7.out.picked hRC hKC); obtain ⟨kd, hw3, hd0, hd1⟩ := mark_kind vC q0 q2; have y1 := fun o => ((O8.out.alloc o).cell (i := 1) (n := 3) (by simp) rfl 0 (by omega)).1; simp only [List.map_cons, List.map_nil, List.getElem?_cons_zero] at y1; have y2 := fun o => ((O8.out.alloc o).cell (i := 1) (n := 3) (by simp) rfl 1 (by omega)).1; simp only [List.map_cons, List.map_nil, List.getElem?_cons_zero, List.getElem?_cons_succ] at y2; have y3 := (O8.out.cell (i := 1) (n := 3) (by simp) rfl 0 (by omega)).1; simp only [List.map_cons, List.map_nil, List.getElem?_cons_zero] at y3; have y4 := (O8.out.cell (i := 1) (n := 3) (by simp) rfl 1 (by omega)).1; simp only [List.map_cons, List.map_nil, List.getElem?_cons_zero, List.getElem?_cons_succ] at y4; clear hRC hKC q1) | (refine step_append_lies _ rfl _ _ 41 rfl 0 81 i0 (.agg #[.int .i64 0, .int .i64 0, .string ⟨#[]⟩, .string ⟨#[]⟩, .int .i64 0]) 5 56 Try.underlying41 HI.out.1 HI.out.2.1 HI.out.2.2.1 HI.out.2.2.2 rfl (by decide) (.slice (some ⟨gA, 0, none⟩) m1.length cA) m1.length (cellsM m1) rfl (O6.out.row 0 (by simp) rfl) ⟨g2, 0, none⟩ m2.length c2 (cellsM m2) rfl (cellsM_length m2) (marks_news (O6.out.row 3 (by simp) rfl)) (cellsM_one m2) h2a.1 (by unfold maxLen; omega) (by omega) (Nat.zero_le _) _ rfl ?_; intro gB cB wB hown hgrow hat hlt3; rw [← cellsM_append] at hown; have O7 := Lib.hid (O6.out.turn (i := 0) (by simp) rfl hgrow hown hat); have x7 := (O7.out.cell (i := 1) (n := 3) (by simp) rfl 0 (by omega)).1; simp only [List.map_cons, List.map_nil, List.getElem?_cons_zero] at x7; have x8 := (O7.out.cell (i := 1) (n := 3) (by simp) rfl 1 (by omega)).1; simp only [List.map_cons, List.map_nil, List.getElem?_cons_zero, List.getElem?_cons_succ] at x8; clear hown hgrow hat hlt3) | (refine step_append_lies _ rfl _ _ 41 rfl 0 81 i0 (.agg #[.int .i64 0, .int .i64 0, .string ⟨#[]⟩, .string ⟨#[]⟩, .int .i64 0]) 5 56 Try.underlying41 HI.out.1 HI.out.2.1 HI.out.2.2.1 HI.out.2.2.2 rfl (by decide) (.slice (some ⟨wp.heap.size, 0, none⟩) 0 0) 0 [] rfl (O5.out.row 0 (by simp) rfl) ⟨g1, 0, none⟩ m1.length c1 (cellsM m1) rfl (cellsM_length m1) (marks_news (O5.out.row 2 (by simp) rfl)) (cellsM_one m1) h1a.1 (by unfold maxLen; omega) (by omega) (Nat.zero_le _) _ rfl ?_; intro gA cA wA hown hgrow hat hlt3; simp only [Nat.zero_add, List.nil_append] at hown ⊢; have O6 := Lib.hid (O5.out.turn (i := 0) (by simp) rfl hgrow hown hat); have x5 := (O6.out.cell (i := 1) (n := 3) (by simp) rfl 0 (by omega)).1; simp only [List.map_cons, List.map_nil, List.getElem?_cons_zero] at x5; have x6 := (O6.out.cell (i := 1) (n := 3) (by simp) rfl 1 (by omega)).1; simp only [List.map_cons, List.map_nil, List.getElem?_cons_zero, List.getElem?_cons_succ] at x6; clear hown hgrow hat hlt3))
                all_goals
                  have OA := Lib.hid (O9.out.lit #[] 41 0 1 rfl (Nat.zero_le _))
                  go_wp2_with (first | (at_builtin; refine wpList_append_lies _ rfl _ _ 110 rfl 0 41 s0 (.slice none 0 0) 1 24 Try.underlying110 HS.out.1 HS.out.2.1 HS.out.2.2.1 HS.out.2.2.2 rfl (by decide) (.slice (some ⟨gG, 0, none⟩) 1 cG) 1 [(.slice (some ⟨gE, 0, none⟩) (m1.length + m2.length + 1) cE)] rfl (OC.out.row 0 (by simp) rfl) ⟨go, 2, none⟩ 1 _ [.slice (some ⟨g3, 0, none⟩) m3.length c3] rfl rfl (seg_news (OC.out.row 2 (by simp) (n := 3) rfl) 2 _ rfl) (by simp [Value.oneCell']) (by omega) (by unfold maxLen; omega) (by omega) (Nat.zero_le _) _ rfl ?_; intro gH cH wH hown hgrow hat hlt3; have OE := Lib.hid (OC.out.turn (i := 0) (by simp) rfl hgrow hown hat); clear hown hgrow hat hlt3) | (at_builtin; refine wpList_append_lies _ rfl _ _ 110 rfl 0 41 s0 (.slice none 0 0) 1 24 Try.underlying110 HS.out.1 HS.out.2.1 HS.out.2.2.1 HS.out.2.2.2 rfl (by decide) (.slice (some ⟨wE.heap.size, 0, none⟩) 0 0) 0 [] rfl ((OB.out.alloc _).row 0 (by simp) rfl) ⟨wE.heap.size + 1, 0, none⟩ 1 1 [(.slice (some ⟨gE, 0, none⟩) (m1.length + m2.length + 1) cE)] rfl rfl (new_news _ #[(.slice (some ⟨gE, 0, none⟩) (m1.length + m2.length + 1) cE)] _ _ (by simp)) (by simp [Value.oneCell']) (by omega) (by unfold maxLen; omega) (by omega) (Nat.zero_le _) _ rfl ?_; intro gG cG wG hown hgrow hat hlt3; have OC := Lib.hid ((OB.out.alloc _).turn (i := 0) (by simp) rfl hgrow hown hat); clear hown hgrow hat hlt3) | (at_builtin; refine wpList_append_zero rfl _ _ 110 rfl 0 41 s0 1 Try.underlying110 HS.out.1 (.slice (some ⟨wE.heap.size, 0, none⟩) 0 0) 0 [] rfl (OA.out.row 0 (by simp) rfl) _ _ rfl ?_; have OB := OA))
                  go_roundw
                  case rel =>
                    refine ⟨[(.slice (some ⟨gE, 0, none⟩) (m1.length + m2.length + 1) cE, m1 ++ m2 ++ [markOf kd]), (.slice (some ⟨g3, 0, none⟩) m3.length c3, m3)], left, li, (k3 + 1) + 1, HLI.out, by first | rfl | trivial, by omega, PartsOk.join (ps := []) (qs := [(.slice (some ⟨g3, 0, none⟩) m3.length c3, m3)]) (p := (.slice (some ⟨g1, 0, none⟩) m1.length c1, m1)) (r := (.slice (some ⟨g2, 0, none⟩) m2.length c2, m2)) (by omega) (by omega) HPO.out, by have := HKB.out.1; simp at this ⊢; omega, by have := HKB.out.2; omega, ?_⟩
                    have hz := OE.out.sub (List.Sublist.cons_cons _ (List.Sublist.cons_cons _ (List.Sublist.cons _ (List.Sublist.cons _ (List.Sublist.cons _ (List.Sublist.cons_cons _ (List.nil_sublist _)))))))
                    simp only [List.map_cons, List.map_nil]
                    rw [innM_snoc _ (m1 ++ m2) (markOf kd) (m1.length + m2.length + 1) (by rw [List.length_append])]
                    exact hz
                  case measure => simp [intOf, lenV]; try omega
            · have hl0I : ¬ 0 < li := by have := HLI.out; omega
              generalize w3 = wp at *
              have OL := Lib.hid (O3.out.lit #[] 81 0 5 rfl (Nat.zero_le _))
              have O5 := Lib.hid OL.out.drew
              have x1 := (O3.out.cell (i := 0) (n := 3) (by simp) rfl 0 (by omega)).1
              simp only [List.map_cons, List.map_nil, List.getElem?_cons_zero] at x1
              have x2 := (OL.out.cell (i := 1) (n := 3) (by simp) rfl 0 (by omega)).1
              simp only [List.map_cons, List.map_nil, List.getElem?_cons_zero] at x2
              have x3 := (O3.out.cell (i := 0) (n := 3) (by simp) rfl 1 (by omega)).1
              simp only [List.map_cons, List.map_nil, List.getElem?_cons_zero, List.getElem?_cons_succ] at x3
              have x4 := (OL.out.cell (i := 1) (n := 3) (by simp) rfl 1 (by omega)).1
              simp only [List.map_cons, List.map_nil, List.getElem?_cons_zero, List.getElem?_cons_succ] at x4
              have hw1 : IntKind.i64.wrap 1 = 1 := by decide
              have hw2 : IntKind.i64.wrap 2 = 2 := by decide
              go_upto_region 12 with fail
              go_region_held3 (fun w' => w'.cell? ⟨go, 0, none⟩ = some (.slice (some ⟨g1, 0, none⟩) m1.length c1) ∧ w'.cell? ⟨go, 1, none⟩ = some (.slice (some ⟨g2, 0, none⟩) m2.length c2))
                (refine ⟨?_, ?_⟩ <;> go_simp)
                (first | (refine step_append_lies _ rfl _ _ 41 rfl 0 81 i0 (.agg #[.int .i64 0, .int .i64 0, .string ⟨#[]⟩, .string ⟨#[]⟩, .int .i64 0]) 5 56 Try.underlying41 HI.out.1 HI.out.2.1 HI.out.2.2.1 HI.out.2.2.2 rfl (by decide) (.slice (some ⟨gB, 0, none⟩) (m1.length + m2.length) cB) (m1.length + m2.length) (cellsM (m1 ++ m2)) rfl ((O8.out.alloc _).row 0 (by simp) rfl) ⟨wC.heap.size, 0, none⟩ 1 1 (markOf kd).cells rfl rfl (new_news wC #[.int .i64 kd, .int .i64 0, .string ⟨#[]⟩, .string ⟨#[]⟩, .int .i64 0] _ _ rfl) (by intro u hu; exact cellsM_one [markOf kd] u (by simpa [cellsM] using hu)) (by omega) (by unfold maxLen; omega) (by omega) (Nat.zero_le _) _ rfl ?_; intro gE cE wE hown hgrow hat hlt3; rw [← cellsM_snoc] at hown; have O9 := Lib.hid ((O8.out.alloc (.cells #[.int .i64 kd, .int .i64 0, .string ⟨#[]⟩, .string ⟨#[]⟩, .int .i64 0] 81)).turn (i := 0) (by simp) rfl hgrow hown hat); have z1 := (O9.out.cell (i := 1) (n := 3) (by simp) rfl 0 (by omega)).1; simp only [List.map_cons, List.map_nil, List.getElem?_cons_zero] at z1; have z2 := (O9.out.cell (i := 1) (n := 3) (by simp) rfl 1 (by omega)).1; simp only [List.map_cons, List.map_nil, List.getElem?_cons_zero, List.getElem?_cons_succ] at z2; clear hown hgrow hat hlt3) | (go_at_call 59; refine (pick_any B R a len cap k3 3 _ O7.out.rd (by have := HKB.out.1; omega) (by omega) (by omega)).mono ?_; rintro e wC ⟨vC, rfl, q0, q1, hRC, hKC⟩; have q2 := q1 (by omega); have O8 := Lib.hid (O7.out.picked hRC hKC); obtain ⟨kd, hw3, hd0, hd1⟩ := mark_kind vC q0 q2; have y1 := fun o => ((O8.out.alloc o).cell (i := 1) (n := 3) (by simp) rfl 0 (by omega)).1; simp only [List.map_cons, List.map_nil, List.getElem?_cons_zero] at y1; have y2 := fun o => ((O8.out.alloc o).cell (i := 1) (n := 3) (by simp) rfl 1 (by omega)).1; simp only [List.map_cons, List.map_nil, List.getElem?_cons_zero, List.getElem?_cons_succ] at y2; have y3 := (O8.out.cell (i := 1) (n := 3) (by simp) rfl 0 (by omega)).1; simp only [List.map_cons, List.map_nil, List.getElem?_cons_zero] at y3; have y4 := (O8.out.cell (i := 1) (n := 3) (by simp) rfl 1 (by omega)).1; simp only [List.map_cons, List.map_nil, List.getElem?_cons_zero, List.getElem?_cons_succ] at y4; clear hRC hKC q1) | (refine step_append_lies _ rfl _ _ 41 rfl 0 81 i0 (.agg #[.int .i64 0, .int .i64 0, .string ⟨#[]⟩, .string ⟨#[]⟩, .int .i64 0]) 5 56 Try.underlying41 HI.out.1 HI.out.2.1 HI.out.2.2.1 HI.out.2.2.2 rfl (by decide) (.slice (some ⟨gA, 0, none⟩) m1.length cA) m1.length (cellsM m1) rfl (O6.out.row 0 (by simp) rfl) ⟨g2, 0, none⟩ m2.length c2 (cellsM m2) rfl (cellsM_length m2) (marks_news (O6.out.row 3 (by simp) rfl)) (cellsM_one m2) h2a.1 (by unfold maxLen; omega) (by omega) (Nat.zero_le _) _ rfl ?_; intro gB cB wB hown hgrow hat hlt3; rw [← cellsM_append] at hown; have O7 := Lib.hid (O6.out.turn (i := 0) (by simp) rfl hgrow hown hat); have x7 := (O7.out.cell (i := 1) (n := 3) (by simp) rfl 0 (by omega)).1; simp only [List.map_cons, List.map_nil, List.getElem?_cons_zero] at x7; have x8 := (O7.out.cell (i := 1) (n := 3) (by simp) rfl 1 (by omega)).1; simp only [List.map_cons, List.map_nil, List.getElem?_cons_zero, List.getElem?_cons_succ] at x8; clear hown hgrow hat hlt3) | (refine step_append_lies _ rfl _ _ 41 rfl 0 81 i0 (.agg #[.int .i64 0, .int .i64 0, .string ⟨#[]⟩, .string ⟨#[]⟩, .int .i64 0]) 5 56 Try.underlying41 HI.out.1 HI.out.2.1 HI.out.2.2.1 HI.out.2.2.2 rfl (by decide) (.slice (some ⟨wp.heap.size, 0, none⟩) 0 0) 0 [] rfl (O5.out.row 0 (by simp) rfl) ⟨g1, 0, none⟩ m1.length c1 (cellsM m1) rfl (cellsM_length m1) (marks_news (O5.out.row 2 (by simp) rfl)) (cellsM_one m1) h1a.1 (by unfold maxLen; omega) (by omega) (Nat.zero_le _) _ rfl ?_; intro gA cA wA hown hgrow hat hlt3; simp only [Nat.zero_add, List.nil_append] at hown ⊢; have O6 := Lib.hid (O5.out.turn (i := 0) (by simp) rfl hgrow hown hat); have x5 := (O6.out.cell (i := 1) (n := 3) (by simp) rfl 0 (by omega)).1; simp only [List.map_cons, List.map_nil, List.getElem?_cons_zero] at x5; have x6 := (O6.out.cell (i := 1) (n := 3) (by simp) rfl 1 (by omega)).1; simp only [List.map_cons, List.map_nil, List.getElem?_cons_zero, List.getElem?_cons_succ] at x6; clear hown hgrow hat hlt3))
              all_goals
                have OA := Lib.hid (O9.out.lit #[] 41 0 1 rfl (Nat.zero_le _))
                go_wp2_with (first | (at_builtin; refine wpList_append_lies _ rfl _ _ 110 rfl 0 41 s0 (.slice none 0 0) 1 24 Try.underlying110 HS.out.1 HS.out.2.1 HS.out.2.2.1 HS.out.2.2.2 rfl (by decide) (.slice (some ⟨gG, 0, none⟩) 1 cG) 1 [(.slice (some ⟨gE, 0, none⟩) (m1.length + m2.length + 1) cE)] rfl (OC.out.row 0 (by simp) rfl) ⟨go, 2, none⟩ 1 _ [.slice (some ⟨g3, 0, none⟩) m3.length c3] rfl rfl (seg_news (OC.out.row 2 (by simp) (n := 3) rfl) 2 _ rfl) (by simp [Value.oneCell']) (by omega) (by unfold maxLen; omega) (by omega) (Nat.zero_le _) _ rfl ?_; intro gH cH wH hown hgrow hat hlt3; have OE := Lib.hid (OC.out.turn (i := 0) (by simp) rfl hgrow hown hat); clear hown hgrow hat hlt3) | (at_builtin; refine wpList_append_lies _ rfl _ _ 110 rfl 0 41 s0 (.slice none 0 0) 1 24 Try.underlying110 HS.out.1 HS.out.2.1 HS.out.2.2.1 HS.out.2.2.2 rfl (by decide) (.slice (some ⟨wE.heap.size, 0, none⟩) 0 0) 0 [] rfl ((OB.out.alloc _).row 0 (by simp) rfl) ⟨wE.heap.size + 1, 0, none⟩ 1 1 [(.slice (some ⟨gE, 0, none⟩) (m1.length + m2.length + 1) cE)] rfl rfl (new_news _ #[(.slice (some ⟨gE, 0, none⟩) (m1.length + m2.length + 1) cE)] _ _ (by simp)) (by simp [Value.oneCell']) (by omega) (by unfold maxLen; omega) (by omega) (Nat.zero_le _) _ rfl ?_; intro gG cG wG hown hgrow hat hlt3; have OC := Lib.hid ((OB.out.alloc _).turn (i := 0) (by simp) rfl hgrow hown hat); clear hown hgrow hat hlt3) | (at_builtin; refine wpList_append_zero rfl _ _ 110 rfl 0 41 s0 1 Try.underlying110 HS.out.1 (.slice (some ⟨wE.heap.size, 0, none⟩) 0 0) 0 [] rfl (OA.out.row 0 (by simp) rfl) _ _ rfl ?_; have OB := OA))
                go_roundw
                case rel =>
                  refine ⟨[(.slice (some ⟨gE, 0, none⟩) (m1.length + m2.length + 1) cE, m1 ++ m2 ++ [markOf kd]), (.slice (some ⟨g3, 0, none⟩) m3.length c3, m3)], left, li, k3 + 1, HLI.out, by first | rfl | trivial, by omega, PartsOk.join (ps := []) (qs := [(.slice (some ⟨g3, 0, none⟩) m3.length c3, m3)]) (p := (.slice (some ⟨g1, 0, none⟩) m1.length c1, m1)) (r := (.slice (some ⟨g2, 0, none⟩) m2.length c2, m2)) (by omega) (by omega) HPO.out, by have := HKB.out.1; simp at this ⊢; omega, by have := HKB.out.2; omega, ?_⟩
                  have hz := OE.out.sub (List.Sublist.cons_cons _ (List.Sublist.cons_cons _ (List.Sublist.cons _ (List.Sublist.cons _ (List.Sublist.cons _ (List.Sublist.cons_cons _ (List.nil_sublist _)))))))
                  simp only [List.map_cons, List.map_nil]
                  rw [innM_snoc _ (m1 ++ m2) (markOf kd) (m1.length + m2.length + 1) (by rw [List.length_append])]
                  exact hz
                case measure => simp [intOf, lenV]; try omega
          · clear q0 q2
            by_cases hl0 : 0 < left
            · have hl0I : 0 < li := by have := HLI.out; omega
              go_wp2_with fail
              refine (pick_any B R a len cap k3 4 _ O3.out.rd (by have := HKB.out.1; omega) (by omega) (by omega)).mono ?_
              rintro e wp ⟨v4, rfl, q0, q1, hR4, hK4⟩
              have O4 := Lib.hid (O3.out.picked hR4 hK4)
              clear q1 hR4 hK4
              by_cases h40 : v4 = 0
              · subst h40
                obtain ⟨l, rfl⟩ : ∃ l, left = l + 1 := ⟨left - 1, by omega⟩
                have O5 := Lib.hid (O4.out.lit #[] 81 0 5 rfl (Nat.zero_le _))
                have x1 := (O5.out.cell (i := 1) (n := 3) (by simp) rfl 1 (by omega)).1
                simp only [List.map_cons, List.map_nil, List.getElem?_cons_zero, List.getElem?_cons_succ] at x1
                go_wp2_with (first | (at_builtin; refine wpList_append_lies _ rfl _ _ 41 rfl 0 81 i0 (.agg #[.int .i64 0, .int .i64 0, .string ⟨#[]⟩, .string ⟨#[]⟩, .int .i64 0]) 5 56 Try.underlying41 HI.out.1 HI.out.2.1 HI.out.2.2.1 HI.out.2.2.2 rfl (by decide) (.slice (some ⟨gA, 0, none⟩) m2.length cA) m2.length (cellsM m2) rfl ((O6.out.alloc _).row 0 (by simp) rfl) ⟨wA.heap.size, 0, none⟩ 1 1 (markOf 3).cells rfl rfl (new_news wA #[.int .i64 3, .int .i64 0, .string ⟨#[]⟩, .string ⟨#[]⟩, .int .i64 0] _ _ rfl) (by intro u hu; exact cellsM_one [markOf 3] u (by simpa [cellsM] using hu)) (by omega) (by unfold maxLen; omega) (by omega) (Nat.zero_le _) _ rfl ?_; intro gB cB wB hown hgrow hat hlt3; rw [← cellsM_snoc] at hown; have O7 := Lib.hid ((O6.out.alloc (.cells #[.int .i64 3, .int .i64 0, .string ⟨#[]⟩, .string ⟨#[]⟩, .int .i64 0] 81)).turn (i := 0) (by simp) rfl hgrow hown hat); obtain ⟨cS, fS⟩ := O7.out.cell (i := 1) (n := 3) (by simp) rfl 1 (by omega); simp only [List.map_cons, List.map_nil, List.getElem?_cons_zero, List.getElem?_cons_succ] at cS; clear hown hgrow hat hlt3) | (at_builtin; refine wpList_append_lies _ rfl _ _ 41 rfl 0 81 i0 (.agg #[.int .i64 0, .int .i64 0, .string ⟨#[]⟩, .string ⟨#[]⟩, .int .i64 0]) 5 56 Try.underlying41 HI.out.1 HI.out.2.1 HI.out.2.2.1 HI.out.2.2.2 rfl (by decide) (.slice (some ⟨wp.heap.size, 0, none⟩) 0 0) 0 [] rfl (O5.out.row 0 (by simp) rfl) ⟨g2, 0, none⟩ m2.length c2 (cellsM m2) rfl (cellsM_length m2) (marks_news (O5.out.row 3 (by simp) rfl)) (cellsM_one m2) h2a.1 (by unfold maxLen; omega) (by omega) (Nat.zero_le _) _ rfl ?_; intro gA cA wA hown hgrow hat hlt3; simp only [Nat.zero_add, List.nil_append] at hown ⊢; have O6 := Lib.hid (O5.out.turn (i := 0) (by simp) rfl hgrow hown hat); clear hown hgrow hat hlt3))
                have O8 := Lib.hid (O7.out.store (i := 1) (by simp) rfl 1 (.slice (some ⟨gB, 0, none⟩) (m2.length + 1) cB))
                go_roundw
                case rel =>
                  refine ⟨[(.slice (some ⟨g1, 0, none⟩) m1.length c1, m1), (.slice (some ⟨gB, 0, none⟩) (m2.length + 1) cB, m2 ++ [markOf 3]), (.slice (some ⟨g3, 0, none⟩) m3.length c3, m3)], l, li - 1, (k3 + 1), by have := HLI.out; omega, by first | rfl | rw [hqL], by omega, PartsOk.not (ps := [(.slice (some ⟨g1, 0, none⟩) m1.length c1, m1)]) (qs := [(.slice (some ⟨g3, 0, none⟩) m3.length c3, m3)]) HPO.out, by have := HKB.out.1; simp at this ⊢; omega, by have := HKB.out.2; omega, ?_⟩
                  have hz := ((O8.out.perm (List.Perm.swap _ _ _)).perm (List.Perm.cons _ (List.Perm.swap _ _ _))).sub (List.Sublist.cons_cons _ (List.Sublist.cons_cons _ (List.Sublist.cons_cons _ (List.Sublist.cons _ (List.Sublist.cons_cons _ (List.nil_sublist _))))))
                  simp only [List.map_cons, List.map_nil]
                  rw [innM_snoc _ m2 (markOf 3) (m2.length + 1) rfl]
                  exact hz
                case measure => simp [intOf, lenV]; omega
              · have h4b : (v4 == 0) = false := by simpa using h40
                clear h40
                have OL := Lib.hid (O4.out.lit #[] 81 0 5 rfl (Nat.zero_le _))
                have O5 := Lib.hid OL.out.drew
                have x1 := (O4.out.cell (i := 0) (n := 3) (by simp) rfl 1 (by omega)).1
                simp only [List.map_cons, List.map_nil, List.getElem?_cons_zero, List.getElem?_cons_succ] at x1
                have x2 := (OL.out.cell (i := 1) (n := 3) (by simp) rfl 1 (by omega)).1
                simp only [List.map_cons, List.map_nil, List.getElem?_cons_zero, List.getElem?_cons_succ] at x2
                have x3 := (O4.out.cell (i := 0) (n := 3) (by simp) rfl 2 (by omega)).1
                simp only [List.map_cons, List.map_nil, List.getElem?_cons_zero, List.getElem?_cons_succ] at x3
                have x4 := (OL.out.cell (i := 1) (n := 3) (by simp) rfl 2 (by omega)).1
                simp only [List.map_cons, List.map_nil, List.getElem?_cons_zero, List.getElem?_cons_succ] at x4
                have hw1 : IntKind.i64.wrap 1 = 1 := by decide
                have hw2 : IntKind.i64.wrap 2 = 2 := by decide
                go_upto_region 12 with fail
                go_region_held3 (fun w' => w'.cell? ⟨go, 1, none⟩ = some (.slice (some ⟨g2, 0, none⟩) m2.length c2) ∧ w'.cell? ⟨go, 2, none⟩ = some (.slice (some ⟨g3, 0, none⟩) m3.length c3))
                  (refine ⟨?_, ?_⟩ <;> go_simp)
                  (first | (refine step_append_lies _ rfl _ _ 41 rfl 0 81 i0 (.agg #[.int .i64 0, .int .i64 0, .string ⟨#[]⟩, .string ⟨#[]⟩, .int .i64 0]) 5 56 Try.underlying41 HI.out.1 HI.out.2.1 HI.out.2.2.1 HI.out.2.2.2 rfl (by decide) (.slice (some ⟨gB, 0, none⟩) (m2.length + m3.length) cB) (m2.length + m3.length) (cellsM (m2 ++ m3)) rfl ((O8.out.alloc _).row 0 (by simp) rfl) ⟨wC.heap.size, 0, none⟩ 1 1 (markOf kd).cells rfl rfl (new_news wC #[.int .i64 kd, .int .i64 0, .string ⟨#[]⟩, .string ⟨#[]⟩, .int .i64 0] _ _ rfl) (by intro u hu; exact cellsM_one [markOf kd] u (by simpa [cellsM] using hu)) (by omega) (by unfold maxLen; omega) (by omega) (Nat.zero_le _) _ rfl ?_; intro gE cE wE hown hgrow hat hlt3; rw [← cellsM_snoc] at hown; have O9 := Lib.hid ((O8.out.alloc (.cells #[.int .i64 kd, .int .i64 0, .string ⟨#[]⟩, .string ⟨#[]⟩, .int .i64 0] 81)).turn (i := 0) (by simp) rfl hgrow hown hat); have z1 := (O9.out.cell (i := 1) (n := 3) (by simp) rfl 1 (by omega)).1; simp only [List.map_cons, List.map_nil, List.getElem?_cons_zero, List.getElem?_cons_succ] at z1; have z2 := (O9.out.cell (i := 1) (n := 3) (by simp) rfl 2 (by omega)).1; simp only [List.map_cons, List.map_nil, List.getElem?_cons_zero, List.getElem?_cons_succ] at z2; clear hown hgrow hat hlt3) | (go_at_call 59; refine (pick_any B R a len cap (k3 + 1) 3 _ O7.out.rd (by have := HKB.out.1; omega) (by omega) (by omega)).mono ?_; rintro e wC ⟨vC, rfl, q0, q1, hRC, hKC⟩; have q2 := q1 (by omega); have O8 := Lib.hid (O7.out.picked hRC hKC); obtain ⟨kd, hw3, hd0, hd1⟩ := mark_kind vC q0 q2; have y1 := fun o => ((O8.out.alloc o).cell (i := 1) (n := 3) (by simp) rfl 1 (by omega)).1; simp only [List.map_cons, List.map_nil, List.getElem?_cons_zero, List.getElem?_cons_succ] at y1; have y2 := fun o => ((O8.out.alloc o).cell (i := 1) (n := 3) (by simp) rfl 2 (by omega)).1; simp only [List.map_cons, List.map_nil, List.getElem?_cons_zero, List.getElem?_cons_succ] at y2; have y3 := (O8.out.cell (i := 1) (n := 3) (by simp) rfl 1 (by omega)).1; simp only [List.map_cons, List.map_nil, List.getElem?_cons_zero, List.getElem?_cons_succ] at y3; have y4 := (O8.out.cell (i := 1) (n := 3) (by simp) rfl 2 (by omega)).1; simp only [List.map_cons, List.map_nil, List.getElem?_cons_zero, List.getElem?_cons_succ] at y4; clear hRC hKC q1) | (refine step_append_lies _ rfl _ _ 41 rfl 0 81 i0 (.agg #[.int .i64 0, .int .i64 0, .string ⟨#[]⟩, .string ⟨#[]⟩, .int .i64 0]) 5 56 Try.underlying41 HI.out.1 HI.out.2.1 HI.out.2.2.1 HI.out.2.2.2 rfl (by decide) (.slice (some ⟨gA, 0, none⟩) m2.length cA) m2.length (cellsM m2) rfl (O6.out.row 0 (by simp) rfl) ⟨g3, 0, none⟩ m3.length c3 (cellsM m3) rfl (cellsM_length m3) (marks_news (O6.out.row 4 (by simp) rfl)) (cellsM_one m3) h3a.1 (by unfold maxLen; omega) (by omega) (Nat.zero_le _) _ rfl ?_; intro gB cB wB hown hgrow hat hlt3; rw [← cellsM_append] at hown; have O7 := Lib.hid (O6.out.turn (i := 0) (by simp) rfl hgrow hown hat); have x7 := (O7.out.cell (i := 1) (n := 3) (by simp) rfl 1 (by omega)).1; simp only [List.map_cons, List.map_nil, List.getElem?_cons_zero, List.getElem?_cons_succ] at x7; have x8 := (O7.out.cell (i := 1) (n := 3) (by simp) rfl 2 (by omega)).1; simp only [List.map_cons, List.map_nil, List.getElem?_cons_zero, List.getElem?_cons_succ] at x8; clear hown hgrow hat hlt3) | (refine step_append_lies _ rfl _ _ 41 rfl 0 81 i0 (.agg #[.int .i64 0, .int .i64 0, .string ⟨#[]⟩, .string ⟨#[]⟩, .int .i64 0]) 5 56 Try.underlying41 HI.out.1 HI.out.2.1 HI.out.2.2.1 HI.out.2.2.2 rfl (by decide) (.slice (some ⟨wp.heap.size, 0, none⟩) 0 0) 0 [] rfl (O5.out.row 0 (by simp) rfl) ⟨g2, 0, none⟩ m2.length c2 (cellsM m2) rfl (cellsM_length m2) (marks_news (O5.out.row 3 (by simp) rfl)) (cellsM_one m2) h2a.1 (by unfold maxLen; omega) (by omega) (Nat.zero_le _) _ rfl ?_; intro gA cA wA hown hgrow hat hlt3; simp only [Nat.zero_add, List.nil_append] at hown ⊢; have O6 := Lib.hid (O5.out.turn (i := 0) (by simp) rfl hgrow hown hat); have x5 := (O6.out.cell (i := 1) (n := 3) (by simp) rfl 1 (by omega)).1; simp only [List.map_cons, List.map_nil, List.getElem?_cons_zero, List.getElem?_cons_succ] at x5; have x6 := (O6.out.cell (i := 1) (n := 3) (by simp) rfl 2 (by omega)).1; simp only [List.map_cons, List.map_nil, List.getElem?_cons_zero, List.getElem?_cons_succ] at x6; clear hown hgrow hat hlt3))
                all_goals
                  have OA := Lib.hid (O9.out.lit #[] 41 0 1 rfl (Nat.zero_le _))
                  go_wp2_with (first | (at_builtin; refine wpList_append_zero rfl _ _ 110 rfl 0 41 s0 1 Try.underlying110 HS.out.1 (.slice (some ⟨gG, 0, none⟩) 2 cG) 2 [.slice (some ⟨g1, 0, none⟩) m1.length c1, (.slice (some ⟨gE, 0, none⟩) (m2.length + m3.length + 1) cE)] rfl (OC.out.row 0 (by simp) rfl) _ _ rfl ?_; have OE := OC) | (at_builtin; refine wpList_append_lies _ rfl _ _ 110 rfl 0 41 s0 (.slice none 0 0) 1 24 Try.underlying110 HS.out.1 HS.out.2.1 HS.out.2.2.1 HS.out.2.2.2 rfl (by decide) (.slice (some ⟨gF, 0, none⟩) 1 cF) 1 [.slice (some ⟨g1, 0, none⟩) m1.length c1] rfl ((OB.out.alloc _).row 0 (by simp) rfl) ⟨wF.heap.size, 0, none⟩ 1 1 [(.slice (some ⟨gE, 0, none⟩) (m2.length + m3.length + 1) cE)] rfl rfl (new_news _ #[(.slice (some ⟨gE, 0, none⟩) (m2.length + m3.length + 1) cE)] _ _ (by simp)) (by simp [Value.oneCell']) (by omega) (by unfold maxLen; omega) (by omega) (Nat.zero_le _) _ rfl ?_; intro gG cG wG hown hgrow hat hlt3; have OC := Lib.hid ((OB.out.alloc _).turn (i := 0) (by simp) rfl hgrow hown hat); clear hown hgrow hat hlt3) | (at_builtin; refine wpList_append_lies _ rfl _ _ 110 rfl 0 41 s0 (.slice none 0 0) 1 24 Try.underlying110 HS.out.1 HS.out.2.1 HS.out.2.2.1 HS.out.2.2.2 rfl (by decide) (.slice (some ⟨wE.heap.size, 0, none⟩) 0 0) 0 [] rfl (OA.out.row 0 (by simp) rfl) ⟨go, 0, none⟩ 1 _ [.slice (some ⟨g1, 0, none⟩) m1.length c1] rfl rfl (seg_news (OA.out.row 2 (by simp) (n := 3) rfl) 0 _ rfl) (by simp [Value.oneCell']) (by omega) (by unfold maxLen; omega) (by omega) (Nat.zero_le _) _ rfl ?_; intro gF cF wF hown hgrow hat hlt3; simp only [Nat.zero_add, List.nil_append] at hown ⊢; have OB := Lib.hid (OA.out.turn (i := 0) (by simp) rfl hgrow hown hat); clear hown hgrow hat hlt3))
                  go_roundw
                  case rel =>
                    refine ⟨[(.slice (some ⟨g1, 0, none⟩) m1.length c1, m1), (.slice (some ⟨gE, 0, none⟩) (m2.length + m3.length + 1) cE, m2 ++ m3 ++ [markOf kd])], left, li, (k3 + 1) + 1, HLI.out, by first | rfl | trivial, by omega, PartsOk.join (ps := [(.slice (some ⟨g1, 0, none⟩) m1.length c1, m1)]) (qs := []) (p := (.slice (some ⟨g2, 0, none⟩) m2.length c2, m2)) (r := (.slice (some ⟨g3, 0, none⟩) m3.length c3, m3)) (by omega) (by omega) HPO.out, by have := HKB.out.1; simp at this ⊢; omega, by have := HKB.out.2; omega, ?_⟩
                    have hz := (OE.out.sub (List.Sublist.cons_cons _ (List.Sublist.cons_cons _ (List.Sublist.cons _ (List.Sublist.cons_cons _ (List.nil_sublist _)))))).perm (List.Perm.cons _ (List.Perm.swap _ _ _))
                    simp only [List.map_cons, List.map_nil]
                    rw [innM_snoc _ (m2 ++ m3) (markOf kd) (m2.length + m3.length + 1) (by rw [List.length_append])]
                    exact hz
                  case measure => simp [intOf, lenV]; try omega
            · have hl0I : ¬ 0 < li := by have := HLI.out; omega
              generalize w3 = wp at *
              have OL := Lib.hid (O3.out.lit #[] 81 0 5 rfl (Nat.zero_le _))
              have O5 := Lib.hid OL.out.drew
              have x1 := (O3.out.cell (i := 0) (n := 3) (by simp) rfl 1 (by omega)).1
              simp only [List.map_cons, List.map_nil, List.getElem?_cons_zero, List.getElem?_cons_succ] at x1
              have x2 := (OL.out.cell (i := 1) (n := 3) (by simp) rfl 1 (by omega)).1
              simp only [List.map_cons, List.map_nil, List.getElem?_cons_zero, List.getElem?_cons_succ] at x2
              have x3 := (O3.out.cell (i := 0) (n := 3) (by simp) rfl 2 (by omega)).1
              simp only [List.map_cons, List.map_nil, List.getElem?_cons_zero, List.getElem?_cons_succ] at x3
              have x4 := (OL.out.cell (i := 1) (n := 3) (by simp) rfl 2 (by omega)).1
              simp only [List.map_cons, List.map_nil, List.getElem?_cons_zero, List.getElem?_cons_succ] at x4
              have hw1 : IntKind.i64.wrap 1 = 1 := by decide
              have hw2 : IntKind.i64.wrap 2 = 2 := by decide
              go_upto_region 12 with fail
              go_region_held3 (fun w' => w'.cell? ⟨go, 1, none⟩ = some (.slice (some ⟨g2, 0, none⟩) m2.length c2) ∧ w'.cell? ⟨go, 2, none⟩ = some (.slice (some ⟨g3, 0, none⟩) m3.length c3))
                (refine ⟨?_, ?_⟩ <;> go_simp)
                (first | (refine step_append_lies _ rfl _ _ 41 rfl 0 81 i0 (.agg #[.int .i64 0, .int .i64 0, .string ⟨#[]⟩, .string ⟨#[]⟩, .int .i64 0]) 5 56 Try.underlying41 HI.out.1 HI.out.2.1 HI.out.2.2.1 HI.out.2.2.2 rfl (by decide) (.slice (some ⟨gB, 0, none⟩) (m2.length + m3.length) cB) (m2.length + m3.length) (cellsM (m2 ++ m3)) rfl ((O8.out.alloc _).row 0 (by simp) rfl) ⟨wC.heap.size, 0, none⟩ 1 1 (markOf kd).cells rfl rfl (new_news wC #[.int .i64 kd, .int .i64 0, .string ⟨#[]⟩, .string ⟨#[]⟩, .int .i64 0] _ _ rfl) (by intro u hu; exact cellsM_one [markOf kd] u (by simpa [cellsM] using hu)) (by omega) (by unfold maxLen; omega) (by omega) (Nat.zero_le _) _ rfl ?_; intro gE cE wE hown hgrow hat hlt3; rw [← cellsM_snoc] at hown; have O9 := Lib.hid ((O8.out.alloc (.cells #[.int .i64 kd, .int .i64 0, .string ⟨#[]⟩, .string ⟨#[]⟩, .int .i64 0] 81)).turn (i := 0) (by simp) rfl hgrow hown hat); have z1 := (O9.out.cell (i := 1) (n := 3) (by simp) rfl 1 (by omega)).1; simp only [List.map_cons, List.map_nil, List.getElem?_cons_zero, List.getElem?_cons_succ] at z1; have z2 := (O9.out.cell (i := 1) (n := 3) (by simp) rfl 2 (by omega)).1; simp only [List.map_cons, List.map_nil, List.getElem?_cons_zero, List.getElem?_cons_succ] at z2; clear hown hgrow hat hlt3) | (go_at_call 59; refine (pick_any B R a len cap k3 3 _ O7.out.rd (by have := HKB.out.1; omega) (by omega) (by omega)).mono ?_; rintro e wC ⟨vC, rfl, q0, q1, hRC, hKC⟩; have q2 := q1 (by omega); have O8 := Lib.hid (O7.out.picked hRC hKC); obtain ⟨kd, hw3, hd0, hd1⟩ := mark_kind vC q0 q2; have y1 := fun o => ((O8.out.alloc o).cell (i := 1) (n := 3) (by simp) rfl 1 (by omega)).1; simp only [List.map_cons, List.map_nil, List.getElem?_cons_zero, List.getElem?_cons_succ] at y1; have y2 := fun o => ((O8.out.alloc o).cell (i := 1) (n := 3) (by simp) rfl 2 (by omega)).1; simp only [List.map_cons, List.map_nil, List.getElem?_cons_zero, List.getElem?_cons_succ] at y2; have y3 := (O8.out.cell (i := 1) (n := 3) (by simp) rfl 1 (by omega)).1; simp only [List.map_cons, List.map_nil, List.getElem?_cons_zero, List.getElem?_cons_succ] at y3; have y4 := (O8.out.cell (i := 1) (n := 3) (by simp) rfl 2 (by omega)).1; simp only [List.map_cons, List.map_nil, List.getElem?_cons_zero, List.getElem?_cons_succ] at y4; clear hRC hKC q1) | (refine step_append_lies _ rfl _ _ 41 rfl 0 81 i0 (.agg #[.int .i64 0, .int .i64 0, .string ⟨#[]⟩, .string ⟨#[]⟩, .int .i64 0]) 5 56 Try.underlying41 HI.out.1 HI.out.2.1 HI.out.2.2.1 HI.out.2.2.2 rfl (by decide) (.slice (some ⟨gA, 0, none⟩) m2.length cA) m2.length (cellsM m2) rfl (O6.out.row 0 (by simp) rfl) ⟨g3, 0, none⟩ m3.length c3 (cellsM m3) rfl (cellsM_length m3) (marks_news (O6.out.row 4 (by simp) rfl)) (cellsM_one m3) h3a.1 (by unfold maxLen; omega) (by omega) (Nat.zero_le _) _ rfl ?_; intro gB cB wB hown hgrow hat hlt3; rw [← cellsM_append] at hown; have O7 := Lib.hid (O6.out.turn (i := 0) (by simp) rfl hgrow hown hat); have x7 := (O7.out.cell (i := 1) (n := 3) (by simp) rfl 1 (by omega)).1; simp only [List.map_cons, List.map_nil, List.getElem?_cons_zero, List.getElem?_cons_succ] at x7; have x8 := (O7.out.cell (i := 1) (n := 3) (by simp) rfl 2 (by omega)).1; simp only [List.map_cons, List.map_nil, List.getElem?_cons_zero, List.getElem?_cons_succ] at x8; clear hown hgrow hat hlt3) | (refine step_append_lies _ rfl _ _ 41 rfl 0 81 i0 (.agg #[.int .i64 0, .int .i64 0, .string ⟨#[]⟩, .string ⟨#[]⟩, .int .i64 0]) 5 56 Try.underlying41 HI.out.1 HI.out.2.1 HI.out.2.2.1 HI.out.2.2.2 rfl (by decide) (.slice (some ⟨wp.heap.size, 0, none⟩) 0 0) 0 [] rfl (O5.out.row 0 (by simp) rfl) ⟨g2, 0, none⟩ m2.length c2 (cellsM m2) rfl (cellsM_length m2) (marks_news (O5.out.row 3 (by simp) rfl)) (cellsM_one m2) h2a.1 (by unfold maxLen; omega) (by omega) (Nat.zero_le _) _ rfl ?_; intro gA cA wA hown hgrow hat hlt3; simp only [Nat.zero_add, List.nil_append] at hown ⊢; have O6 := Lib.hid (O5.out.turn (i := 0) (by simp) rfl hgrow hown hat); have x5 := (O6.out.cell (i := 1) (n := 3) (by simp) rfl 1 (by omega)).1; simp only [List.map_cons, List.map_nil, List.getElem?_cons_zero, List.getElem?_cons_succ] at x5; have x6 := (O6.out.cell (i := 1) (n := 3) (by simp) rfl 2 (by omega)).1; simp only [List.map_cons, List.map_nil, List.getElem?_cons_zero, List.getElem?_cons_succ] at x6; clear hown hgrow hat hlt3))
              all_goals
                have OA := Lib.hid (O9.out.lit #[] 41 0 1 rfl (Nat.zero_le _))
                go_wp2_with (first | (at_builtin; refine wpList_append_zero rfl _ _ 110 rfl 0 41 s0 1 Try.underlying110 HS.out.1 (.slice (some ⟨gG, 0, none⟩) 2 cG) 2 [.slice (some ⟨g1, 0, none⟩) m1.length c1, (.slice (some ⟨gE, 0, none⟩) (m2.length + m3.length + 1) cE)] rfl (OC.out.row 0 (by simp) rfl) _ _ rfl ?_; have OE := OC) | (at_builtin; refine wpList_append_lies _ rfl _ _ 110 rfl 0 41 s0 (.slice none 0 0) 1 24 Try.underlying110 HS.out.1 HS.out.2.1 HS.out.2.2.1 HS.out.2.2.2 rfl (by decide) (.slice (some ⟨gF, 0, none⟩) 1 cF) 1 [.slice (some ⟨g1, 0, none⟩) m1.length c1] rfl ((OB.out.alloc _).row 0 (by simp) rfl) ⟨wF.heap.size, 0, none⟩ 1 1 [(.slice (some ⟨gE, 0, none⟩) (m2.length + m3.length + 1) cE)] rfl rfl (new_news _ #[(.slice (some ⟨gE, 0, none⟩) (m2.length + m3.length + 1) cE)] _ _ (by simp)) (by simp [Value.oneCell']) (by omega) (by unfold maxLen; omega) (by omega) (Nat.zero_le _) _ rfl ?_; intro gG cG wG hown hgrow hat hlt3; have OC := Lib.hid ((OB.out.alloc _).turn (i := 0) (by simp) rfl hgrow hown hat); clear hown hgrow hat hlt3) | (at_builtin; refine wpList_append_lies _ rfl _ _ 110 rfl 0 41 s0 (.slice none 0 0) 1 24 Try.underlying110 HS.out.1 HS.out.2.1 HS.out.2.2.1 HS.out.2.2.2 rfl (by decide) (.slice (some ⟨wE.heap.size, 0, none⟩) 0 0) 0 [] rfl (OA.out.row 0 (by simp) rfl) ⟨go, 0, none⟩ 1 _ [.slice (some ⟨g1, 0, none⟩) m1.length c1] rfl rfl (seg_news (OA.out.row 2 (by simp) (n := 3) rfl) 0 _ rfl) (by simp [Value.oneCell']) (by omega) (by unfold maxLen; omega) (by omega) (Nat.zero_le _) _ rfl ?_; intro gF cF wF hown hgrow hat hlt3; simp only [Nat.zero_add, List.nil_append] at hown ⊢; have OB := Lib.hid (OA.out.turn (i := 0) (by simp) rfl hgrow hown hat); clear hown hgrow hat hlt3))
                go_roundw
                case rel =>
                  refine ⟨[(.slice (some ⟨g1, 0, none⟩) m1.length c1, m1), (.slice (some ⟨gE, 0, none⟩) (m2.length + m3.length + 1) cE, m2 ++ m3 ++ [markOf kd])], left, li, k3 + 1, HLI.out, by first | rfl | trivial, by omega, PartsOk.join (ps := [(.slice (some ⟨g1, 0, none⟩) m1.length c1, m1)]) (qs := []) (p := (.slice (some ⟨g2, 0, none⟩) m2.length c2, m2)) (r := (.slice (some ⟨g3, 0, none⟩) m3.length c3, m3)) (by omega) (by omega) HPO.out, by have := HKB.out.1; simp at this ⊢; omega, by have := HKB.out.2; omega, ?_⟩
                  have hz := (OE.out.sub (List.Sublist.cons_cons _ (List.Sublist.cons_cons _ (List.Sublist.cons _ (List.Sublist.cons_cons _ (List.nil_sublist _)))))).perm (List.Perm.cons _ (List.Perm.swap _ _ _))
                  simp only [List.map_cons, List.map_nil]
                  rw [innM_snoc _ (m2 ++ m3) (markOf kd) (m2.length + m3.length + 1) (by rw [List.length_append])]
                  exact hz
                case measure => simp [intOf, lenV]; try omega
        · simp at hn3 <;> omega
end Go.Proofs.Ytlbblfbiiceofaa

namespace Go.Proofs.Ytlbblfbiiceofaa
open Go.RowKit

/-- strings as they are drawn: few short ones -/
def SmallB (b : Nat) (xs : List ByteArray) : Prop := xs.length ≤ 5 ∧ ∀ s ∈ xs, s.size ≤ b
abbrev SmallR (xs : List ByteArray) : Prop := SmallB 10 xs
theorem SmallB.more {b c : Nat} {xs : List ByteArray} (h : SmallB b xs) (hbc : b ≤ c) : SmallB c xs := ⟨h.1, fun s hs => Nat.le_trans (h.2 s hs) hbc⟩
theorem SmallB.short {xs : List ByteArray} (h : SmallR xs) : Short xs := fun s hs => by have := h.2 s hs; unfold maxLen; omega
theorem owns_capR {w : World} {base g n c : Nat} {e : TypeId} {xs : List Value} (h : w.ownsRow base e 1 (.slice (some ⟨g, 0, none⟩) n c) n xs) : n ≤ c ∧ c ≤ 9223372036854775807 := by
  rcases h.2 with ⟨h0, _⟩ | ⟨g'', cap'', cur, hv, _, _, h1, h2, _⟩
  · cases h0
  · cases hv
    unfold maxLen at h2
    exact ⟨h1, h2⟩
/-- what drawing a roster leaves -/
def RostDrawn (B R : Nat) (a : Option Addr) (len cap k : Nat) (w : World) (e : Ending) (w' : World) : Prop :=
  ∃ (xs : List ByteArray) (v : Value), e = .returned v ∧ SmallR xs ∧ w'.ownsRow w.heap.size 9 1 v xs.length (xs.map Value.string) ∧ ∃ k', k ≤ k' ∧ k' ≤ k + 40 ∧ RdAt B R a len cap k' w' ∧ KeepsBut R w w'
theorem SmallB.snoc {b : Nat} {xs : List ByteArray} {s : ByteArray} (h : SmallB b xs) (hl : xs.length ≤ 4) (hs : s.size ≤ b) : SmallB b (xs ++ [s]) :=
  ⟨by rw [List.length_append]; simp; omega, fun x hx => by
    rcases List.mem_append.1 hx with hx | hx
    · exact h.2 x hx
    · rw [List.mem_singleton.1 hx]; exact hs⟩
theorem SmallB.set {b : Nat} {xs : List ByteArray} {s : ByteArray} (h : SmallB b xs) (hs : s.size ≤ b) (j : Nat) : SmallB b (xs.set j s) :=
  ⟨by rw [List.length_set]; exact h.1, fun x hx => by
    rcases List.mem_or_eq_of_mem_set hx with hx | rfl
    · exact h.2 x hx
    · exact hs⟩

set_option maxHeartbeats 6400000 in
theorem l20Roster_any (B R : Nat) (a : Option Addr) (len cap k : Nat) (n : Int) (w : World) (H : RdAt B R a len cap k w) (hk : k ≤ 900000) (hn : 1 ≤ n) (hn2 : n ≤ 1000) :
    Calls Try.prog 52 #[.pointer (some ⟨R, 0, none⟩), .int .i64 n] w (RostDrawn B R a len cap k w) := by
  have HRR := Lib.hid H.hR
  have O0 := Lib.hid ((OwR.start H).lit #[] 9 0 1 rfl (Nat.zero_le _))
  clear H
  have HII := Lib.hid (info_parts infoStrC)
  go_enter Try.func52, Try.ntmps52
  go_wp2_with fail
  refine (pick_any B R a len cap k 7 _ O0.out.rd (by omega) (by omega) (by omega)).mono ?_
  rintro e w1 ⟨dy, rfl, h10, h11, hR1, hK1⟩
  have h11' := h11 (by omega)
  have O1 := Lib.hid (O0.out.picked hR1 hK1)
  clear hR1 hK1 h11 O0
  obtain ⟨dn, hdn⟩ := Int.eq_ofNat_of_zero_le h10
  have HDN := Lib.hid hdn
  clear hdn
  go_wp2_with fail
  refine (pick_any B R a len cap (k + 1) 4 _ O1.out.rd (by omega) (by omega) (by omega)).mono ?_
  rintro e w2 ⟨v2, rfl, h20, h21, hR2, hK2⟩
  have h21' := h21 (by omega)
  have O2 := Lib.hid (O1.out.picked hR2 hK2)
  clear hR2 hK2 h21 O1
  obtain ⟨m0, rfl⟩ := Int.eq_ofNat_of_zero_le h20
  go_wp2_with fail
  go_loopw [5, 7, 8, 9] (fun s i _ _ wr => ∃ (m : Nat) (ys : List ByteArray) (g cn cp k' : Nat), i = .int .i64 m ∧ s = .slice (some ⟨g, 0, none⟩) cn cp ∧ cn ≤ cp ∧ cp ≤ 9223372036854775807 ∧ cn + m ≤ 4 ∧ Hid (1 ≤ cn + m) ∧ Hid (ys.length = cn) ∧ Hid (SmallB 6 ys) ∧ k + 2 ≤ k' ∧ k' + 6 * m ≤ k + 26 ∧ Hid (OwR B R a len cap w k' [rowT 9 1 (.slice (some ⟨g, 0, none⟩) cn cp) cn (ys.map Value.string)] wr)) (fun _ i _ _ _ => (intOf i).toNat)
  case atStart => exact ⟨1 + m0, [], w.heap.size, 0, 0, k + 2, by go_num, rfl, Nat.le_refl _, by omega, by omega, Lib.hid (by omega), Lib.hid rfl, Lib.hid ⟨Nat.zero_le _, fun x h => by cases h⟩, Nat.le_refl _, by omega, O2⟩
  case round =>
    obtain ⟨m, ys, g, cn, cp, k', rfl, rfl, hcp1, hcp2, hm, HMN, HY, HSM, hk1, hk2, HO⟩ := hrel
    clear O2
    obtain ⟨wo, rfl⟩ : ∃ wo : World, wo = wr := ⟨_, rfl⟩
    by_cases hm0 : 0 < m
    · go_wp2_with fail
      go_loopw [8, 9] (fun s i wq => ∃ (j : Nat) (jv : Int) (o : ByteArray) (k2 : Nat), i = .int .i64 jv ∧ s = .string o ∧ Hid (jv = (j : Int)) ∧ 0 ≤ jv ∧ jv ≤ dy ∧ (o.size : Int) = jv ∧ k2 = k' + j ∧ Hid (OwR B R a len cap w k2 [rowT 9 1 (.slice (some ⟨g, 0, none⟩) cn cp) cn (ys.map Value.string)] wq)) (fun _ i _ => (dy - intOf i).toNat)
      case atStart => exact ⟨0, 0, ⟨#[]⟩, k', rfl, rfl, Lib.hid rfl, by omega, by omega, rfl, rfl, HO⟩
      case round =>
        obtain ⟨j, jv, o, k2, rfl, rfl, HJ, hj0, hjd, hosz, hk2e, HQ⟩ := hrel
        have hj6 : j ≤ 6 := by have := HJ.out; omega
        have HOS := Lib.hid hosz
        have ho6 : o.size ≤ 6 := by omega
        clear hosz
        by_cases hlt : jv < dy
        · go_wp2_with fail
          have Q1 := Lib.hid (HQ.out.alloc (.cells #[.string ⟨#[114]⟩, .string ⟨#[100]⟩, .string ⟨#[110]⟩] 9))
          refine (pick_any B R a len cap k2 3 _ Q1.out.rd (by omega) (by omega) (by omega)).mono ?_
          rintro e w3 ⟨v3, rfl, hv30, hv31, hR4, hK3⟩
          obtain ⟨jj, s3, rfl, hj3, hs3, hcell⟩ := three_cells _ _ _ _ _ _ R HQ.out.rd.hR hK3 v3 hv30 (hv31 (by omega))
          have hs3' : s3.size = 1 := by rcases hs3 with rfl | rfl | rfl <;> rfl
          have Q2 := Lib.hid (Q1.out.picked hR4 hK3)
          have HS3 := Lib.hid hs3'
          have hs31 : s3.size ≤ 1 := by omega
          clear hv31 hs3 hR4 hK3 hs3'
          go_wp2_with fail
          go_roundw
          case rel => exact ⟨j + 1, jv + 1, o ++ s3, k2 + 1, rfl, rfl, Lib.hid (by have := HJ.out; omega), by omega, by omega, by rw [ByteArray.size_append]; have := HS3.out; have := HOS.out; omega, by omega, Q2⟩
          case measure => simp [intOf]; omega
        · have ho7 : o.size ≤ 6 := by omega
          obtain ⟨i0, hi0, hz0, hz1, hz2⟩ := HII.out
          have HI0 := Lib.hid hi0
          have HZ := Lib.hid (And.intro hz0 (And.intro hz1 hz2))
          clear hi0 hz0 hz1 hz2
          go_wp2_with (at_builtin; refine wpList_append_lies _ rfl _ _ 23 rfl 0 9 i0 (.string ⟨#[]⟩) 1 16 Try.underlying23 HI0.out HZ.out.1 HZ.out.2.1 HZ.out.2.2 rfl (by decide) (.slice (some ⟨g, 0, none⟩) cn cp) cn (ys.map Value.string) rfl ((HQ.out.alloc _).row 0 (by simp) rfl) ⟨wr.heap.size, 0, none⟩ 1 1 [.string o] rfl rfl (World.news_of_block (heap_alloc_new wr _)) (by simp [Value.oneCell']) (by omega) (by unfold maxLen; omega) (by omega) (Nat.zero_le _) _ rfl ?_; intro g3 c3 w3 hown hgrow hat hlt; have O3 := Lib.hid ((HQ.out.alloc (.cells #[.string o] 9)).turn (i := 0) (by simp) rfl hgrow hown hat); have hcb := Lib.hid (owns_capR hown); clear hown hgrow hat hlt)
          go_roundw
          case rel =>
            refine ⟨m - 1, ys ++ [o], g3, cn + 1, c3, k2, by go_num, rfl, hcb.out.1, hcb.out.2, by omega, Lib.hid (by omega), Lib.hid (by rw [List.length_append, HY.out]; rfl), Lib.hid (HSM.out.snoc (by have := HY.out; omega) ho7), by omega, by omega, Lib.hid ?_⟩
            have := O3.out
            simpa using this
          case measure => simp [intOf]; omega
    · have hm0' : m = 0 := by omega
      subst hm0'
      have hcn1 : 0 < cn := by have := HMN.out; omega
      go_wp2_with fail
      refine (odd_any B R a len cap k' n _ HO.out.rd (by omega) hn (by omega)).mono ?_
      rintro e w3 ⟨b, rfl, hR2, hK2⟩
      have O3 := Lib.hid (HO.out.picked hR2 hK2)
      clear hR2 hK2 HO
      cases b with
      | false =>
        go_wp2
        go_ret
        refine ⟨ys, _, rfl, HSM.out.more (by omega), ?_, k' + 1, by omega, by omega, O3.out.rd, O3.out.keep⟩
        rw [HY.out]
        exact ownsRow_base (O3.out.row 0 (by simp) rfl) (fun j e => ((O3.out.ap.ltAt 0 (by simp)) j e).1)
      | true =>
        go_wp2_with fail
        refine (pick_any B R a len cap (k' + 1) 3 _ O3.out.rd (by omega) (by omega) (by omega)).mono ?_
        rintro e w4 ⟨v7, rfl, h70, h71, hR7, hK7⟩
        have h71' := h71 (by omega)
        have O4 := Lib.hid (O3.out.picked hR7 hK7)
        clear h71 hR7 hK7 O3
        have hv : v7 = 0 ∨ v7 = 1 ∨ v7 = 2 := by omega
        rcases hv with rfl | rfl | rfl
        · have O5 := Lib.hid (O4.out.alloc (.cells #[] 9))
          go_wp2
          go_ret
          exact ⟨[], _, rfl, ⟨Nat.zero_le _, fun x h => by cases h⟩, World.ownsRow_lit w4 #[] 0 O4.out.size (Nat.zero_le _) rfl, k' + 2, by omega, by omega, O5.out.rd, O5.out.keep⟩
        · obtain ⟨i0, hi0, hz0, hz1, hz2⟩ := HII.out
          have HI0 := Lib.hid hi0
          have HZ := Lib.hid (And.intro hz0 (And.intro hz1 hz2))
          clear hi0 hz0 hz1 hz2
          go_wp2_with (at_builtin; refine wpList_append_lies _ rfl _ _ 23 rfl 0 9 i0 (.string ⟨#[]⟩) 1 16 Try.underlying23 HI0.out HZ.out.1 HZ.out.2.1 HZ.out.2.2 rfl (by decide) (.slice (some ⟨g, 0, none⟩) cn cp) cn (ys.map Value.string) rfl ((O4.out.alloc _).row 0 (by simp) rfl) ⟨w4.heap.size, 0, none⟩ 1 1 [.string ⟨#[114, 100, 110, 114, 100, 110, 114, 100, 110]⟩] rfl rfl (World.news_of_block (heap_alloc_new w4 _)) (by simp [Value.oneCell']) (by omega) (by unfold maxLen; omega) (by omega) (Nat.zero_le _) _ rfl ?_; intro g3 c3 w5 hown hgrow hat hlt; have O5 := Lib.hid ((O4.out.alloc (.cells #[.string ⟨#[114, 100, 110, 114, 100, 110, 114, 100, 110]⟩] 9)).turn (i := 0) (by simp) rfl hgrow hown hat); clear hown hgrow hat hlt)
          go_ret
          have hrow := ownsRow_base (B := w.heap.size) (O5.out.row 0 (by simp) rfl) (fun j e => ((O5.out.ap.ltAt 0 (by simp)) j e).1)
          refine ⟨ys ++ [⟨#[114, 100, 110, 114, 100, 110, 114, 100, 110]⟩], _, rfl, (HSM.out.more (by omega : 6 ≤ 10)).snoc (by have := HY.out; omega) (by decide), ?_, k' + 2, by omega, by omega, O5.out.rd, O5.out.keep⟩
          have e1 : (ys ++ [(⟨#[114, 100, 110, 114, 100, 110, 114, 100, 110]⟩ : ByteArray)]).length = cn + 1 := by rw [List.length_append, HY.out]; rfl
          rw [e1]
          simpa using hrow
        · have hr4 := O4.out.row 0 (by simp) rfl
          have hy0 : 0 < ys.length := by have := HY.out; omega
          have hc4 : w4.cell? ⟨g, 0, none⟩ = some (.string ys[0]) := by rw [hr4.cellAt 0 (by omega)]; simp [hy0]
          have hf4 := hr4.frozenAt 0
          have hs0 : ys[0].size ≤ 6 := HSM.out.2 _ (List.getElem_mem hy0)
          have O5 := Lib.hid (O4.out.store (i := 0) (by simp) rfl 0 (.string (⟨#[120]⟩ ++ ys[0])))
          have HSS : Hid (SmallR (ys.set 0 (⟨#[120]⟩ ++ ys[0]))) := Lib.hid ((HSM.out.more (by omega : 6 ≤ 10)).set (by rw [ByteArray.size_append]; have : (⟨#[120]⟩ : ByteArray).size = 1 := rfl; omega) 0)
          have hz1 : (⟨#[120]⟩ : ByteArray).size ≤ 1 := Nat.le_refl 1
          clear hr4
          generalize ys[0] = s0 at *
          go_wp2
          go_ret
          have hrow := ownsRow_base (B := w.heap.size) (O5.out.row 0 (by simp) rfl) (fun j e => ((O5.out.ap.ltAt 0 (by simp)) j e).1)
          refine ⟨ys.set 0 (⟨#[120]⟩ ++ s0), _, rfl, HSS.out, ?_, k' + 2, by omega, by omega, O5.out.rd, O5.out.keep⟩
          rw [List.length_set, HY.out, List.map_set]
          exact hrow
end Go.Proofs.Ytlbblfbiiceofaa

namespace Go.Proofs.Ytlbblfbiiceofaa
open Go.RowKit

theorem drawnR_form {w : World} {base : Nat} {v : Value} {xs : List ByteArray} (h : w.ownsRow base 9 1 v xs.length (xs.map Value.string)) : ∃ a c, v = .slice a xs.length c ∧ xs.length ≤ c ∧ c ≤ 9223372036854775807 ∧ IsStrs w (.slice a xs.length c) xs := by
  have hI := IsStrs.of_owns h
  obtain ⟨a, c, rfl, h1, h2⟩ := hI.form
  exact ⟨a, c, rfl, h1, h2, hI⟩
/-- a drawn roster -/
def RostGot (w : World) (e : Ending) (w' : World) : Prop := ∃ (xs : List ByteArray) (v : Value), e = .returned v ∧ SmallR xs ∧ w'.ownsRow w.heap.size 9 1 v xs.length (xs.map Value.string) ∧ Below w.heap.size w w'

/-- a drawn roster and a day -/
def DayGotR (w : World) (e : Ending) (w' : World) : Prop := ∃ (xs : List ByteArray) (v : Value) (d : Int), e = .returned (.tuple #[v, .int .i64 d]) ∧ SmallR xs ∧ -1 ≤ d ∧ d ≤ 7 ∧ w'.ownsRow w.heap.size 9 1 v xs.length (xs.map Value.string) ∧ Below w.heap.size w w'

/-- a drawn roster and two places -/
def ExGot (w : World) (e : Ending) (w' : World) : Prop := ∃ (xs : List ByteArray) (v : Value) (f t : Int), e = .returned (.tuple #[v, .int .i64 f, .int .i64 t]) ∧ SmallR xs ∧ -1 ≤ f ∧ f ≤ 7 ∧ -1 ≤ t ∧ t ≤ 7 ∧ w'.ownsRow w.heap.size 9 1 v xs.length (xs.map Value.string) ∧ Below w.heap.size w w'

/-- drawn needs -/
def NeedsGot (w : World) (e : Ending) (w' : World) : Prop := ∃ l d : Int, e = .returned (.agg #[.int .i64 l, .int .i64 d]) ∧ -2 ≤ l ∧ l ≤ 6 ∧ -2 ≤ d ∧ d ≤ 6 ∧ Below w.heap.size w w'

theorem IsRow.belowN {k : IntKind} {w w' : World} {a : Option Addr} {len cap : Nat} {zs : List Int} (h : IsRow k w a len cap zs) (hb : Below w.heap.size w w') : IsRow k w' a len cap zs := by
  rcases h with h | ⟨x, h1, h2, h3, h4, h5, h6⟩
  · exact .inl h
  · exact .inr ⟨x, h1, h2, h3, h4, fun i hi => (hb.cell (World.block_lt_of_cell? w _ (h5 i hi))).trans (h5 i hi), h6⟩

end Go.Proofs.Ytlbblfbiiceofaa
