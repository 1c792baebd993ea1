/- Rows that a drawing call owns, by their places in a list, beside the code that is read. No condition. -/
import Derived.Test.YtggohgkjdnnndaaOpen
import Derived.Test.YtggohgkjdnnndaaQueue
namespace Go.Proofs.Ytggohgkjdnnndaa
open Go.RowKit

theorem KeepsBut.grownBy {R : Nat} {w w' : World} (h : KeepsBut R w w') : w.grownBy w' (some R) := ⟨h.os, h.tape, h.output, h.size, fun k hk hne => h.block k hk (fun e => hne (by rw [e]))⟩
theorem KeepsBut.grown {R : Nat} {a w w' : World} {row : Option Nat} (h : KeepsBut R a w) (hg : w.grownBy w' row) (hr : ∀ k, row = some k → a.heap.size ≤ k) : KeepsBut R a w' :=
  ⟨hg.os.trans h.os, hg.tape.trans h.tape, hg.output.trans h.output, Nat.le_trans h.size hg.size, fun k hk hR =>
    (hg.block k (Nat.lt_of_lt_of_le hk h.size) (fun e => by have := hr k e.symm; omega)).trans (h.block k hk hR)⟩
theorem RdAt.keepsR {B R : Nat} {a : Option Addr} {len cap k : Nat} {w w' : World} (h : RdAt B R a len cap k w) (hw : Below (R + 1) w w') : RdAt B R a len cap k w' :=
  ⟨h.hB, Nat.lt_of_lt_of_le h.hR hw.size, (hw.cell (p := ⟨R, 0, none⟩) (Nat.lt_succ_self R)).trans h.c0, (hw.cell (p := ⟨R, 1, none⟩) (Nat.lt_succ_self R)).trans h.c1, (hw.frozen (p := ⟨R, 1, none⟩) (Nat.lt_succ_self R)).trans h.f1, h.hlen,
    h.row.imp id (fun ⟨b, off, z, ha, hb, hz⟩ => ⟨b, off, z, ha, hb, fun i hi => ⟨(hz i hi).1, (hw.cell (p := ⟨b, off + i, none⟩) (by have h1 := h.hB; show b < _; omega)).trans (hz i hi).2⟩⟩)⟩
theorem RdAt.grown {B R : Nat} {a : Option Addr} {len cap k : Nat} {w w' : World} {row : Option Nat} (h : RdAt B R a len cap k w) (hg : w.grownBy w' row) (hr : ∀ k, row = some k → R < k) : RdAt B R a len cap k w' :=
  h.keepsR ((Below.refl _ _).grown hg h.hR (fun k e => hr k e))
structure OwR (B R : Nat) (a : Option Addr) (len cap : Nat) (w0 : World) (k : Nat) (ts : List Thing) (w : World) : Prop where
  rd : RdAt B R a len cap k w
  hR : R < w0.heap.size
  keep : KeepsBut R w0 w
  ap : Apart w0.heap.size ts w
section
variable {B R : Nat} {a : Option Addr} {len cap : Nat} {w0 : World} {k : Nat} {ts : List Thing} {w w' : World}
theorem OwR.start (h : RdAt B R a len cap k w) : OwR B R a len cap w k [] w := ⟨h, h.hR, KeepsBut.refl _ _, Apart.nil _ _⟩
theorem OwR.size (h : OwR B R a len cap w0 k ts w) : w0.heap.size ≤ w.heap.size := h.keep.size
theorem OwR.same (h : OwR B R a len cap w0 k ts w) (hg : w.grownBy w' none) : OwR B R a len cap w0 k ts w' := ⟨h.rd.grown hg (fun _ e => by cases e), h.hR, h.keep.grown hg (fun _ e => by cases e), h.ap.same hg⟩
theorem OwR.alloc (h : OwR B R a len cap w0 k ts w) (o : Obj) : OwR B R a len cap w0 k ts (w.alloc o) := h.same (World.grownBy_alloc w o none)
theorem OwR.drew (h : OwR B R a len cap w0 k ts w) : OwR B R a len cap w0 k ts w.drew := h.same (grown_drew w none)
theorem OwR.picked {k' : Nat} (h : OwR B R a len cap w0 k ts w) (hr : RdAt B R a len cap k' w') (hk : KeepsBut R w w') : OwR B R a len cap w0 k' ts w' :=
  ⟨hr, h.hR, h.keep.trans hk, h.ap.other hk.grownBy (fun k e => by cases e; exact h.hR)⟩
theorem OwR.sub (h : OwR B R a len cap w0 k ts w) {us : List Thing} (s : us.Sublist ts) : OwR B R a len cap w0 k us w := ⟨h.rd, h.hR, h.keep, h.ap.sub s⟩
theorem OwR.perm (h : OwR B R a len cap w0 k ts w) {us : List Thing} (s : ts.Perm us) : OwR B R a len cap w0 k us w := ⟨h.rd, h.hR, h.keep, h.ap.perm s⟩
theorem OwR.row (h : OwR B R a len cap w0 k ts w) (i : Nat) (hi : i < ts.length) {e : TypeId} {sz : Nat} {v : Value} {n : Nat} {xs : List Value} (he : ts[i] = rowT e sz v n xs) : w.ownsRow 0 e sz v n xs := by
  have := h.ap.at i hi
  rw [he] at this; exact this
theorem OwR.lit (h : OwR B R a len cap w0 k ts w) (cs : Array Value) (e : TypeId) (n sz : Nat) (hs : cs.size = n * sz) (hm : n ≤ maxLen) : OwR B R a len cap w0 k (rowT e sz (.slice (some ⟨w.heap.size, 0, none⟩) n n) n cs.toList :: ts) (w.alloc (.cells cs e)) :=
  have h1 := h.alloc (.cells cs e)
  ⟨h1.rd, h1.hR, h1.keep, h.ap.more (World.grownBy_alloc w _ none) _ (World.ownsRow_lit (base := 0) w cs n (Nat.zero_le _) hm hs) h.size (fun j e => by cases e; simp)⟩
theorem OwR.turn {i g cp n n' sz : Nat} {e : TypeId} {v : Value} {xs xs' : List Value} {w1 : World} (h : OwR B R a len cap w0 k ts w) (hi : i < ts.length) (he : ts[i] = rowT e sz v n xs) (hg : w.grownBy w1 v.ownBlock)
    (ho : w1.ownsRow 0 e sz (.slice (some ⟨g, 0, none⟩) n' cp) n' xs') (hat : v.ownBlock = some g ∨ g = w.heap.size) :
    OwR B R a len cap w0 k (ts.set i (rowT e sz (.slice (some ⟨g, 0, none⟩) n' cp) n' xs')) w1 := by
  have hlt := h.ap.ltAt i hi
  rw [he] at hlt
  have hR := h.hR
  exact ⟨h.rd.grown hg (fun j e => by have := (hlt j e).1; omega), h.hR, h.keep.grown hg (fun j e => (hlt j e).1), h.ap.turnAt i hi (by rw [he]; exact hg) _ ho h.size
    (fun j e => ⟨by rw [he]; cases e; exact hat.imp id (fun e => Nat.le_of_eq e.symm), (World.ownsRow.lt ho j e).2⟩)⟩
theorem OwR.store {i g c n sz : Nat} {e : TypeId} {xs : List Value} (h : OwR B R a len cap w0 k ts w) (hi : i < ts.length) (he : ts[i] = rowT e sz (.slice (some ⟨g, 0, none⟩) n c) n xs) (j : Nat) (u : Value) :
    OwR B R a len cap w0 k (ts.set i (rowT e sz (.slice (some ⟨g, 0, none⟩) n c) n (xs.set j u))) (w.setCell ⟨g, j, none⟩ u) := by
  have hlt := (h.ap.ltAt i hi) g (by rw [he]; rfl)
  have ho := (World.ownsRow.stored (h.row i hi he) j u).1
  exact h.turn hi he (grown_setCell w g j u) ho (.inl rfl)
end
end Go.Proofs.Ytggohgkjdnnndaa
