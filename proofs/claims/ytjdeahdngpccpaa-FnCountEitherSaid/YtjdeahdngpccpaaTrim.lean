/- impl.trimmedOf: its two functions and its walk. No condition. -/
import Derived.Test.YtjdeahdngpccpaaImplLive
import Derived.Test.YtjdeahdngpccpaaFromWalk
import Derived.Deep.QuietTactic
import Derived.BigQuiet
namespace Go.Proofs.Ytjdeahdngpccpaa
open Go.RowKit

theorem implNextOfG_any (m : M) (s l : Int) (nv ev : Value) (w : World) (h1 : IsInts w nv m.next) (hg : m.good) (s0 : -1 ≤ s) (s1 : s < m.st) (l0 : 0 ≤ l) (l1 : l ≤ 2) :
    Calls Try.prog 78 #[.agg #[.int .i64 m.st, nv, ev], .int .i64 s, .int .i64 l] w fun e w' => e = .returned (.int .i64 (m.nx s l)) ∧ Below w.heap.size w w' := by
  have hsh := M.good_shape hg
  by_cases hs : s = -1
  · subst hs
    have HN := Lib.hid (M.nx_neg m (-1) l (by omega))
    clear hsh hg
    go_enter Try.func78, Try.ntmps78
    go_wp2
    go_ret
    exact ⟨ret_int HN.out.symm, (Below.refl _ _).alloc (Nat.le_refl _) _⟩
  · obtain ⟨k, hk1, hk2, he⟩ := M.gnx_at hg s l (by omega) s1 l0 l1
    obtain ⟨a, cap, rfl, ha1, ha2, ha⟩ := h1
    obtain ⟨g, off, rfl, hgg, hc⟩ := ha.resolve_left (fun h => by rw [h] at hk2; exact absurd hk2 (Nat.not_lt_zero k))
    have hcell := hc k hk2
    have HE := Lib.hid he
    rw [he]
    have hkl : k < m.next.length := hk2
    generalize m.next[k] = c at hcell HE
    clear he hg hc ha hk2
    generalize m.next.length = n at *
    generalize m.st = st at *
    unfold maxLen at ha2
    have hq1 : IntKind.i64.wrap (s * 3) = s * 3 := IntWalk.i64_in _ (by omega)
    have hq2 : IntKind.i64.wrap (s * 3 + l) = s * 3 + l := IntWalk.i64_in _ (by omega)
    have hq3 : s * 3 + l = k := by omega
    have hs0 : 0 ≤ s := by omega
    clear hk1
    have hb1 : (s == -1) = false := by simpa using hs
    go_enter Try.func78, Try.ntmps78
    go_wp2
    go_ret
    exact ⟨rfl, (Below.refl _ _).alloc (Nat.le_refl _) _⟩

set_option maxHeartbeats 800000 in
theorem trimOn1_any (m : M) (X : List Bool) (nv ev lv : Value) (B L : Nat) (W : World) (hM : MachBox B m.st nv m.next ev m.ends W) (hL : W.cell? ⟨L, 0, none⟩ = some lv) (hX : IsBools W lv X) (hg : m.good) (hXl : X.length = m.ends.length) (hLs : L < W.heap.size)
    (s : Int) (hs : inM m s) (l : Nat) (hl : l < 3) :
    Calls Try.prog 124 #[.int .i64 s, .int .i64 (l : Int), .pointer (some ⟨B, 0, none⟩), .pointer (some ⟨L, 0, none⟩)] W
      fun e W' => ∃ v b, e = .returned (.tuple #[.int .i64 v, .bool b]) ∧ trimOn m X s l = (if b = true then some v else none) ∧ Below W.heap.size W W' := by
  have y0 := hM.c0
  have y1 := hM.c1
  have y2 := hM.c2
  have HI := Lib.hid hM.ints
  have hsh := Lib.hid (M.good_shape hg)
  have hbd := M.gnx_bd hg s (l : Int) hs.2 (by omega) (by omega)
  have HG := Lib.hid hg
  have HXL := Lib.hid hXl
  have HX := Lib.hid hX
  clear hM hg hXl hX
  go_enter Try.func124, Try.ntmps124
  go_wp2_with fail
  refine (implNextOfG_any m s (l : Int) nv ev _ HI.out HG.out (by have := hs.1; omega) hs.2 (by omega) (by omega)).mono ?_
  rintro e w2 ⟨rfl, hb⟩
  have hL2 := (hb.cell (p := ⟨L, 0, none⟩) hLs).trans hL
  have HX2 := HX.out.below hb
  obtain ⟨ax, nx, cx, rfl⟩ := HX2.slice
  obtain ⟨gx, ox, rfl, rfl, hgx, hcx⟩ := bools_cells3 HX2 (by have := HXL.out; have := hsh.out; omega)
  have HB := Lib.hid hb
  have HT : Hid (trimOn m X s l = if 0 ≤ m.nx s (l : Int) ∧ X.getD (m.nx s (l : Int)).toNat false = true then some (m.nx s (l : Int)) else none) := Lib.hid rfl
  have hxlen : (m.ends.length : Int) = m.st := hsh.out.2.2.2
  clear y0 y1 y2 hb HX HX2
  generalize m.nx s (l : Int) = t at *
  by_cases ht : t = -1
  · subst ht
    go_wp2
    go_quiet (fail)
    go_wp2
    go_ret2
    exact ⟨-1, false, rfl, by rw [HT.out, if_neg (by omega)]; rfl, below_drewN HB.out _⟩
  · obtain ⟨k, rfl⟩ : ∃ k : Nat, t = (k : Int) := ⟨t.toNat, by omega⟩
    have hkX : k < X.length := by have := HXL.out; omega
    have hcell := hcx k hkX
    have hne : ((k : Int) != -1) = true := by simp
    have HT2 : Hid (trimOn m X s l = if X[k] = true then some (k : Int) else none) := by
      have : trimOn m X s l = if X[k] = true then some (k : Int) else none := by
        rw [HT.out, Int.toNat_natCast, List.getD_eq_getElem?_getD, List.getElem?_eq_getElem hkX]
        simp
      exact Lib.hid this
    clear hcx HT hbd
    generalize X[k] = xb at hcell HT2
    clear hxlen ht
    go_wp2
    go_quiet (fail)
    go_wp2
    go_ret2
    exact ⟨(k : Int), xb, rfl, HT2.out, below_drewN HB.out _⟩

theorem trimOn2_any (m : M) (nv ev : Value) (B : Nat) (W : World) (hM : MachBox B m.st nv m.next ev m.ends W) (hg : m.good) (s : Int) (hs : inM m s) :
    Calls Try.prog 125 #[.int .i64 s, .pointer (some ⟨B, 0, none⟩)] W fun e W' => e = .returned (.bool (m.endAt s)) ∧ Below W.heap.size W W' := by
  have y2 := hM.c2
  obtain ⟨ae, ne, ce, rfl⟩ := hM.bools.slice
  obtain ⟨k, hk1, hk2, hk3⟩ := M.gendAt_at hg s hs.1 hs.2
  obtain ⟨ge, oe, rfl, rfl, hge, hce⟩ := bools_cells3 hM.bools (by omega)
  have hcell := hce k hk2
  have HE := Lib.hid hk3
  subst hk1
  have hkl : (k : Int) < m.ends.length := by omega
  clear hk3 hce hM hg hs
  generalize m.ends[k] = eb at *
  go_enter Try.func125, Try.ntmps125
  go_wp2
  go_ret
  exact ⟨ret_bool HE.out.symm, Below.refl _ _⟩
end Go.Proofs.Ytjdeahdngpccpaa
