/- The program's NotMachine. No condition. -/
import Derived.Test.YthknpbefdejbkaaFwNot
import Derived.Test.YthknpbefdejbkaaPairClos
import Derived.Test.YthknpbefdejbkaaPairBase
namespace Go.Proofs.Ythknpbefdejbkaa
open Go.RowKit

theorem notOn_any (m : M) (nv ev : Value) (B : Nat) (W : World) (hM : MachBox B m.st nv m.next ev m.ends W) (hg : m.good) (s : Int) (hs : inN m s) (l : Nat) (hl : l < 3) :
    Calls Try.prog 51 #[.int .i64 s, .int .i64 (l : Int), .pointer (some ⟨B, 0, none⟩)] W
      fun e W' => ∃ v b, e = .returned (.tuple #[.int .i64 v, .bool b]) ∧ nOn m s l = (if b = true then some v else none) ∧ Below W.heap.size W W' := by
  have y0 := hM.c0
  have y1 := hM.c1
  have y2 := hM.c2
  have HI := Lib.hid hM.ints
  have HG := Lib.hid hg
  have HS := Lib.hid hs
  clear hM hg hs
  go_enter Try.func51, Try.ntmps51
  go_wp2_with fail
  refine (implNextOfG_any m s (l : Int) nv ev _ HI.out HG.out HS.out.1 HS.out.2 (by omega) (by omega)).mono ?_
  rintro e w2 ⟨rfl, hb⟩
  have HB := Lib.hid hb
  clear hb y0 y1 y2
  go_wp2
  go_ret2
  exact ⟨_, true, rfl, rfl, HB.out⟩
theorem notEnds_any (m : M) (nv ev : Value) (B : Nat) (W : World) (hM : MachBox B m.st nv m.next ev m.ends W) (hg : m.good) (s : Int) (hs : inN m s) :
    Calls Try.prog 53 #[.int .i64 s, .pointer (some ⟨B, 0, none⟩)] W fun e W' => e = .returned (.bool (!m.endAt s)) ∧ Below W.heap.size W W' := by
  have y0 := hM.c0
  have y1 := hM.c1
  have y2 := hM.c2
  have HI := Lib.hid hM.bools
  have HG := Lib.hid hg
  have HS := Lib.hid hs
  clear hM hg hs
  go_enter Try.func53, Try.ntmps53
  go_wp2_with fail
  refine (implEndOk_any m s nv ev _ HI.out HG.out HS.out.1 HS.out.2).mono ?_
  rintro e w2 ⟨rfl, hb⟩
  have HB := Lib.hid hb
  clear hb y0 y1 y2
  cases he : m.endAt s <;> (go_wp2; go_ret; exact ⟨by rw [he]; rfl, HB.out⟩)

set_option maxHeartbeats 1600000 in
theorem implNot_any (m : M) (nv ev : Value) (w : World) (h1 : IsInts w nv m.next) (h2 : IsBools w ev m.ends) (hst : (Lit.int .i64 m.st).wf = true) :
    Calls Try.prog 15 #[.agg #[.int .i64 m.st, nv, ev]] w (JoinNew m.ok (fun u => !m.lang 0 u) w) := by
  have hM : MachBox w.heap.size m.st nv m.next ev m.ends (w.alloc (.cells #[.int .i64 m.st, nv, ev] 27)) := MachBox.new _ h1 h2
  have hb2 := (Below.refl _ (w.alloc (.cells #[.int .i64 m.st, nv, ev] 27))).alloc (Nat.le_refl _) (.cells #[.int .i64 0, .slice none 0 0, .slice none 0 0] 27)
  have M2 := Lib.hid (hM.below hb2)
  have q2 := Lib.hid (((Below.refl w.heap.size w).alloc (Nat.le_refl _) (.cells #[.int .i64 m.st, nv, ev] 27)).trans (hb2.mono (by simp)))
  have hz := Z0.new (w.alloc (.cells #[.int .i64 m.st, nv, ev] 27))
  rw [World.size_alloc] at hz
  have Z2 := Lib.hid hz
  have y0 := M2.out.c0
  have y1 := M2.out.c1
  have y2 := M2.out.c2
  clear hz hM hb2 h1 h2
  go_enter Try.func15, Try.ntmps15
  go_wp2_with fail
  refine (implMachineOk_any m nv ev _ M2.out.ints M2.out.bools hst).mono ?_
  rintro e w3 ⟨rfl, hb3⟩
  have M3 := Lib.hid (M2.out.below hb3)
  have q3 := Lib.hid (q2.out.trans (hb3.mono q2.out.size))
  have Z3 := Lib.hid (Z2.out.below hb3)
  clear hb3 y0 y1 y2 M2 q2 Z2
  cases hk : m.ok with
  | false =>
    have HJ : Hid (IsJoin m.ok (fun u => !m.lang 0 u) ⟨0, [], []⟩ false) := Lib.hid (.inr ⟨rfl, rfl, fun h => by rw [hk] at h; cases h⟩)
    have z0 := Z3.out.c0
    have z1 := Z3.out.c1
    have z2 := Z3.out.c2
    have f0 := Z3.out.f0
    have f1 := Z3.out.f1
    have f2 := Z3.out.f2
    have FI := Lib.hid (fin_cells (x := .int .i64 0) (y := .slice none 0 0) (z := .slice none 0 0) (apart_nils w3.heap.size w3) q3.out (Nat.le_succ _) Z3.out.lt (some3 z0 z1 z2) q3.out.size)
    rw [← hk]
    go_wp2
    obtain ⟨r1, r2, r3, r4, r5⟩ := FI.out _ rfl
    refine bodyPost_ret (v := .tuple #[.agg #[.int .i64 0, .slice none 0 0, .slice none 0 0], .bool false]) ?_ rfl ⟨⟨0, [], []⟩, false, none, none, 0, 0, HJ.out, rfl, r1, r2⟩
    simp [results, Try.results15, go_sem, r3, r4, r5]
  | true =>
    have HG := M.ok_good hk
    have s1 := M.ok_shape hk
    obtain ⟨N, hN49, hN⟩ := not_n HG s1.2.1
    obtain ⟨Mx, hMx⟩ : ∃ Mx, Mx = bM (nOn m) 0 N (fun x => !m.endAt x) := ⟨_, rfl⟩
    have HF : Calls Try.prog 50 #[.int .i64 0, .func (.func 51) #[] #[.pointer (some ⟨w.heap.size, 0, none⟩)], .func (.func 53) #[] #[.pointer (some ⟨w.heap.size, 0, none⟩)]] w3 (MachNew Mx w3) := by
      have h := machineFromNot_any (nOn m) (fun x => !m.endAt x) 0 N (inN m) (.pointer (some ⟨w.heap.size, 0, none⟩)) w3 hN (by omega) (inN_zero HG)
        (fun x hx l b hl h => nOn_in HG x hx l b hl h)
        (fun x hx => WalkArith.wf_i64 (by have := hx.1; have := hx.2; omega))
        (fun W hW x hx l hl => notOn_any m nv ev _ W (M3.out.below hW) HG x hx l hl)
        (fun W hW x hx => notEnds_any m nv ev _ W (M3.out.below hW) HG x hx)
      rw [hMx]
      exact h
    have HMG := Lib.hid (show Mx.good by rw [hMx]; exact bM_good hN (by omega))
    have HML := Lib.hid (show Mx.lang 0 = fun u => !m.lang 0 u by rw [hMx]; exact not_lang HG hN)
    have HFH := Lib.hid HF
    have HKK := Lib.hid hk
    clear HG s1 hN49 hN hMx HF hk
    go_wp2_with fail
    refine HFH.out.mono ?_
    rintro e w5 ⟨a1, a2, c1, c2, rfl, hA5, hb5⟩
    have Z5 := Lib.hid (Z3.out.below hb5)
    have Q5 := Lib.hid (q3.out.trans (hb5.mono q3.out.size))
    have HI := Lib.hid (And.intro (IsInts.of_owns hA5.head) (IsBools.of_owns hA5.tail.head))
    clear hA5 hb5
    go_wp2_with fail
    refine (implLeastOf_any Mx _ _ w5 HI.out.1 HI.out.2 HMG.out).mono ?_
    intro e w6 hL
    obtain ⟨K, r, d1, d2, e1, e2, hJ, rfl, hA6, hb6⟩ := hL.join HMG.out
    rw [HML.out] at hJ
    have HJ : Hid (IsJoin m.ok (fun u => !m.lang 0 u) K r) := Lib.hid (by rw [HKK.out]; exact hJ)
    have Z6 := Lib.hid (Z5.out.below hb6)
    have Q6 := Lib.hid (Q5.out.trans (hb6.mono Q5.out.size))
    have z0 := Z6.out.c0
    have z1 := Z6.out.c1
    have z2 := Z6.out.c2
    have f0 := Z6.out.f0
    have f1 := Z6.out.f1
    have f2 := Z6.out.f2
    have FI := Lib.hid (fin_cells (x := .int .i64 K.st) (y := .slice d1 K.next.length e1) (z := .slice d2 K.ends.length e2) hA6 Q6.out (Nat.le_succ _) Z5.out.lt (some3 z0 z1 z2) Q5.out.size)
    clear hL hJ hA6 hb6
    go_wp2
    obtain ⟨r1, r2, r3, r4, r5⟩ := FI.out _ rfl
    refine bodyPost_ret (v := .tuple #[.agg #[.int .i64 K.st, .slice d1 K.next.length e1, .slice d2 K.ends.length e2], .bool r]) ?_ rfl ⟨K, r, d1, d2, e1, e2, HJ.out, rfl, r1, r2⟩
    simp [results, Try.results15, go_sem, r3, r4, r5]
end Go.Proofs.Ythknpbefdejbkaa
