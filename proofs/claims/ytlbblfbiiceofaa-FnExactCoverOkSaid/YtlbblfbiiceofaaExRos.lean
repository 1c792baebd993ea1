/- The walks of FnExactRosterOk, FnExactDayOf, FnExactCoverOk: true at every roster. Written by mkexros.py. No condition. -/
import Derived.Test.YtlbblfbiiceofaaRostCov
namespace Go.Proofs.Ytlbblfbiiceofaa
open Go.RowKit

theorem eqStringS_same (u v : Value) (xs : List ByteArray) (w : World) (hu : IsStrs w u xs) (hv : IsStrs w v xs) :
    Calls Try.prog 45 #[u, v] w fun e w' => e = .returned (.bool true) ∧ Below w.heap.size w w' :=
  (eqStringS_any u v xs xs w hu hv).mono fun _ _ ⟨h, g⟩ => ⟨by rw [h, decide_eq_true (rfl : xs = xs)], g⟩
theorem toNeeds_any (l d : Int) (w : World) : Calls Try.prog 46 #[.agg #[.int .i64 l, .int .i64 d]] w fun e w' => e = .returned (.agg #[.int .i64 l, .int .i64 d]) ∧ Below w.heap.size w w' := by
  go_enter Try.func46, Try.ntmps46
  go_wp2_with fail
  refine bodyPost_ret (v := .agg #[.int .i64 l, .int .i64 d]) ?_ rfl ⟨rfl, ?_⟩
  · simp [results, Try.results46, go_sem]
  · exact (((Below.refl _ _).alloc (Nat.le_refl _) _).alloc (by simp) _).alloc (by simp; omega) _

set_option maxHeartbeats 800000 in
theorem exactNeedsOk_walk {w : World} (l : Int) (hl : (Lit.int .i64 l).wf = true) (d : Int) (hd : (Lit.int .i64 d).wf = true) :
    Calls Try.prog 11 #[.agg #[.int .i64 l, .int .i64 d]] w fun e w' => e = .returned (.bool true) ∧ Below w.heap.size w w' := by
  have HSP := Lib.hid (fun W => specNeedsOk_any l d W)
  have HIM := Lib.hid (fun W => implNeedsOk_any l d W hl hd)
  generalize needsOk l d = r at HSP HIM
  have hne : (r != r) = false := by simp
  have X := Lib.hid (NdBox.new w l d 55)
  have Q := Lib.hid (show Below w.heap.size w (w.alloc (.cells #[.int .i64 l, .int .i64 d] 55)) from (Below.refl _ _).alloc (Nat.le_refl _) _)
  go_enter Try.func11, Try.ntmps11
  go_wp2_with fail
  refine (toNeeds_any l d _).mono ?_
  rintro e w1 ⟨rfl, hb⟩
  have X1 := Lib.hid (X.out.below hb)
  have B1 := Lib.hid (Q.out.trans (hb.mono Q.out.size))
  clear hb
  go_wp2_with fail
  refine (HSP.out _).mono ?_
  rintro e w2 ⟨rfl, hb⟩
  have X2 := Lib.hid (X1.out.below hb)
  have B2 := Lib.hid (B1.out.trans (hb.mono B1.out.size))
  clear hb
  have c0 := X2.out.c0
  have c1 := X2.out.c1
  go_wp2_with fail
  refine (toNeeds_any l d _).mono ?_
  rintro e w3 ⟨rfl, hb⟩
  have B3 := Lib.hid (B2.out.trans (hb.mono B2.out.size))
  clear hb c0 c1
  go_wp2_with fail
  refine (HIM.out _).mono ?_
  rintro e w4 ⟨rfl, hb⟩
  have B4 := Lib.hid (B3.out.trans (hb.mono B3.out.size))
  clear hb
  go_wp2_with fail
  go_ret
  exact ⟨rfl, B4.out⟩

set_option maxHeartbeats 1600000 in
theorem exactRosterOk_walk {w : World} (v : Value) (xs : List ByteArray) (h : IsStrs w v xs) (hwf : Short xs) :
    Calls Try.prog 10 #[v] w fun e w' => e = .returned (.bool true) ∧ Below w.heap.size w w' := by
  have H := Lib.hid h
  have HWF := Lib.hid hwf
  have HSP : Hid (∀ (W : World) (u : Value), IsStrs W u xs → Calls Try.prog 19 #[u] W fun e w' => e = .returned (.bool (rosterOk xs)) ∧ Below W.heap.size W w') := Lib.hid (fun W u h => specRosterOk_any u xs hwf W h)
  have HIM : Hid (∀ (W : World) (u : Value), IsStrs W u xs → Calls Try.prog 18 #[u] W fun e w' => e = .returned (.bool (rosterOk xs)) ∧ Below W.heap.size W w') := Lib.hid (fun W u h => implRosterOk_any u xs hwf W h)
  generalize rosterOk xs = r at HSP HIM
  have hne : (r != r) = false := by simp
  obtain ⟨a, cap, rfl, hcp, hmx⟩ := h.form
  clear h hwf
  go_enter Try.func10, Try.ntmps10
  go_wp2_with fail
  refine (szStringS_any xs HWF.out _ _ H.out 1048576 (by omega) (by omega)).mono ?_
  rintro e w0 ⟨⟨lf, rfl, hl1, hl2, hl3⟩, hb0⟩
  have B0 := Lib.hid hb0
  clear hb0
  by_cases hlf : lf < 0
  · go_wp2_with fail
    go_ret
    exact ⟨rfl, B0.out⟩
  have hlen : xs.length ≤ 1048576 := hl3 (by omega)
  go_wp2_with fail
  refine (toStringS_any _ xs _ (H.out.below B0.out) hlen).mono ?_
  rintro e w1 ⟨va, rfl, ho, hb⟩
  have B1 := Lib.hid (B0.out.trans (hb.mono B0.out.size))
  have Ia := Lib.hid (IsStrs.of_owns ho)
  have Fa := (IsStrs.of_owns ho).form
  clear hb ho
  obtain ⟨aa, ca, rfl, -, -⟩ := Fa
  go_wp2_with fail
  refine (HSP.out _ _ Ia.out).mono ?_
  rintro e w2 ⟨rfl, hb⟩
  have B2 := Lib.hid (B1.out.trans (hb.mono B1.out.size))
  clear hb
  go_wp2_with fail
  refine (toStringS_any _ xs _ (H.out.below B2.out) hlen).mono ?_
  rintro e w3 ⟨vb, rfl, ho, hb⟩
  have B3 := Lib.hid (B2.out.trans (hb.mono B2.out.size))
  have Ib := Lib.hid (IsStrs.of_owns ho)
  have Fb := (IsStrs.of_owns ho).form
  clear hb ho
  obtain ⟨ab, cb, rfl, -, -⟩ := Fb
  go_wp2_with fail
  refine (HIM.out _ _ Ib.out).mono ?_
  rintro e w4 ⟨rfl, hb⟩
  have B4 := Lib.hid (B3.out.trans (hb.mono B3.out.size))
  have Ib := Lib.hid (Ib.out.below hb)
  clear hb
  go_wp2_with fail
  refine (toStringS_any _ xs _ (H.out.below B4.out) hlen).mono ?_
  rintro e w5 ⟨vc, rfl, ho, hb⟩
  have B5 := Lib.hid (B4.out.trans (hb.mono B4.out.size))
  have Ic := Lib.hid (IsStrs.of_owns ho)
  have Fc := (IsStrs.of_owns ho).form
  have Ib := Lib.hid (Ib.out.below hb)
  clear hb ho
  obtain ⟨ac, cc, rfl, -, -⟩ := Fc
  go_wp2_with fail
  refine (eqStringS_same _ _ xs _ Ib.out Ic.out).mono ?_
  rintro e w6 ⟨rfl, hb⟩
  have B6 := Lib.hid (B5.out.trans (hb.mono B5.out.size))
  clear hb
  go_wp2_with fail
  go_ret
  exact ⟨rfl, B6.out⟩

set_option maxHeartbeats 1600000 in
theorem exactDayOf_walk {w : World} (v : Value) (xs : List ByteArray) (h : IsStrs w v xs) (hwf : Short xs) (d : Int) (_hd : (Lit.int .i64 d).wf = true) :
    Calls Try.prog 12 #[v, .int .i64 d] w fun e w' => e = .returned (.bool true) ∧ Below w.heap.size w w' := by
  have H := Lib.hid h
  have HWF := Lib.hid hwf
  have HSP : Hid (∀ (W : World) (u : Value), IsStrs W u xs → Calls Try.prog 26 #[u, .int .i64 d] W fun e w' => e = .returned (.string (dayOf xs d)) ∧ Below W.heap.size W w') := Lib.hid (fun W u h => specDayOf_any u xs hwf d W h)
  have HIM : Hid (∀ (W : World) (u : Value), IsStrs W u xs → Calls Try.prog 25 #[u, .int .i64 d] W fun e w' => e = .returned (.string (dayOf xs d)) ∧ Below W.heap.size W w') := Lib.hid (fun W u h => implDayOf_any u xs hwf d W h)
  generalize dayOf xs d = r at HSP HIM
  obtain ⟨a, cap, rfl, hcp, hmx⟩ := h.form
  clear h hwf
  go_enter Try.func12, Try.ntmps12
  go_wp2_with fail
  refine (szStringS_any xs HWF.out _ _ H.out 1048576 (by omega) (by omega)).mono ?_
  rintro e w0 ⟨⟨lf, rfl, hl1, hl2, hl3⟩, hb0⟩
  have B0 := Lib.hid hb0
  clear hb0
  by_cases hlf : lf < 0
  · go_wp2_with fail
    go_ret
    exact ⟨rfl, B0.out⟩
  have hlen : xs.length ≤ 1048576 := hl3 (by omega)
  go_wp2_with fail
  refine (toStringS_any _ xs _ (H.out.below B0.out) hlen).mono ?_
  rintro e w1 ⟨va, rfl, ho, hb⟩
  have B1 := Lib.hid (B0.out.trans (hb.mono B0.out.size))
  have Ia := Lib.hid (IsStrs.of_owns ho)
  have Fa := (IsStrs.of_owns ho).form
  clear hb ho
  obtain ⟨aa, ca, rfl, -, -⟩ := Fa
  go_wp2_with fail
  refine (HSP.out _ _ Ia.out).mono ?_
  rintro e w2 ⟨rfl, hb⟩
  have B2 := Lib.hid (B1.out.trans (hb.mono B1.out.size))
  clear hb
  go_wp2_with fail
  refine (toStringS_any _ xs _ (H.out.below B2.out) hlen).mono ?_
  rintro e w3 ⟨vb, rfl, ho, hb⟩
  have B3 := Lib.hid (B2.out.trans (hb.mono B2.out.size))
  have Ib := Lib.hid (IsStrs.of_owns ho)
  have Fb := (IsStrs.of_owns ho).form
  clear hb ho
  obtain ⟨ab, cb, rfl, -, -⟩ := Fb
  go_wp2_with fail
  refine (HIM.out _ _ Ib.out).mono ?_
  rintro e w4 ⟨rfl, hb⟩
  have B4 := Lib.hid (B3.out.trans (hb.mono B3.out.size))
  have Ib := Lib.hid (Ib.out.below hb)
  clear hb
  go_wp2_with fail
  refine (toStringS_any _ xs _ (H.out.below B4.out) hlen).mono ?_
  rintro e w5 ⟨vc, rfl, ho, hb⟩
  have B5 := Lib.hid (B4.out.trans (hb.mono B4.out.size))
  have Ic := Lib.hid (IsStrs.of_owns ho)
  have Fc := (IsStrs.of_owns ho).form
  have Ib := Lib.hid (Ib.out.below hb)
  clear hb ho
  obtain ⟨ac, cc, rfl, -, -⟩ := Fc
  go_wp2_with fail
  refine (eqStringS_same _ _ xs _ Ib.out Ic.out).mono ?_
  rintro e w6 ⟨rfl, hb⟩
  have B6 := Lib.hid (B5.out.trans (hb.mono B5.out.size))
  clear hb
  go_wp2_with fail
  go_ret
  exact ⟨rfl, B6.out⟩

set_option maxHeartbeats 1600000 in
theorem exactCoverOk_walk {w : World} (v : Value) (xs : List ByteArray) (h : IsStrs w v xs) (hwf : Short xs) (l : Int) (hl : (Lit.int .i64 l).wf = true) (d : Int) (hd : (Lit.int .i64 d).wf = true) :
    Calls Try.prog 13 #[v, .agg #[.int .i64 l, .int .i64 d]] w fun e w' => e = .returned (.bool true) ∧ Below w.heap.size w w' := by
  have H := Lib.hid h
  have HWF := Lib.hid hwf
  have HSP : Hid (∀ (W : World) (u : Value), IsStrs W u xs → Calls Try.prog 29 #[u, .agg #[.int .i64 l, .int .i64 d]] W fun e w' => e = .returned (.bool (coverOk xs l d)) ∧ Below W.heap.size W w') := Lib.hid (fun W u h => specCoverOk_any u xs hwf l d W h)
  have HIM : Hid (∀ (W : World) (u : Value), IsStrs W u xs → Calls Try.prog 28 #[u, .agg #[.int .i64 l, .int .i64 d]] W fun e w' => e = .returned (.bool (coverOk xs l d)) ∧ Below W.heap.size W w') := Lib.hid (fun W u h => implCoverOk_any u xs hwf l d hl hd W h)
  generalize coverOk xs l d = r at HSP HIM
  have hne : (r != r) = false := by simp
  obtain ⟨a, cap, rfl, hcp, hmx⟩ := h.form
  clear h hwf
  have X := Lib.hid (NdBox.new w l d 55)
  have Q := Lib.hid (show Below w.heap.size w (w.alloc (.cells #[.int .i64 l, .int .i64 d] 55)) from (Below.refl _ _).alloc (Nat.le_refl _) _)
  go_enter Try.func13, Try.ntmps13
  go_wp2_with fail
  refine (szStringS_any xs HWF.out _ _ (H.out.below Q.out) 1048576 (by omega) (by omega)).mono ?_
  rintro e w0 ⟨⟨lf, rfl, hl1, hl2, hl3⟩, hb0⟩
  have B0 := Lib.hid (Q.out.trans (hb0.mono Q.out.size))
  have X0 := Lib.hid (X.out.below hb0)
  clear hb0
  by_cases hlf : lf < 0
  · go_wp2_with fail
    go_ret
    exact ⟨rfl, B0.out⟩
  have hlen : xs.length ≤ 1048576 := hl3 (by omega)
  go_wp2_with fail
  have BD := Lib.hid ((Below.refl w0.heap.size w0).drew)
  have HCP := Lib.hid (fun W (hb : Below w0.heap.size w0 W) => show Calls Try.prog 44 #[.slice a xs.length cap] W fun e w' => ∃ v, e = .returned v ∧ w'.ownsRow W.heap.size 9 1 v xs.length (xs.map Value.string) ∧ Below W.heap.size W w' from toStringS_any (.slice a xs.length cap) xs W (H.out.below (B0.out.trans (hb.mono B0.out.size))) hlen)
  have c0 := X0.out.c0
  have c1 := X0.out.c1
  go_region_held3 (fun w' => w'.cell? ⟨w.heap.size, 0, none⟩ = some (.int .i64 l) ∧ w'.cell? ⟨w.heap.size, 1, none⟩ = some (.int .i64 d))
    (refine ⟨?_, ?_⟩ <;> go_simp)
    (first | (go_at_call 44; with_reducible refine Calls.mono (HCP.out _ BD.out) ?_; rintro e wa ⟨va, rfl, ho, hb⟩; have Ba := Lib.hid (BD.out.trans (hb.mono BD.out.size)); have Ia := Lib.hid (IsStrs.of_owns ho); obtain ⟨aa, ca, rfl, -, -⟩ := (IsStrs.of_owns ho).form; clear hb ho; have a0 := (X0.out.below Ba.out).c0; have a1 := (X0.out.below Ba.out).c1) | (go_at_call 46; with_reducible refine Calls.mono (toNeeds_any l d _) ?_; rintro e wb ⟨rfl, hb⟩; have Bb := Lib.hid (Ba.out.trans (hb.mono Ba.out.size)); have Ib := Lib.hid (Ia.out.below hb); clear hb; have b0 := (X0.out.below Bb.out).c0; have b1 := (X0.out.below Bb.out).c1) | (go_at_call 29; with_reducible refine Calls.mono (HSP.out _ _ Ib.out) ?_; rintro e w1 ⟨rfl, hb⟩; have Bc := Lib.hid (Bb.out.trans (hb.mono Bb.out.size)); clear hb; have d0 := (X0.out.below Bc.out).c0; have d1 := (X0.out.below Bc.out).c1))
  have B1 := Lib.hid (B0.out.trans (Bc.out.mono B0.out.size))
  have X1 := Lib.hid (X0.out.below Bc.out)
  clear c0 c1 a0 a1 b0 b1 d0 d1 Ib
  have c0 := X1.out.c0
  have c1 := X1.out.c1
  go_wp2_with fail
  clear c0 c1
  refine (toStringS_any _ xs _ (H.out.below B1.out) hlen).mono ?_
  rintro e w2 ⟨vb, rfl, ho, hb⟩
  have B2 := Lib.hid (B1.out.trans (hb.mono B1.out.size))
  have X2 := Lib.hid (X1.out.below hb)
  have Ib := Lib.hid (IsStrs.of_owns ho)
  have Fb := (IsStrs.of_owns ho).form
  clear hb ho
  obtain ⟨ab, cb, rfl, -, -⟩ := Fb
  have c0 := X2.out.c0
  have c1 := X2.out.c1
  go_wp2_with fail
  clear c0 c1
  refine (toNeeds_any l d _).mono ?_
  rintro e w3 ⟨rfl, hb⟩
  have B3 := Lib.hid (B2.out.trans (hb.mono B2.out.size))
  have X3 := Lib.hid (X2.out.below hb)
  have Ib := Lib.hid (Ib.out.below hb)
  clear hb
  have c0 := X3.out.c0
  have c1 := X3.out.c1
  go_wp2_with fail
  clear c0 c1
  refine (HIM.out _ _ Ib.out).mono ?_
  rintro e w4 ⟨rfl, hb⟩
  have B4 := Lib.hid (B3.out.trans (hb.mono B3.out.size))
  have X4 := Lib.hid (X3.out.below hb)
  have Ib := Lib.hid (Ib.out.below hb)
  clear hb
  have c0 := X4.out.c0
  have c1 := X4.out.c1
  go_wp2_with fail
  clear c0 c1
  refine (toStringS_any _ xs _ (H.out.below B4.out) hlen).mono ?_
  rintro e w5 ⟨vc, rfl, ho, hb⟩
  have B5 := Lib.hid (B4.out.trans (hb.mono B4.out.size))
  have X5 := Lib.hid (X4.out.below hb)
  have Ic := Lib.hid (IsStrs.of_owns ho)
  have Fc := (IsStrs.of_owns ho).form
  have Ib := Lib.hid (Ib.out.below hb)
  clear hb ho
  obtain ⟨ac, cc, rfl, -, -⟩ := Fc
  have c0 := X5.out.c0
  have c1 := X5.out.c1
  go_wp2_with fail
  clear c0 c1
  refine (eqStringS_same _ _ xs _ Ib.out Ic.out).mono ?_
  rintro e w6 ⟨rfl, hb⟩
  have B6 := Lib.hid (B5.out.trans (hb.mono B5.out.size))
  have X6 := Lib.hid (X5.out.below hb)
  clear hb
  go_wp2_with fail
  go_ret
  exact ⟨rfl, B6.out⟩
end Go.Proofs.Ytlbblfbiiceofaa
