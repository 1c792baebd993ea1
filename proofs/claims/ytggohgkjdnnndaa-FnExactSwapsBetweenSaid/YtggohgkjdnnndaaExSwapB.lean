/- The walks of FnExactSwapsBetween: true at every two rosters. Written by mkexswap2.py. No condition. -/
import Derived.Test.YtggohgkjdnnndaaExRosEx
import Derived.Test.YtggohgkjdnnndaaSwapBS
namespace Go.Proofs.Ytggohgkjdnnndaa
open Go.RowKit

set_option maxHeartbeats 1600000 in
theorem exactSwapsBetween_walk {w : World} (u : Value) (xs : List ByteArray) (hu : IsStrs w u xs) (hx : Short xs) (v : Value) (ys : List ByteArray) (hv : IsStrs w v ys) (hy : Short ys) :
    Calls Try.prog 9 #[u, v] w fun e w' => e = .returned (.bool true) ∧ Below w.heap.size w w' := by
  have H := Lib.hid hu
  have HV := Lib.hid hv
  have HX := Lib.hid hx
  have HY := Lib.hid hy
  have HSP : Hid (∀ (W : World) (a b : Value), IsStrs W a xs → IsStrs W b ys → Calls Try.prog 23 #[a, b] W fun e w' => e = .returned (.int .i64 (swapsOf xs ys)) ∧ Below W.heap.size W w') := Lib.hid (fun W a b h1 h2 => specSwaps_any a b xs ys hx hy W h1 h2)
  have HIM : Hid (∀ (W : World) (a b : Value), IsStrs W a xs → IsStrs W b ys → Calls Try.prog 20 #[a, b] W fun e w' => e = .returned (.int .i64 (swapsOf xs ys)) ∧ Below W.heap.size W w') := Lib.hid (fun W a b h1 h2 => implSwaps_any a b xs ys hx hy W h1 h2)
  generalize swapsOf xs ys = r at HSP HIM
  have hne : (r != r) = false := by simp
  obtain ⟨a, cap, rfl, hcp, hmx⟩ := hu.form
  obtain ⟨b, cbp, rfl, hcq, hmy⟩ := hv.form
  clear hu hv hx hy
  go_enter Try.func9, Try.ntmps9
  go_wp2_with fail
  refine (szStringS_any xs HX.out _ _ H.out 1048576 (by omega) (by omega)).mono ?_
  rintro e w0 ⟨⟨lf, rfl, hl1, hl2, hl3⟩, hb0⟩
  have B0 := Lib.hid hb0
  clear hb0
  by_cases hlf : lf < 0
  · go_wp2_with fail
    go_ret
    exact ⟨rfl, B0.out⟩
  have hlen : xs.length ≤ 1048576 := hl3 (by omega)
  go_wp2_with fail
  refine (szStringS_any ys HY.out _ _ (HV.out.below B0.out) lf (by omega) (by omega)).mono ?_
  rintro e w1 ⟨⟨lg, rfl, hm1, hm2, hm3⟩, hb⟩
  have B1 := Lib.hid (B0.out.trans (hb.mono B0.out.size))
  clear hb
  by_cases hlg : lg < 0
  · go_wp2_with fail
    go_ret
    exact ⟨rfl, B1.out⟩
  have hlen2 : ys.length ≤ 1048576 := hm3 (by omega)
  go_wp2_with fail
  refine (toStringS_any _ xs _ (H.out.below B1.out) hlen).mono ?_
  rintro e w2 ⟨vp, rfl, ho, hb⟩
  have B2 := Lib.hid (B1.out.trans (hb.mono B1.out.size))
  have Ip := Lib.hid (IsStrs.of_owns ho)
  obtain ⟨ap, cp, rfl, -, -⟩ := Ip.out.form
  clear hb ho
  go_wp2_with fail
  refine (toStringS_any _ ys _ (HV.out.below B2.out) hlen2).mono ?_
  rintro e w3 ⟨vq, rfl, ho, hb⟩
  have B3 := Lib.hid (B2.out.trans (hb.mono B2.out.size))
  have Iq := Lib.hid (IsStrs.of_owns ho)
  obtain ⟨aq, cq, rfl, -, -⟩ := Iq.out.form
  have Ip := Lib.hid (Ip.out.below hb)
  clear hb ho
  go_wp2_with fail
  refine (HSP.out _ _ _ Ip.out Iq.out).mono ?_
  rintro e w4 ⟨rfl, hb⟩
  have B4 := Lib.hid (B3.out.trans (hb.mono B3.out.size))
  clear hb
  go_wp2_with fail
  refine (toStringS_any _ xs _ (H.out.below B4.out) hlen).mono ?_
  rintro e w5 ⟨vx, rfl, ho, hb⟩
  have B5 := Lib.hid (B4.out.trans (hb.mono B4.out.size))
  have Ix := Lib.hid (IsStrs.of_owns ho)
  obtain ⟨ax, cx, rfl, -, -⟩ := Ix.out.form
  clear hb ho
  go_wp2_with fail
  refine (toStringS_any _ ys _ (HV.out.below B5.out) hlen2).mono ?_
  rintro e w6 ⟨vy, rfl, ho, hb⟩
  have B6 := Lib.hid (B5.out.trans (hb.mono B5.out.size))
  have Iy := Lib.hid (IsStrs.of_owns ho)
  obtain ⟨ay, cy, rfl, -, -⟩ := Iy.out.form
  have Ix := Lib.hid (Ix.out.below hb)
  clear hb ho
  go_wp2_with fail
  refine (HIM.out _ _ _ Ix.out Iy.out).mono ?_
  rintro e w7 ⟨rfl, hb⟩
  have B7 := Lib.hid (B6.out.trans (hb.mono B6.out.size))
  have Ix := Lib.hid (Ix.out.below hb)
  have Iy := Lib.hid (Iy.out.below hb)
  clear hb
  go_wp2_with fail
  refine (toStringS_any _ xs _ (H.out.below B7.out) hlen).mono ?_
  rintro e w8 ⟨vm, rfl, ho, hb⟩
  have B8 := Lib.hid (B7.out.trans (hb.mono B7.out.size))
  have Im := Lib.hid (IsStrs.of_owns ho)
  obtain ⟨am, cm, rfl, -, -⟩ := Im.out.form
  have Ix := Lib.hid (Ix.out.below hb)
  have Iy := Lib.hid (Iy.out.below hb)
  clear hb ho
  go_wp2_with fail
  refine (eqStringS_sameX _ _ xs _ Ix.out Im.out).mono ?_
  rintro e w9 ⟨rfl, hb⟩
  have B9 := Lib.hid (B8.out.trans (hb.mono B8.out.size))
  have Iy := Lib.hid (Iy.out.below hb)
  clear hb
  go_wp2_with fail
  refine (toStringS_any _ ys _ (HV.out.below B9.out) hlen2).mono ?_
  rintro e w10 ⟨vn, rfl, ho, hb⟩
  have B10 := Lib.hid (B9.out.trans (hb.mono B9.out.size))
  have In := Lib.hid (IsStrs.of_owns ho)
  obtain ⟨an, cn, rfl, -, -⟩ := In.out.form
  have Iy := Lib.hid (Iy.out.below hb)
  clear hb ho
  go_wp2_with fail
  refine (eqStringS_sameX _ _ ys _ Iy.out In.out).mono ?_
  rintro e w11 ⟨rfl, hb⟩
  have B11 := Lib.hid (B10.out.trans (hb.mono B10.out.size))
  clear hb
  go_wp2_with fail
  go_ret
  exact ⟨rfl, B11.out⟩
end Go.Proofs.Ytggohgkjdnnndaa
