/- The walk of FnExactFairerSwap: true at every roster and letter. Written by mkexswap2.py. No condition. -/
import Derived.Test.YtggohgkjdnnndaaExRosEx
import Derived.Test.YtggohgkjdnnndaaSwapFS
namespace Go.Proofs.Ytggohgkjdnnndaa
open Go.RowKit

set_option maxHeartbeats 1600000 in
theorem exactFairerSwap_walk {w : World} (u : Value) (xs : List ByteArray) (hu : IsStrs w u xs) (hx : Short xs) (t : ByteArray) (ht : t.size ≤ maxLen) :
    Calls Try.prog 12 #[u, .string t] w fun e w' => e = .returned (.bool true) ∧ Below w.heap.size w w' := by
  have H := Lib.hid hu
  have HX := Lib.hid hx
  have HSP : Hid (∀ (W : World) (a : Value), IsStrs W a xs → Calls Try.prog 33 #[a, .string t] W (FairP xs t W)) := Lib.hid (fun W a h1 => specFairer_any a xs hx t W h1)
  have HIM : Hid (∀ (W : World) (a : Value), IsStrs W a xs → Calls Try.prog 32 #[a, .string t] W (FairP xs t W)) := Lib.hid (fun W a h1 => implFairer_any a xs hx t ht W h1)
  obtain ⟨a, cap, rfl, hcp, hmx⟩ := hu.form
  unfold maxLen at ht
  clear hu hx
  by_cases hbig : 1048576 < t.size
  · go_enter Try.func12, Try.ntmps12
    go_wp2_with fail
    go_ret
    exact ⟨rfl, Below.refl _ _⟩
  go_enter Try.func12, Try.ntmps12
  go_wp2_with fail
  refine (szStringS_any xs HX.out _ _ H.out 1048576 (by omega) (by omega)).mono ?_
  rintro e w0 ⟨⟨lf, rfl, hl1, hl2, hl3⟩, hb0⟩
  have B0 := Lib.hid hb0
  clear hb0
  by_cases hlf : lf < 0
  · go_wp2_with fail
    go_ret
    exact ⟨rfl, B0.out⟩
  have hlen : xs.length ≤ 1048576 := hl3 (by omega)
  go_wp2_with fail
  refine (toStringS_any _ xs _ (H.out.below B0.out) hlen).mono ?_
  rintro e w1 ⟨v1, rfl, ho, hb⟩
  have B1 := Lib.hid (B0.out.trans (hb.mono B0.out.size))
  have I1 := Lib.hid (IsStrs.of_owns ho)
  clear hb ho
  go_wp2_with fail
  refine (HSP.out _ _ I1.out).mono ?_
  rintro e w2 ⟨⟨r, hr, rfl⟩, hb⟩
  have B2 := Lib.hid (B1.out.trans (hb.mono B1.out.size))
  have HR := Lib.hid hr
  clear hb hr
  rcases r with _ | ⟨rd, ra, rb⟩
  all_goals
    simp only [fsV]
    go_wp2_with fail
    refine (toStringS_any _ xs _ (H.out.below B2.out) hlen).mono ?_
    rintro e w3 ⟨v3, rfl, ho, hb⟩
    have B3 := Lib.hid (B2.out.trans (hb.mono B2.out.size))
    have I3 := Lib.hid (IsStrs.of_owns ho)
    obtain ⟨a3, c3, rfl, -, -⟩ := I3.out.form
    clear hb ho
    go_wp2_with fail
    refine (HIM.out _ _ I3.out).mono ?_
    rintro e w4 ⟨⟨q, hq, rfl⟩, hb⟩
    obtain rfl := hq.one HR.out
    have B4 := Lib.hid (B3.out.trans (hb.mono B3.out.size))
    have I4 := Lib.hid (I3.out.below hb)
    clear hb hq
    simp only [fsV]
    go_wp2_with fail
    refine (toStringS_any _ xs _ (H.out.below B4.out) hlen).mono ?_
    rintro e w5 ⟨v5, rfl, ho, hb⟩
    have B5 := Lib.hid (B4.out.trans (hb.mono B4.out.size))
    have I5 := Lib.hid (IsStrs.of_owns ho)
    have J5 := Lib.hid (I4.out.below hb)
    clear hb ho
    go_wp2_with fail
    refine (eqStringS_sameX _ _ xs _ J5.out I5.out).mono ?_
    rintro e w6 ⟨rfl, hb⟩
    have B6 := Lib.hid (B5.out.trans (hb.mono B5.out.size))
    clear hb
    go_wp2_with fail
    go_ret
    exact ⟨rfl, B6.out⟩
end Go.Proofs.Ytggohgkjdnnndaa
