/- impl.CountWalks. No condition. -/
import Derived.Test.YtpcependeealfaaTimesImpl
namespace Go.Proofs.Ytpcependeealfaa
open Go.RowKit

set_option maxHeartbeats 4000000 in
theorem implCountWalks_any (m : M) (n : Int) (nv ev : Value) (w : World) (h1 : IsInts w nv m.next) (h2 : IsBools w ev m.ends) (hst : (Lit.int .i64 m.st).wf = true) :
    Calls Try.prog 57 #[.agg #[.int .i64 m.st, nv, ev], .int .i64 n] w fun e w' => e = .returned (.int .i64 (countWalks m n)) ∧ Below w.heap.size w w' := by
  have M0 := Lib.hid (MachBox.new (st := m.st) 26 h1 h2)
  have q0 : Hid (Below w.heap.size w (w.alloc (.cells #[.int .i64 m.st, nv, ev] 26))) := Lib.hid ((Below.refl _ _).alloc (Nat.le_refl _) _)
  have HIN := Lib.hid (fun W => ringLettersOk_any n W)
  clear h1 h2
  go_enter Try.func57, Try.ntmps57
  go_wp2_with fail
  refine (implMachineOk_any m nv ev _ M0.out.ints M0.out.bools hst).mono ?_
  rintro e w1 ⟨rfl, hb1⟩
  have M1 := Lib.hid (M0.out.below hb1)
  have q1 := Lib.hid (q0.out.trans (hb1.mono q0.out.size))
  clear hb1 M0
  have y10 := M1.out.c0
  have y11 := M1.out.c1
  have y12 := M1.out.c2
  by_cases hk : m.ok = true
  · have HK := Lib.hid hk
    have hsh := M.ok_shape hk
    have HSTN := Lib.hid (show m.st = (m.ends.length : Int) by omega)
    have hn48 : m.ends.length ≤ 48 := by omega
    have hn1 : 1 ≤ m.ends.length := by omega
    have HST := Lib.hid (fun W a b => implSteps_any m nv ev W a b hk)
    have HTM := Lib.hid (fun k hk5 va vb W a b => implTimes_any (m.walks k) m.steps m.ends.length va vb W a b hn1 hn48 (mul_walks m hn48 k hk5))
    rw [hk]
    by_cases hr : ringNum n = true
    · obtain ⟨r, rfl, hr5⟩ := ringNum_nat hr
      have HE := Lib.hid (countWalks_yes hk hr)
      have HIN2 : Hid (∀ W, Calls Try.prog 100 #[.int .i64 ((r : Int) + 1)] W fun e w' => e = .returned (.bool true) ∧ W = w') := Lib.hid (fun W => by
        have := HIN.out W
        rwa [hr] at this)
      have HDB := Lib.hid (fun t ht => m.diag_bd hn48 r t hr5 ht)
      generalize hri : (r : Int) = ri at *
      have HRI := Lib.hid hri
      clear hk hr hsh HIN hri
      go_wp2_with (go_at_call 100; refine (HIN2.out _).mono ?_; rintro e w2 ⟨rfl, rfl⟩)
      refine (HST.out _ M1.out.ints M1.out.bools).mono ?_
      rintro e w2 ⟨v2, rfl, hv2, hb2⟩
      have V2 := Lib.hid hv2
      have M2 := Lib.hid (M1.out.below hb2)
      have q2 := Lib.hid (q1.out.trans (hb2.mono q1.out.size))
      obtain ⟨g2, c2, rfl⟩ := hv2.slice
      clear hv2 hb2 y10 y11 y12
      have hri0 : 0 ≤ ri := by have := HRI.out; omega
      have hri5 : ri ≤ 5 := by have := HRI.out; omega
      have hq0 : wrap64 ri = ri := by unfold wrap64; omega
      go_wp2_with fail
      go_loopw [6, 22] (fun nv2 kv wr => ∃ (k : Nat) (ki : Int), ki = (k : Int) ∧ k ≤ r ∧ kv = .int .i64 ki ∧ IsMat wr nv2 m.ends.length (m.walks k) ∧ Below w2.heap.size w2 wr) (fun _ kv _ => 7 - (intOf kv).toNat)
      case atStart => exact ⟨0, 0, rfl, Nat.zero_le _, rfl, V2.out, Below.refl _ _⟩
      case round =>
        obtain ⟨k, ki, hki, hkr, rfl, hmat, hb⟩ := hrel
        have HB := Lib.hid hb
        have HMT := Lib.hid hmat
        have HKI := Lib.hid hki
        obtain ⟨g4, c4, rfl⟩ := hmat.slice
        have hq : IntKind.i64.wrap (ki + 1) = ki + 1 := IntWalk.i64_in _ (by omega)
        have hri := HRI.out
        clear hb hmat
        by_cases hlt : k < r
        · have hltI : ki < ri := by omega
          clear hki hri
          go_wp2_with fail
          refine (HTM.out k (by omega) _ _ _ HMT.out (V2.out.below HB.out)).mono ?_
          rintro e w5 ⟨v5, rfl, hv5, hb5⟩
          have V5 := Lib.hid hv5
          have HB5 := Lib.hid (HB.out.trans (hb5.mono HB.out.size))
          obtain ⟨g5, c5, rfl⟩ := hv5.slice
          clear hv5 hb5
          go_wp2_with fail
          go_roundw
          case rel => exact ⟨k + 1, ki + 1, by have := HKI.out; omega, by omega, by first | rfl | rw [hq], V5.out, HB5.out⟩
          case measure => simp [intOf]; have := HKI.out; omega
        · have hnlt : ¬ ki < ri := by omega
          have hkr2 : k = r := by omega
          subst hkr2
          clear hki hri
          have QE := Lib.hid (q2.out.trans (HB.out.mono q2.out.size))
          go_wp2_with fail
          go_loopw [7, 8, 30] (fun sv _ iv wr9 => ∃ (t : Nat) (ti : Int), ti = (t : Int) ∧ t ≤ m.ends.length ∧ iv = .int .i64 ti ∧ sv = .int .i64 (m.diag k t) ∧ wr9 = wr) (fun _ _ iv _ => m.ends.length - (intOf iv).toNat)
          case atStart => exact ⟨0, 0, rfl, Nat.zero_le _, rfl, rfl, rfl⟩
          case round =>
            obtain ⟨t, ti, hti, htn, rfl, rfl, rfl⟩ := hrel
            have HTI := Lib.hid hti
            have hq : IntKind.i64.wrap (ti + 1) = ti + 1 := IntWalk.i64_in _ (by omega)
            by_cases hlt : t < m.ends.length
            · have hltI : ti < (m.ends.length : Int) := by omega
              have ht0 : 0 ≤ ti := by omega
              have htt : ti.toNat = t := by omega
              obtain ⟨ga', ca', e1, -, hra⟩ := HMT.out
              simp only [Value.slice.injEq, Option.some.injEq, Addr.mk.injEq, and_true, true_and] at e1
              obtain ⟨rfl, rfl⟩ := e1
              obtain ⟨gi, ci, c1, -, hc1⟩ := hra t hlt
              have c5 := hc1 t hlt
              have hb1 := HDB.out t (by omega)
              have hb2 := HDB.out (t + 1) (by omega)
              have HSU : Hid (m.diag k (t + 1) = m.diag k t + m.walks k t t) := Lib.hid rfl
              rw [HSU.out] at hb2
              have hw : IntKind.i64.wrap (m.diag k t + m.walks k t t) = m.diag k t + m.walks k t t := IntWalk.i64_in _ (by omega)
              clear hti hra hc1 hb1 hb2
              generalize m.diag k t = z at *
              generalize m.walks k t t = y at *
              go_wp2_with fail
              go_roundw
              case rel => exact ⟨t + 1, ti + 1, by have := HTI.out; omega, by omega, by first | rfl | rw [hq], by rw [HSU.out], by first | rfl | trivial⟩
              case measure => simp [intOf]; have := HTI.out; omega
            · have hnl : ¬ ti < (m.ends.length : Int) := by omega
              have htn2 : t = m.ends.length := by omega
              clear hti
              have HFE : Hid (countWalks m (ri + 1) = m.diag k t) := Lib.hid (by rw [HE.out, htn2])
              generalize m.diag k t = z at *
              go_wp2_with fail
              go_ret
              exact ⟨ret_int (by first | exact HFE.out.symm | (rw [HRI.out]; exact HFE.out.symm)), QE.out⟩
    · have hrf : ringNum n = false := by simpa using hr
      have HE := Lib.hid (countWalks_no (m := m) (n := n) (by rw [hrf, Bool.and_false]))
      have HIN2 : Hid (∀ W, Calls Try.prog 100 #[.int .i64 n] W fun e w' => e = .returned (.bool false) ∧ W = w') := Lib.hid (fun W => by
        have := HIN.out W
        rwa [hrf] at this)
      clear hk hr hsh HIN hrf
      go_wp2_with (go_at_call 100; refine (HIN2.out _).mono ?_; rintro e w2 ⟨rfl, rfl⟩)
      go_ret
      exact ⟨ret_int HE.out.symm, q1.out⟩
  · have hkf : m.ok = false := by simpa using hk
    have HE := Lib.hid (countWalks_no (m := m) (n := n) (by rw [hkf, Bool.false_and]))
    rw [hkf]
    clear hk hkf
    go_wp2_with fail
    go_ret
    exact ⟨ret_int HE.out.symm, q1.out⟩
end Go.Proofs.Ytpcependeealfaa
