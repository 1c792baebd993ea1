/- The walk of FnStateAfter: true at every code. No condition. -/
import Derived.Test.YtbcjbdhanmkpjaaDrawn3
import Derived.Test.YtbcjbdhanmkpjaaLawMachOk
import Derived.Test.YtbcjbdhanmkpjaaTakes
namespace Go.Proofs.Ytbcjbdhanmkpjaa
open Go.RowKit

theorem M.after_nil {m : M} (h : m.ok = true) : m.after ⟨#[]⟩ = 0 := by
  rw [M.after_yes h (by decide +kernel)]; rfl
theorem allL_append (l k : List UInt8) : allL (l ++ k) = (allL l && allL k) := by simp [allL]
/-- one letter d behind a word -/
theorem M.after_more {m : M} {s : ByteArray} (h : m.ok = true) (hw : wordOk s = true) : m.after (s ++ ⟨#[100]⟩) = -2 ∨ m.after (s ++ ⟨#[100]⟩) = m.nx (m.after s) 1 := by
  cases hw2 : wordOk (s ++ ⟨#[100]⟩) with
  | false => exact .inl (M.after_now _ hw2)
  | true =>
    refine .inr ?_
    rw [M.after_yes h hw2, M.after_yes h hw, ByteArray.data_append, Array.toList_append, M.goes_append]
    rfl

set_option maxHeartbeats 1600000 in
theorem lawStateAfter_walk {w : World} (a : Option Addr) (len cap : Nat) (zs : List Int) (h : IsRow .u8 w a len cap zs) :
    Calls Try.prog 4 #[.slice a len cap] w fun e w' => e = .returned (.bool true) ∧ Below w.heap.size w w' := by
  have HD := Lib.hid (drawStateAfter_any a len cap zs w h)
  have hl := h.len_le
  unfold maxLen at hl
  clear h
  by_cases hbig : 1048576 < len
  · go_enter Try.func4, Try.ntmps4
    go_wp2_with fail
    go_ret
    exact ⟨rfl, Below.refl _ _⟩
  · go_enter Try.func4, Try.ntmps4
    go_wp2_with fail
    refine HD.out.mono ?_
    clear HD
    rintro e w1 ⟨⟨st, xs, bs⟩, nv, ev, s, rfl, hs, hd, hb1⟩
    obtain ⟨a1, n1, c1, rfl⟩ := hd.ints.slice
    obtain ⟨a2, n2, c2, rfl⟩ := hd.bools.slice
    have hwf := hd.wf
    have hM := MachBox.new (st := st) 26 hd.ints hd.bools
    have M1 := Lib.hid hM
    have q1 := Lib.hid (hb1.trans ((Below.refl w1.heap.size w1).alloc (Nat.le_refl _) (.cells #[.int .i64 st, .slice a1 n1 c1, .slice a2 n2 c2] 26) |>.mono hb1.size))
    clear hM hb1 hd
    have hsm : s.size ≤ maxLen := by unfold maxLen; omega
    obtain ⟨s2, hs2⟩ : ∃ s2 : ByteArray, s2 = s ++ ⟨#[100]⟩ := ⟨_, rfl⟩
    have hsm2 : s2.size ≤ maxLen := by rw [hs2, ByteArray.size_append]; unfold maxLen; show s.size + 1 ≤ _; omega
    obtain ⟨e0, he0⟩ : ∃ e0 : ByteArray, e0 = ⟨#[]⟩ := ⟨_, rfl⟩
    have hsm0 : e0.size ≤ maxLen := by rw [he0]; exact Nat.zero_le _
    have HE0 := Lib.hid he0
    clear he0
    have HS2 := Lib.hid hs2
    clear hs2
    have hsm3 : (s.size : Int) + 1 ≤ 9223372036854775807 := by omega
    go_wp2_with fail
    refine (implStateAfter_any ⟨st, xs, bs⟩ s _ _ _ M1.out.ints M1.out.bools hwf hsm).mono ?_
    rintro e w2 ⟨rfl, hb2⟩
    have M2 := Lib.hid (M1.out.below hb2)
    have q2 := Lib.hid (q1.out.trans (hb2.mono q1.out.size))
    clear hb2
    have y0 := M2.out.c0
    have y1 := M2.out.c1
    have y2 := M2.out.c2
    go_wp2_with fail
    clear y0 y1 y2
    refine (specStateAfter_any ⟨st, xs, bs⟩ s _ _ _ M2.out.ints M2.out.bools hwf hsm).mono ?_
    rintro e w3 ⟨rfl, hb3⟩
    have M3 := Lib.hid (M2.out.below hb3)
    have q3 := Lib.hid (q2.out.trans (hb3.mono q2.out.size))
    clear hb3 M1 M2 q1 q2
    have y0 := M3.out.c0
    have y1 := M3.out.c1
    have y2 := M3.out.c2
    by_cases hk : M.ok ⟨st, xs, bs⟩ = true
    · have HK := Lib.hid hk
      by_cases hw : wordOk s = true
      · have HW := Lib.hid hw
        have hbd := M.goes_bd hk 0 _ (by omega) (by have := M.ok_shape hk; omega) (wordOk_all hw)
        rw [← M.after_yes hk hw] at hbd
        have HM := Lib.hid (M.after_more hk hw)
        rw [← HS2.out] at HM
        have HN := Lib.hid (M.after_nil hk)
        rw [← HE0.out] at HN
        have hsh := M.ok_shape hk
        simp only at hsh hbd
        clear hk hw
        generalize hp : M.after ⟨st, xs, bs⟩ s = p at *
        have hne : (p == -2) = false := by simp; omega
        go_wp2_with fail
        clear y0 y1 y2
        rw [← HS2.out]
        refine (implStateAfter_any ⟨st, xs, bs⟩ s2 _ _ _ M3.out.ints M3.out.bools hwf hsm2).mono ?_
        rintro e w4 ⟨rfl, hb4⟩
        have M4 := Lib.hid (M3.out.below hb4)
        have q4 := Lib.hid (q3.out.trans (hb4.mono q3.out.size))
        clear hb4 M3 q3
        have y0 := M4.out.c0
        have y1 := M4.out.c1
        have y2 := M4.out.c2
        by_cases hp0 : 0 ≤ p
        · obtain ⟨i, hi1, hi2, hi3⟩ := M.nx_at HK.out p 1 hp0 hbd.2 (by omega) (by omega)
          obtain ⟨aa, cc, hse, ha1, ha2, haa⟩ := M4.out.ints
          simp only [Value.slice.injEq] at hse
          obtain ⟨rfl, rfl, rfl⟩ := hse
          obtain ⟨g, off, rfl, hg, hc⟩ := haa.resolve_left (fun h => by simp only at hi2 h; rw [h] at hi2; exact absurd hi2 (Nat.not_lt_zero i))
          have hcell := hc i hi2
          simp only at hi2 hcell
          unfold maxLen at ha2
          have hq1 : IntKind.i64.wrap (3 * p) = 3 * p := IntWalk.i64_in _ (by omega)
          have hq2 : IntKind.i64.wrap (3 * p + 1) = 3 * p + 1 := IntWalk.i64_in _ (by omega)
          have hq3 : 3 * p + 1 = i := by omega
          rw [hi3] at HM
          generalize M.after ⟨st, xs, bs⟩ s2 = r at *
          simp only at HM
          generalize xs[i] = d at hcell HM
          clear hi1 hi3 hc haa
          go_wp2_with fail
          rw [← HE0.out]
          refine (implStateAfter_any ⟨st, xs, bs⟩ e0 _ _ _ M4.out.ints M4.out.bools hwf hsm0).mono ?_
          rintro e w5 ⟨rfl, hb5⟩
          have M5 := Lib.hid (M4.out.below hb5)
          have q5 := Lib.hid (q4.out.trans (hb5.mono q4.out.size))
          clear hb5 M4 q4
          rw [HN.out]
          have y0 := M5.out.c0
          have y1 := M5.out.c1
          have y2 := M5.out.c2
          have hplt : p < st := hbd.2
          by_cases hr2 : r = -2
          · have hr2' : (r == -2) = true := by simp [hr2]
            clear hr2 HM
            go_wp2_with fail
            go_ret
            exact ⟨rfl, q5.out⟩
          · have hr2' : (r == -2) = false := by simpa using hr2
            have hrd : (r == d) = true := by rw [beq_iff_eq]; exact HM.out.resolve_left hr2
            clear hr2 HM
            go_wp2_with fail
            go_ret
            exact ⟨rfl, q5.out⟩
        · have hpm : p = -1 := by omega
          have hnx : M.nx ⟨st, xs, bs⟩ p 1 = -1 := M.nx_neg _ _ _ (by omega)
          rw [hnx] at HM
          generalize M.after ⟨st, xs, bs⟩ s2 = r at *
          clear hnx
          subst hpm
          have hst0 : -1 < st := hbd.2
          go_wp2_with fail
          clear y0 y1 y2
          rw [← HE0.out]
          refine (implStateAfter_any ⟨st, xs, bs⟩ e0 _ _ _ M4.out.ints M4.out.bools hwf hsm0).mono ?_
          rintro e w5 ⟨rfl, hb5⟩
          have M5 := Lib.hid (M4.out.below hb5)
          have q5 := Lib.hid (q4.out.trans (hb5.mono q4.out.size))
          clear hb5 M4 q4
          rw [HN.out]
          have y0 := M5.out.c0
          have y1 := M5.out.c1
          have y2 := M5.out.c2
          by_cases hr2 : r = -2
          · have hr2' : (r == -2) = true := by simp [hr2]
            clear hr2 HM
            go_wp2_with fail
            go_ret
            exact ⟨rfl, q5.out⟩
          · have hr2' : (r == -2) = false := by simpa using hr2
            have hrd : (r == -1) = true := by rw [beq_iff_eq]; exact HM.out.resolve_left hr2
            clear hr2 HM
            go_wp2_with fail
            go_ret
            exact ⟨rfl, q5.out⟩
      · have hwf2 : wordOk s = false := by simpa using hw
        have HR := Lib.hid (M.after_now (m := ⟨st, xs, bs⟩) s hwf2)
        rw [HR.out]
        have HK2 := Lib.hid hk
        have HW2 := Lib.hid hwf2
        clear hk hw hwf2
        go_wp2_with fail
        refine (implMachineOk_any ⟨st, xs, bs⟩ _ _ _ M3.out.ints M3.out.bools hwf).mono ?_
        rintro e w4 ⟨rfl, hb4⟩
        have q4 := Lib.hid (q3.out.trans (hb4.mono q3.out.size))
        clear hb4
        rw [HK2.out]
        go_wp2_with fail
        refine (implWordOk_any s _ hsm).mono ?_
        rintro e w5 ⟨rfl, rfl⟩
        rw [HW2.out]
        go_wp2_with fail
        refine (alive_any _).mono ?_
        rintro e w5 ⟨rfl, rfl⟩
        go_wp2_with fail
        go_ret
        exact ⟨rfl, q4.out⟩
    · have hkf : M.ok ⟨st, xs, bs⟩ = false := by simpa using hk
      have HR := Lib.hid (M.after_not s hkf)
      rw [HR.out]
      have HK2 := Lib.hid hkf
      clear hk hkf
      go_wp2_with fail
      refine (implMachineOk_any ⟨st, xs, bs⟩ _ _ _ M3.out.ints M3.out.bools hwf).mono ?_
      rintro e w4 ⟨rfl, hb4⟩
      have q4 := Lib.hid (q3.out.trans (hb4.mono q3.out.size))
      clear hb4
      rw [HK2.out]
      go_wp2_with fail
      refine (alive_any _).mono ?_
      rintro e w5 ⟨rfl, rfl⟩
      go_wp2_with fail
      go_ret
      exact ⟨rfl, q4.out⟩
end Go.Proofs.Ytbcjbdhanmkpjaa
