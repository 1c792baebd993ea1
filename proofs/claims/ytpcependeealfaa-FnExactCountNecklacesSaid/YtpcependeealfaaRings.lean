/- StateFrom, RingState and RingOk, the model's and the program's: what each returns, at every machine and text. No condition. -/
import Derived.Test.YtpcependeealfaaRingMath
import Derived.Test.YtpcependeealfaaAfter
namespace Go.Proofs.Ytpcependeealfaa
open Go.RowKit

theorem fromClosure_any (m : M) (B : Nat) (s l : Int) (nv ev : Value) (w : World) (hM : MachBox B m.st nv m.next ev m.ends w) (hk : m.ok = true) (s0 : -1 ≤ s) (s1 : s < m.st) (l0 : 0 ≤ l) (l1 : l ≤ 2) :
    Calls Try.prog 79 #[.int .i64 s, .int .i64 l, .pointer (some ⟨B, 0, none⟩)] w fun e w' => e = .returned (.int .i64 (m.nx s l)) ∧ Below w.heap.size w w' := by
  have HC := Lib.hid (fun W a => implNextOf_any m s l nv ev W a hk s0 s1 l0 l1)
  have c0 := hM.c0
  have c1 := hM.c1
  have c2 := hM.c2
  have HI := Lib.hid hM.ints
  clear hM hk
  go_enter Try.func79, Try.ntmps79
  go_wp2_with fail
  refine (HC.out _ HI.out).mono ?_
  rintro e w1 ⟨rfl, hb1⟩
  go_wp2_with fail
  go_ret
  exact ⟨rfl, hb1⟩

set_option maxHeartbeats 1600000 in
theorem foldFrom_any (m : M) (B : Nat) (s : Int) (word : ByteArray) (nv ev : Value) (w : World) (hM : MachBox B m.st nv m.next ev m.ends w) (hk : m.ok = true) (hw : wordOk word = true) (s0 : 0 ≤ s) (s1 : s < m.st) :
    Calls Try.prog 78 #[.string word, .int .i64 s, .func (.func 79) #[] #[.pointer (some ⟨B, 0, none⟩)]] w
      fun e w' => e = .returned (.int .i64 (m.goes s word.data.toList)) ∧ Below w.heap.size w w' := by
  have h14 := wordOk_size hw
  have HK := Lib.hid hk
  have HW := Lib.hid hw
  have MM := Lib.hid hM
  have HS1 := Lib.hid s1
  clear hM hk hw
  go_enter Try.func78, Try.ntmps78
  go_wp2_with fail
  go_loopw [1, 7, 10] (fun v _ i wr => ∃ k : Nat, k ≤ word.size ∧ i = .int .i64 k ∧ v = .int .i64 (m.goes s (word.data.toList.take k)) ∧ Below w.heap.size w wr) (fun _ _ i _ => word.size - (intOf i).toNat)
  case atStart => exact ⟨0, Nat.zero_le _, rfl, rfl, Below.refl _ _⟩
  case round =>
    obtain ⟨k, hkk, rfl, rfl, hb⟩ := hrel
    have HB := Lib.hid hb
    clear hb
    by_cases hlt : k < word.size
    · have HSTEP := Lib.hid (M.goes_snoc m s word k hlt)
      have hbd := Lib.hid (goes_step_le (s := s) HK.out HW.out (by omega) HS1.out k)
      have hL := wordOk_at HW.out k hlt
      have hlb := Lib.hid (letter_bd hL)
      have HC := Lib.hid (idxLetter_any word[k] hL)
      clear hL
      generalize letterOf (word[k].toNat : Int) = l at *
      generalize m.goes s (word.data.toList.take k) = p at *
      have MD := Lib.hid (MM.out.below HB.out)
      go_wp2_with (first | (go_at_call 82; refine (HC.out _).mono ?_; rintro e w7 ⟨rfl, rfl⟩) | (go_at_call 79; refine (fromClosure_any m B p l nv ev _ MD.out HK.out hbd.out.1 hbd.out.2 hlb.out.1 hlb.out.2).mono ?_; rintro e w8 ⟨rfl, hb8⟩))
      go_roundw
      case rel => exact ⟨k + 1, by omega, by go_num, by rw [HSTEP.out], HB.out.trans (hb8.mono HB.out.size)⟩
      case measure => simp [intOf]; omega
    · obtain rfl : k = word.size := by omega
      have HG := Lib.hid (M.goes_all m s word)
      generalize m.goes s (word.data.toList.take word.size) = p at *
      go_wp2
      go_ret
      exact ⟨ret_int HG.out, HB.out⟩

theorem M.from_no1 {m : M} (s : Int) (word : ByteArray) (h : m.ok = false) : m.from s word = -2 := M.from_no (by rw [h]; rfl)
theorem M.from_no2 {m : M} (s : Int) {word : ByteArray} (h : wordOk word = false) : m.from s word = -2 := M.from_no (by rw [h, Bool.and_false]; rfl)
theorem M.from_no3 {m : M} {s : Int} (word : ByteArray) (h : ¬ (0 ≤ s ∧ s < m.st)) : m.from s word = -2 := M.from_no (by
  have : (decide (0 ≤ s) && decide (s ≤ m.st - 1)) = false := by
    rw [Bool.and_eq_false_iff, decide_eq_false_iff_not, decide_eq_false_iff_not]; omega
  rw [this, Bool.and_false])

set_option maxHeartbeats 1600000 in
theorem implStateFrom_any (m : M) (s : Int) (word : ByteArray) (nv ev : Value) (w : World) (h1 : IsInts w nv m.next) (h2 : IsBools w ev m.ends) (hst : (Lit.int .i64 m.st).wf = true) (hs : word.size ≤ maxLen) :
    Calls Try.prog 35 #[.agg #[.int .i64 m.st, nv, ev], .int .i64 s, .string word] w fun e w' => e = .returned (.int .i64 (m.from s word)) ∧ Below w.heap.size w w' := by
  have hM : MachBox w.heap.size m.st nv m.next ev m.ends (w.alloc (.cells #[.int .i64 m.st, nv, ev] 26)) := MachBox.new _ h1 h2
  have M0 := Lib.hid hM
  have q0 : Hid (Below w.heap.size w (w.alloc (.cells #[.int .i64 m.st, nv, ev] 26))) := Lib.hid ((Below.refl _ _).alloc (Nat.le_refl _) _)
  have HWD := Lib.hid (fun W => implWordOk_any word W hs)
  clear hM h1 h2
  go_enter Try.func35, Try.ntmps35
  go_wp2_with fail
  refine (implMachineOk_any m nv ev _ M0.out.ints M0.out.bools hst).mono ?_
  rintro e w1 ⟨rfl, hb1⟩
  have M1 := Lib.hid (M0.out.below hb1)
  have q1 := Lib.hid (q0.out.trans (hb1.mono q0.out.size))
  clear hb1 M0
  have y10 := M1.out.c0
  have y11 := M1.out.c1
  have y12 := M1.out.c2
  by_cases hk : m.ok = true
  · have HK := Lib.hid hk
    rw [hk]
    clear hk
    by_cases hw : wordOk word = true
    · have HW := Lib.hid hw
      rw [hw] at HWD
      clear hw
      by_cases hr : 0 ≤ s ∧ s < m.st
      · obtain ⟨r0, r1⟩ := hr
        have HR := Lib.hid (M.from_yes HK.out HW.out r0 r1)
        have HF := Lib.hid (fun W a => foldFrom_any m w.heap.size s word nv ev W a HK.out HW.out r0 r1)
        have n1 : ¬ s < 0 := by omega
        have n2 : ¬ m.st ≤ s := by omega
        go_wp2_with (first | (go_at_call 45; refine (HWD.out _).mono ?_; rintro e w2 ⟨rfl, rfl⟩) | (go_at_call 78; refine (HF.out _ M1.out).mono ?_; rintro e w3 ⟨rfl, hb3⟩; have q3 := Lib.hid (q1.out.trans (hb3.mono q1.out.size)); clear hb3))
        go_ret
        exact ⟨ret_int HR.out.symm, q3.out⟩
      · have HR := Lib.hid (M.from_no3 (m := m) word hr)
        by_cases n1 : s < 0
        · clear hr
          go_wp2_with (go_at_call 45; refine (HWD.out _).mono ?_; rintro e w2 ⟨rfl, rfl⟩)
          go_ret
          exact ⟨ret_int HR.out.symm, q1.out⟩
        · have n2 : m.st ≤ s := by omega
          clear hr
          go_wp2_with (go_at_call 45; refine (HWD.out _).mono ?_; rintro e w2 ⟨rfl, rfl⟩)
          go_ret
          exact ⟨ret_int HR.out.symm, q1.out⟩
    · have hwf : wordOk word = false := by simpa using hw
      have HR := Lib.hid (M.from_no2 (m := m) s hwf)
      rw [hwf] at HWD
      clear hw hwf
      go_wp2_with (go_at_call 45; refine (HWD.out _).mono ?_; rintro e w2 ⟨rfl, rfl⟩)
      go_ret
      exact ⟨ret_int HR.out.symm, q1.out⟩
  · have hkf : m.ok = false := by simpa using hk
    have HR := Lib.hid (M.from_no1 s word hkf)
    rw [hkf]
    clear hk hkf
    go_wp2_with fail
    go_ret
    exact ⟨ret_int HR.out.symm, q1.out⟩

set_option maxHeartbeats 1600000 in
theorem specStateFrom_any (m : M) (s : Int) (word : ByteArray) (nv ev : Value) (w : World) (h1 : IsInts w nv m.next) (h2 : IsBools w ev m.ends) (hst : (Lit.int .i64 m.st).wf = true) (hs : word.size ≤ maxLen) :
    Calls Try.prog 36 #[.agg #[.int .i64 m.st, nv, ev], .int .i64 s, .string word] w fun e w' => e = .returned (.int .i64 (m.from s word)) ∧ Below w.heap.size w w' := by
  have hM : MachBox w.heap.size m.st nv m.next ev m.ends (w.alloc (.cells #[.int .i64 m.st, nv, ev] 26)) := MachBox.new _ h1 h2
  have M0 := Lib.hid hM
  have q0 : Hid (Below w.heap.size w (w.alloc (.cells #[.int .i64 m.st, nv, ev] 26))) := Lib.hid ((Below.refl _ _).alloc (Nat.le_refl _) _)
  have HWD := Lib.hid (fun W => specWordOk_any word W hs)
  clear hM h1 h2
  go_enter Try.func36, Try.ntmps36
  go_wp2_with fail
  refine (specMachineOk_any m nv ev _ M0.out.ints M0.out.bools hst).mono ?_
  rintro e w1 ⟨rfl, hb1⟩
  have M1 := Lib.hid (M0.out.below hb1)
  have q1 := Lib.hid (q0.out.trans (hb1.mono q0.out.size))
  clear hb1 M0
  have y10 := M1.out.c0
  have y11 := M1.out.c1
  have y12 := M1.out.c2
  by_cases hk : m.ok = true
  · have HK := Lib.hid hk
    have hsh := M.ok_shape hk
    have hst48 : m.st ≤ 48 := hsh.2.1
    have hst1 : 1 ≤ m.st := hsh.1
    rw [hk]
    clear hk hsh
    by_cases hw : wordOk word = true
    · have HW := Lib.hid hw
      rw [hw] at HWD
      clear hw
      by_cases hr : 0 ≤ s ∧ s < m.st
      · obtain ⟨r0, r1⟩ := hr
        have HR := Lib.hid (M.from_yes HK.out HW.out r0 r1)
        have HF := Lib.hid (fun W a => specL2From_any m s word nv ev W a HK.out HW.out (by omega) r1)
        have HIN := Lib.hid (fun W => l1In_any s 0 (m.st - 1) W)
        rw [show (decide ((0 : Int) ≤ s) && decide (s ≤ m.st - 1)) = true by simp; omega] at HIN
        go_wp2_with (first | (go_at_call 49; refine (HWD.out _).mono ?_; rintro e w2 ⟨rfl, rfl⟩) | (go_at_call 68; refine (HIN.out _).mono ?_; rintro e w2 ⟨rfl, rfl⟩) | (go_at_call 81; refine (HF.out _ M1.out.ints).mono ?_; rintro e w3 ⟨rfl, hb3⟩; have q3 := Lib.hid (q1.out.trans (hb3.mono q1.out.size)); clear hb3))
        go_ret
        exact ⟨ret_int HR.out.symm, q3.out⟩
      · have HR := Lib.hid (M.from_no3 (m := m) word hr)
        have HIN := Lib.hid (fun W => l1In_any s 0 (m.st - 1) W)
        rw [show (decide ((0 : Int) ≤ s) && decide (s ≤ m.st - 1)) = false by rw [Bool.and_eq_false_iff, decide_eq_false_iff_not, decide_eq_false_iff_not]; omega] at HIN
        clear hr
        go_wp2_with (first | (go_at_call 49; refine (HWD.out _).mono ?_; rintro e w2 ⟨rfl, rfl⟩) | (go_at_call 68; refine (HIN.out _).mono ?_; rintro e w2 ⟨rfl, rfl⟩))
        go_ret
        exact ⟨ret_int HR.out.symm, q1.out⟩
    · have hwf : wordOk word = false := by simpa using hw
      have HR := Lib.hid (M.from_no2 (m := m) s hwf)
      rw [hwf] at HWD
      clear hw hwf
      go_wp2_with (go_at_call 49; refine (HWD.out _).mono ?_; rintro e w2 ⟨rfl, rfl⟩)
      go_ret
      exact ⟨ret_int HR.out.symm, q1.out⟩
  · have hkf : m.ok = false := by simpa using hk
    have HR := Lib.hid (M.from_no1 s word hkf)
    rw [hkf]
    clear hk hkf
    go_wp2_with fail
    go_ret
    exact ⟨ret_int HR.out.symm, q1.out⟩
end Go.Proofs.Ytpcependeealfaa
