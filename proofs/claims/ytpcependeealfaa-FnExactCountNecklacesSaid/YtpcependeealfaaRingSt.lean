/- RingState and RingOk, the model's and the program's: what each returns, at every machine and text. No condition. -/
import Derived.Test.YtpcependeealfaaRings
namespace Go.Proofs.Ytpcependeealfaa
open Go.RowKit

theorem ring_no1 {m : M} (word : ByteArray) (h : m.ok = false) : ringState m word = -1 := ringState_no (by rw [h]; rfl)
theorem ring_no2 (m : M) {word : ByteArray} (h : wordOk word = false) : ringState m word = -1 := ringState_no (by rw [h, Bool.and_false]; rfl)
theorem ring_no3 (m : M) {word : ByteArray} (h : ¬ 0 < word.size) : ringState m word = -1 := ringState_no (by rw [decide_eq_false h, Bool.and_false])
theorem empty_of_size {word : ByteArray} (h : ¬ 0 < word.size) : word = ⟨#[]⟩ := by
  apply bytes_ext
  rw [List.eq_nil_of_length_eq_zero (l := word.data.toList) (by rw [len_data]; omega)]
theorem full_of_size {word : ByteArray} (h : 0 < word.size) : ¬ word.toList = [] := by
  rw [ByteArray.toList_eq]
  intro e
  have := congrArg List.length e
  rw [len_data, List.length_nil] at this; omega

set_option maxHeartbeats 1600000 in
theorem implRingState_any (m : M) (word : ByteArray) (nv ev : Value) (w : World) (h1 : IsInts w nv m.next) (h2 : IsBools w ev m.ends) (hst : (Lit.int .i64 m.st).wf = true) (hs : word.size ≤ maxLen) :
    Calls Try.prog 39 #[.agg #[.int .i64 m.st, nv, ev], .string word] w fun e w' => e = .returned (.int .i64 (ringState m word)) ∧ Below w.heap.size w w' := by
  have hM : MachBox w.heap.size m.st nv m.next ev m.ends (w.alloc (.cells #[.int .i64 m.st, nv, ev] 26)) := MachBox.new _ h1 h2
  have M0 := Lib.hid hM
  have q0 : Hid (Below w.heap.size w (w.alloc (.cells #[.int .i64 m.st, nv, ev] 26))) := Lib.hid ((Below.refl _ _).alloc (Nat.le_refl _) _)
  have HWD := Lib.hid (fun W => implWordOk_any word W hs)
  clear hM h1 h2
  go_enter Try.func39, Try.ntmps39
  go_wp2_with fail
  refine (implMachineOk_any m nv ev _ M0.out.ints M0.out.bools hst).mono ?_
  rintro e w1 ⟨rfl, hb1⟩
  have M1 := Lib.hid (M0.out.below hb1)
  have q1 := Lib.hid (q0.out.trans (hb1.mono q0.out.size))
  clear hb1 M0
  have y10 := M1.out.c0
  have y11 := M1.out.c1
  have y12 := M1.out.c2
  by_cases hk : m.ok = true
  · have HK := Lib.hid hk
    have hsh := M.ok_shape hk
    have hst48 : m.st ≤ 48 := hsh.2.1
    have hst1 : 1 ≤ m.st := hsh.1
    rw [hk]
    clear hk hsh
    by_cases hw : wordOk word = true
    · have HW := Lib.hid hw
      rw [hw] at HWD
      clear hw
      by_cases hz : 0 < word.size
      · have HR := Lib.hid (ringState_yes HK.out HW.out hz)
        have hne := full_of_size hz
        have hneb : (word.toList == []) = false := by simpa using hne
        have HF := Lib.hid (fun (k : Int) (h0 : 0 ≤ k) (h1 : k < m.st) W a b => by
          have := implStateFrom_any m k word nv ev W a b hst hs
          rwa [M.from_yes HK.out HW.out h0 h1] at this)
        clear hz
        go_wp2_with (go_at_call 45; refine (HWD.out _).mono ?_; rintro e w2 ⟨rfl, rfl⟩)
        clear y10 y11 y12
        go_loopw [5, 20] (fun _ i wr => ∃ (k : Nat) (ki : Int), ki = (k : Int) ∧ ki ≤ m.st ∧ i = .int .i64 ki ∧ ringTo m word.data.toList (m.st.toNat - k) ki = ringL m word.data.toList ∧ MachBox w.heap.size m.st nv m.next ev m.ends wr ∧ Below w.heap.size w wr) (fun _ i _ => m.st.toNat - (intOf i).toNat)
        case atStart => exact ⟨0, 0, rfl, by omega, rfl, rfl, M1.out, q1.out⟩
        case round =>
          obtain ⟨k, ki, hki, hk, rfl, hr, hX, hQ⟩ := hrel
          have MK := Lib.hid hX
          have QK := Lib.hid hQ
          have HKI := Lib.hid hki
          have HRT := Lib.hid hr
          have y10 := hX.c0
          have y11 := hX.c1
          have y12 := hX.c2
          have hq : IntKind.i64.wrap (ki + 1) = ki + 1 := IntWalk.i64_in _ (by omega)
          clear hX hQ hr
          by_cases hlt : ki < m.st
          · have HC := Lib.hid (HF.out ki (by omega) hlt)
            obtain ⟨f, hf⟩ : ∃ f, m.st.toNat - k = f + 1 := ⟨m.st.toNat - k - 1, by omega⟩
            by_cases he : m.goes ki word.data.toList = ki
            · have HV : Hid (ringL m word.data.toList = ki) := Lib.hid (by rw [← HRT.out, hf, ringTo_yes he])
              rw [he] at HC
              clear hki hf he
              go_wp2_with (go_at_call 35; refine (HC.out _ MK.out.ints MK.out.bools).mono ?_; rintro e w3 ⟨rfl, hb3⟩; have q3 := Lib.hid (QK.out.trans (hb3.mono QK.out.size)); clear hb3)
              go_ret
              exact ⟨ret_int (by rw [HR.out, HV.out]), q3.out⟩
            · have HV : Hid (ringTo m word.data.toList (m.st.toNat - (k + 1)) (ki + 1) = ringL m word.data.toList) := Lib.hid (by rw [← HRT.out, hf, ringTo_no he]; congr 1; omega)
              have heb : (m.goes ki word.data.toList == ki) = false := by simpa using he
              generalize m.goes ki word.data.toList = g at *
              clear hki hf he
              go_wp2_with (go_at_call 35; refine (HC.out _ MK.out.ints MK.out.bools).mono ?_; rintro e w3 ⟨rfl, hb3⟩; have q3 := Lib.hid (QK.out.trans (hb3.mono QK.out.size)); have M3 := Lib.hid (MK.out.below hb3); clear hb3)
              go_roundw
              case rel => exact ⟨k + 1, ki + 1, by have := HKI.out; omega, by omega, by first | rfl | rw [hq], HV.out, M3.out, q3.out⟩
              case measure => simp [intOf]; have := HKI.out; omega
          · have HV : Hid (ringL m word.data.toList = -1) := Lib.hid (by rw [← HRT.out, show m.st.toNat - k = 0 by omega]; rfl)
            clear hki
            go_wp2_with fail
            go_ret
            exact ⟨ret_int (by rw [HR.out, HV.out]), QK.out⟩
      · have HR := Lib.hid (ring_no3 m hz)
        obtain rfl := empty_of_size hz
        clear hz
        go_wp2_with (go_at_call 45; refine (HWD.out _).mono ?_; rintro e w2 ⟨rfl, rfl⟩)
        go_ret
        exact ⟨ret_int HR.out.symm, q1.out⟩
    · have hwf : wordOk word = false := by simpa using hw
      have HR := Lib.hid (ring_no2 m hwf)
      rw [hwf] at HWD
      clear hw hwf
      go_wp2_with (go_at_call 45; refine (HWD.out _).mono ?_; rintro e w2 ⟨rfl, rfl⟩)
      go_ret
      exact ⟨ret_int HR.out.symm, q1.out⟩
  · have hkf : m.ok = false := by simpa using hk
    have HR := Lib.hid (ring_no1 word hkf)
    rw [hkf]
    clear hk hkf
    go_wp2_with fail
    go_ret
    exact ⟨ret_int HR.out.symm, q1.out⟩

set_option maxHeartbeats 1600000 in
theorem specRingState_any (m : M) (word : ByteArray) (nv ev : Value) (w : World) (h1 : IsInts w nv m.next) (h2 : IsBools w ev m.ends) (hst : (Lit.int .i64 m.st).wf = true) (hs : word.size ≤ maxLen) :
    Calls Try.prog 40 #[.agg #[.int .i64 m.st, nv, ev], .string word] w fun e w' => e = .returned (.int .i64 (ringState m word)) ∧ Below w.heap.size w w' := by
  have hM : MachBox w.heap.size m.st nv m.next ev m.ends (w.alloc (.cells #[.int .i64 m.st, nv, ev] 26)) := MachBox.new _ h1 h2
  have M0 := Lib.hid hM
  have q0 : Hid (Below w.heap.size w (w.alloc (.cells #[.int .i64 m.st, nv, ev] 26))) := Lib.hid ((Below.refl _ _).alloc (Nat.le_refl _) _)
  have HWD := Lib.hid (fun W => specWordOk_any word W hs)
  have HMO := Lib.hid (fun W a b => specMachineOk_any m nv ev W a b hst)
  clear hM h1 h2
  by_cases hk : m.ok = true
  · have HK := Lib.hid hk
    have hsh := M.ok_shape hk
    have hst48 : m.st ≤ 48 := hsh.2.1
    have hst1 : 1 ≤ m.st := hsh.1
    rw [hk] at HMO
    clear hk hsh
    by_cases hw : wordOk word = true
    · have HW := Lib.hid hw
      rw [hw] at HWD
      clear hw
      by_cases hz : 0 < word.size
      · have HR := Lib.hid (ringState_yes HK.out HW.out hz)
        have hzI : (0 : Int) < (word.size : Int) := by omega
        have HF := Lib.hid (fun (k : Int) (h0 : -1 ≤ k) (h1 : k < m.st) W a => specL2From_any m k word nv ev W a HK.out HW.out h0 h1)
        clear hz
        go_enter Try.func40, Try.ntmps40
        go_wp2_with fail
        go_loopw [5] (fun i wr => ∃ (k : Nat) (ki : Int), ki = (k : Int) ∧ ki ≤ m.st ∧ i = .int .i64 ki ∧ ringTo m word.data.toList (m.st.toNat - k) ki = ringL m word.data.toList ∧ MachBox w.heap.size m.st nv m.next ev m.ends wr ∧ Below w.heap.size w wr) (fun i _ => m.st.toNat - (intOf i).toNat)
        case atStart => exact ⟨0, 0, rfl, by omega, rfl, rfl, M0.out, q0.out⟩
        case round =>
          obtain ⟨k, ki, hki, hk, rfl, hr, hX, hQ⟩ := hrel
          have MK := Lib.hid hX
          have QK := Lib.hid hQ
          have HKI := Lib.hid hki
          have HRT := Lib.hid hr
          have y10 := hX.c0
          have y11 := hX.c1
          have y12 := hX.c2
          have hq : IntKind.i64.wrap (ki + 1) = ki + 1 := IntWalk.i64_in _ (by omega)
          clear hX hQ hr
          by_cases hlt : ki < m.st
          · have HC := Lib.hid (HF.out ki (by omega) hlt)
            obtain ⟨f, hf⟩ : ∃ f, m.st.toNat - k = f + 1 := ⟨m.st.toNat - k - 1, by omega⟩
            clear hki
            go_wp2_with fail
            refine (HMO.out _ MK.out.ints MK.out.bools).mono ?_
            rintro e w2 ⟨rfl, hb2⟩
            have q2 := Lib.hid (QK.out.trans (hb2.mono QK.out.size))
            have M2 := Lib.hid (MK.out.below hb2)
            have z10 := M2.out.c0
            have z11 := M2.out.c1
            have z12 := M2.out.c2
            clear hb2 y10 y11 y12
            by_cases he : m.goes ki word.data.toList = ki
            · have HV : Hid (ringL m word.data.toList = ki) := Lib.hid (by rw [← HRT.out, hf, ringTo_yes he])
              rw [he] at HC
              clear hf he
              go_wp2_with (first | (go_at_call 49; refine (HWD.out _).mono ?_; rintro e w4 ⟨rfl, rfl⟩) | (go_at_call 81; refine (HC.out _ M2.out.ints).mono ?_; rintro e w3 ⟨rfl, hb3⟩; have q3 := Lib.hid (q2.out.trans (hb3.mono q2.out.size)); clear hb3))
              go_ret
              exact ⟨ret_int (by rw [HR.out, HV.out]), q3.out⟩
            · have HV : Hid (ringTo m word.data.toList (m.st.toNat - (k + 1)) (ki + 1) = ringL m word.data.toList) := Lib.hid (by rw [← HRT.out, hf, ringTo_no he]; congr 1; omega)
              have heb : (m.goes ki word.data.toList == ki) = false := by simpa using he
              generalize m.goes ki word.data.toList = g at *
              clear hf he
              go_wp2_with (first | (go_at_call 49; refine (HWD.out _).mono ?_; rintro e w4 ⟨rfl, rfl⟩) | (go_at_call 81; refine (HC.out _ M2.out.ints).mono ?_; rintro e w3 ⟨rfl, hb3⟩; have q3 := Lib.hid (q2.out.trans (hb3.mono q2.out.size)); have M3 := Lib.hid (M2.out.below hb3); clear hb3))
              go_roundw
              case rel => exact ⟨k + 1, ki + 1, by have := HKI.out; omega, by omega, by first | rfl | rw [hq], HV.out, M3.out, q3.out⟩
              case measure => simp [intOf]; have := HKI.out; omega
          · have HV : Hid (ringL m word.data.toList = -1) := Lib.hid (by rw [← HRT.out, show m.st.toNat - k = 0 by omega]; rfl)
            clear hki
            go_wp2_with fail
            go_ret
            exact ⟨ret_int (by rw [HR.out, HV.out]), QK.out⟩
      · have HR := Lib.hid (ring_no3 m hz)
        obtain rfl := empty_of_size hz
        have hst0 : (0 : Int) < m.st := by omega
        have y10 := M0.out.c0
        have y11 := M0.out.c1
        have y12 := M0.out.c2
        clear hz
        go_enter Try.func40, Try.ntmps40
        go_wp2_with fail
        go_loopw [5] (fun i wr => i = .int .i64 0 ∧ MachBox w.heap.size m.st nv m.next ev m.ends wr ∧ Below w.heap.size w wr) (fun _ _ => 0)
        case atStart => exact ⟨rfl, M0.out, q0.out⟩
        case round =>
          obtain ⟨rfl, hX, hQ⟩ := hrel
          have MK := Lib.hid hX
          have QK := Lib.hid hQ
          have y20 := hX.c0
          have y21 := hX.c1
          have y22 := hX.c2
          clear hX hQ
          go_wp2_with (first | (go_at_call 49; refine (HWD.out _).mono ?_; rintro e w4 ⟨rfl, rfl⟩) | (go_at_call 22; refine (HMO.out _ MK.out.ints MK.out.bools).mono ?_; rintro e w3 ⟨rfl, hb3⟩; have q3 := Lib.hid (QK.out.trans (hb3.mono QK.out.size)); clear hb3))
          go_ret
          exact ⟨ret_int HR.out.symm, q3.out⟩
    · have hwf : wordOk word = false := by simpa using hw
      have HR := Lib.hid (ring_no2 m hwf)
      rw [hwf] at HWD
      have hst0 : (0 : Int) < m.st := by omega
      clear hw hwf
      go_enter Try.func40, Try.ntmps40
      go_wp2_with fail
      go_loopw [5] (fun i wr => i = .int .i64 0 ∧ MachBox w.heap.size m.st nv m.next ev m.ends wr ∧ Below w.heap.size w wr) (fun _ _ => 0)
      case atStart => exact ⟨rfl, M0.out, q0.out⟩
      case round =>
        obtain ⟨rfl, hX, hQ⟩ := hrel
        have MK := Lib.hid hX
        have QK := Lib.hid hQ
        have y20 := hX.c0
        have y21 := hX.c1
        have y22 := hX.c2
        clear hX hQ
        go_wp2_with (first | (go_at_call 49; refine (HWD.out _).mono ?_; rintro e w4 ⟨rfl, rfl⟩) | (go_at_call 22; refine (HMO.out _ MK.out.ints MK.out.bools).mono ?_; rintro e w3 ⟨rfl, hb3⟩; have q3 := Lib.hid (QK.out.trans (hb3.mono QK.out.size)); clear hb3))
        go_ret
        exact ⟨ret_int HR.out.symm, q3.out⟩
  · have hkf : m.ok = false := by simpa using hk
    have HR := Lib.hid (ring_no1 word hkf)
    rw [hkf] at HMO
    clear hk hkf
    go_enter Try.func40, Try.ntmps40
    go_wp2_with fail
    go_loopw [5] (fun i wr => i = .int .i64 0 ∧ MachBox w.heap.size m.st nv m.next ev m.ends wr ∧ Below w.heap.size w wr) (fun _ _ => 0)
    case atStart => exact ⟨rfl, M0.out, q0.out⟩
    case round =>
      obtain ⟨rfl, hX, hQ⟩ := hrel
      have MK := Lib.hid hX
      have QK := Lib.hid hQ
      have y20 := hX.c0
      have y21 := hX.c1
      have y22 := hX.c2
      clear hX hQ
      by_cases hp : (0 : Int) < m.st
      · go_wp2_with (go_at_call 22; refine (HMO.out _ MK.out.ints MK.out.bools).mono ?_; rintro e w3 ⟨rfl, hb3⟩; have q3 := Lib.hid (QK.out.trans (hb3.mono QK.out.size)); clear hb3)
        go_ret
        exact ⟨ret_int HR.out.symm, q3.out⟩
      · go_wp2_with fail
        go_ret
        exact ⟨ret_int HR.out.symm, QK.out⟩

theorem implRingOk_any (m : M) (word : ByteArray) (nv ev : Value) (w : World) (h1 : IsInts w nv m.next) (h2 : IsBools w ev m.ends) (hst : (Lit.int .i64 m.st).wf = true) (hs : word.size ≤ maxLen) :
    Calls Try.prog 42 #[.agg #[.int .i64 m.st, nv, ev], .string word] w fun e w' => e = .returned (.bool (ringOk m word)) ∧ Below w.heap.size w w' := by
  have M0 := Lib.hid (MachBox.new (st := m.st) 26 h1 h2)
  have q0 : Hid (Below w.heap.size w (w.alloc (.cells #[.int .i64 m.st, nv, ev] 26))) := Lib.hid ((Below.refl _ _).alloc (Nat.le_refl _) _)
  clear h1 h2
  go_enter Try.func42, Try.ntmps42
  go_wp2_with fail
  refine (implRingState_any m word nv ev _ M0.out.ints M0.out.bools hst hs).mono ?_
  rintro e w1 ⟨rfl, hb1⟩
  have q1 := Lib.hid (q0.out.trans (hb1.mono q0.out.size))
  clear hb1
  have HE : Hid (ringOk m word = decide (0 ≤ ringState m word)) := Lib.hid rfl
  generalize ringState m word = r at *
  go_wp2_with fail
  go_ret
  exact ⟨ret_bool HE.out.symm, q1.out⟩
theorem specRingOk_any (m : M) (word : ByteArray) (nv ev : Value) (w : World) (h1 : IsInts w nv m.next) (h2 : IsBools w ev m.ends) (hst : (Lit.int .i64 m.st).wf = true) (hs : word.size ≤ maxLen) :
    Calls Try.prog 43 #[.agg #[.int .i64 m.st, nv, ev], .string word] w fun e w' => e = .returned (.bool (ringOk m word)) ∧ Below w.heap.size w w' := by
  have M0 := Lib.hid (MachBox.new (st := m.st) 26 h1 h2)
  have q0 : Hid (Below w.heap.size w (w.alloc (.cells #[.int .i64 m.st, nv, ev] 26))) := Lib.hid ((Below.refl _ _).alloc (Nat.le_refl _) _)
  clear h1 h2
  go_enter Try.func43, Try.ntmps43
  go_wp2_with fail
  refine (specRingState_any m word nv ev _ M0.out.ints M0.out.bools hst hs).mono ?_
  rintro e w1 ⟨rfl, hb1⟩
  have q1 := Lib.hid (q0.out.trans (hb1.mono q0.out.size))
  clear hb1
  have HE : Hid (ringOk m word = decide (0 ≤ ringState m word)) := Lib.hid rfl
  generalize ringState m word = r at *
  go_wp2_with fail
  go_ret
  exact ⟨ret_bool HE.out.symm, q1.out⟩
end Go.Proofs.Ytpcependeealfaa
