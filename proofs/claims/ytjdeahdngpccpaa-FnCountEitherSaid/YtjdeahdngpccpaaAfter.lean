/- StateAfter and TakesOk, the model's and the program's. No condition. -/
import Derived.Test.YtjdeahdngpccpaaStep
import Derived.Test.YtjdeahdngpccpaaImplMachOk
import Derived.Deep.RegionWith
namespace Go.Proofs.Ytjdeahdngpccpaa
open Go.RowKit

theorem idx_letter {c : UInt8} (h : isL c = true) : Lib.indexByte [114, 100, 110] c = letterOf (c.toNat : Int) := by
  simp only [isL, Bool.or_eq_true, beq_iff_eq] at h
  rcases h with (rfl | rfl) | rfl <;> decide

theorem idxLetter_any (c : UInt8) (h : isL c = true) (W : World) :
    Calls Try.prog 121 #[.string ⟨#[114, 100, 110]⟩, .int .u8 (c.toNat : Int)] W fun e w' => e = .returned (.int .i64 (letterOf (c.toNat : Int))) ∧ w' = W := by
  refine (strings_IndexByte ⟨#[114, 100, 110]⟩ (c.toNat : Int) W).mono fun e w' hh => ⟨hh.1.trans (ret_int ?_), hh.2⟩
  have hix : (c.toNat : Int).toNat.toUInt8 = c := by simp
  rw [hix]; exact idx_letter h

theorem implNextOf_any (m : M) (s l : Int) (nv ev : Value) (w : World) (h1 : IsInts w nv m.next) (hk : m.ok = true) (s0 : -1 ≤ s) (s1 : s < m.st) (l0 : 0 ≤ l) (l1 : l ≤ 2) :
    Calls Try.prog 78 #[.agg #[.int .i64 m.st, nv, ev], .int .i64 s, .int .i64 l] w fun e w' => e = .returned (.int .i64 (m.nx s l)) ∧ Below w.heap.size w w' := by
  have hsh := M.ok_shape hk
  by_cases hs : s = -1
  · subst hs
    have HN := Lib.hid (M.nx_neg m (-1) l (by omega))
    clear hsh hk
    go_enter Try.func78, Try.ntmps78
    go_wp2
    go_ret
    exact ⟨ret_int HN.out.symm, (Below.refl _ _).alloc (Nat.le_refl _) _⟩
  · obtain ⟨k, hk1, hk2, he⟩ := M.nx_at hk s l (by omega) s1 l0 l1
    obtain ⟨a, cap, rfl, ha1, ha2, ha⟩ := h1
    obtain ⟨g, off, rfl, hg, hc⟩ := ha.resolve_left (fun h => by rw [h] at hk2; exact absurd hk2 (Nat.not_lt_zero k))
    have hcell := hc k hk2
    have HE := Lib.hid he
    rw [he]
    have hkl : k < m.next.length := hk2
    generalize m.next[k] = c at hcell HE
    clear he hk hc ha hk2
    generalize m.next.length = n at *
    generalize m.st = st at *
    unfold maxLen at ha2
    have hq1 : IntKind.i64.wrap (s * 3) = s * 3 := IntWalk.i64_in _ (by omega)
    have hq2 : IntKind.i64.wrap (s * 3 + l) = s * 3 + l := IntWalk.i64_in _ (by omega)
    have hq3 : s * 3 + l = k := by omega
    have hs0 : 0 ≤ s := by omega
    clear hk1
    have hb1 : (s == -1) = false := by simpa using hs
    go_enter Try.func78, Try.ntmps78
    go_wp2
    go_ret
    exact ⟨rfl, (Below.refl _ _).alloc (Nat.le_refl _) _⟩

theorem goes_step_le {m : M} (hk : m.ok = true) {s : Int} {word : ByteArray} (hw : wordOk word = true) (s0 : -1 ≤ s) (s1 : s < m.st) (k : Nat) : -1 ≤ m.goes s (word.data.toList.take k) ∧ m.goes s (word.data.toList.take k) < m.st :=
  M.goes_bd hk s _ s0 s1 (allL_take (wordOk_all hw) k)

set_option maxHeartbeats 1600000 in
theorem specL2From_any (m : M) (s : Int) (word : ByteArray) (nv ev : Value) (w : World) (h1 : IsInts w nv m.next) (hk : m.ok = true) (hw : wordOk word = true) (s0 : -1 ≤ s) (s1 : s < m.st) :
    Calls Try.prog 127 #[.agg #[.int .i64 m.st, nv, ev], .int .i64 s, .string word] w fun e w' => e = .returned (.int .i64 (m.goes s word.data.toList)) ∧ Below w.heap.size w w' := by
  have hsz := wordOk_size hw
  obtain ⟨a, cap, rfl, ha1, ha2, ha⟩ := h1
  unfold maxLen at ha2
  have HA := Lib.hid ha
  have HK := Lib.hid hk
  have HW := Lib.hid hw
  have hsh := M.ok_shape hk
  have hl : m.next.length ≤ 144 := by omega
  have hst : m.st ≤ 48 := hsh.2.1
  clear hsh
  clear ha hk hw
  go_enter Try.func127, Try.ntmps127
  go_wp2
  go_loopw [1, 7] (fun j i wr => ∃ k : Nat, k ≤ word.size ∧ i = .int .i64 k ∧ j = .int .i64 (m.goes s (word.data.toList.take k)) ∧ ∃ n, wr = (w.alloc (.cells #[.int .i64 m.st, .slice a m.next.length cap, ev] 26)).drewN n) (fun _ i _ => word.size - (intOf i).toNat)
  case atStart => exact ⟨0, Nat.zero_le _, rfl, rfl, 0, rfl⟩
  case round =>
    obtain ⟨k, hkk, rfl, rfl, n, rfl⟩ := hrel
    have hbel : Below w.heap.size w ((w.alloc (.cells #[.int .i64 m.st, .slice a m.next.length cap, ev] 26)).drewN n) := below_drewN ((Below.refl _ _).alloc (Nat.le_refl _) _) n
    have hx1 : ((w.alloc (.cells #[.int .i64 m.st, .slice a m.next.length cap, ev] 26)).drewN n).cell? ⟨w.heap.size, 1, none⟩ = some (.slice a m.next.length cap) := World.cell?_alloc_new w _ _ 1
    have hbd := goes_step_le HK.out HW.out s0 s1 k
    by_cases hlt : k < word.size
    · have HSTEP := Lib.hid (M.goes_snoc m s word k hlt)
      have hL := wordOk_at HW.out k hlt
      have hlb := letter_bd hL
      by_cases hneg : m.goes s (word.data.toList.take k) < 0
      · have HEND := Lib.hid (M.goes_cut m s word k (by omega))
        generalize m.goes s (word.data.toList.take k) = p at *
        go_wp2
        go_ret
        exact ⟨ret_int (by rw [HEND.out]; omega), hbel⟩
      · obtain ⟨i, hi1, hi2, hi3⟩ := M.nx_at HK.out (m.goes s (word.data.toList.take k)) (letterOf (word[k].toNat : Int)) (by omega) hbd.2 hlb.1 hlb.2
        obtain ⟨g, off, rfl, hg, hc⟩ := HA.out.resolve_left (fun h => by rw [h] at hi2; exact absurd hi2 (Nat.not_lt_zero i))
        have hcell := (hbel.cell (p := ⟨g, off + i, none⟩) hg).trans (hc i hi2)
        have HE := Lib.hid (HSTEP.out.trans hi3)
        clear HSTEP hi3 hc hneg HA
        have HV : Hid (∀ q, ∃ n', (((w.alloc (.cells #[.int .i64 m.st, .slice (some ⟨g, off, none⟩) m.next.length cap, ev] 26)).drewN n).drewN q) = (w.alloc (.cells #[.int .i64 m.st, .slice (some ⟨g, off, none⟩) m.next.length cap, ev] 26)).drewN n') := by
          have := fun q => (⟨n + q, by rw [World.drewN_drewN]⟩ : ∃ n', (((w.alloc (.cells #[.int .i64 m.st, .slice (some ⟨g, off, none⟩) m.next.length cap, ev] 26)).drewN n).drewN q) = (w.alloc (.cells #[.int .i64 m.st, .slice (some ⟨g, off, none⟩) m.next.length cap, ev] 26)).drewN n')
          exact Lib.hid this
        generalize ((w.alloc (.cells #[.int .i64 m.st, .slice (some ⟨g, off, none⟩) m.next.length cap, ev] 26)).drewN n) = W at hbel hx1 hcell HV ⊢
        generalize m.next[i] = d at hcell HE
        generalize m.goes s (word.data.toList.take k) = p at *
        have HLT := Lib.hid (l1Letter_any (word[k].toNat : Int))
        generalize letterOf (word[k].toNat : Int) = l at *
        have hq1 : IntKind.i64.wrap (3 * p) = 3 * p := IntWalk.i64_in _ (by omega)
        have hq2 : IntKind.i64.wrap (3 * p + l) = 3 * p + l := IntWalk.i64_in _ (by omega)
        have hq3 : 3 * p + l = i := by omega
        have hp0 : 0 ≤ p := by omega
        clear hi1 hlb hbd
        go_wp2
        go_quiet ((go_at_call 86; exact Calls.quiet_of_same ((HLT.out _).mono fun _ _ ⟨h, g⟩ => ⟨h, g.symm⟩)))
        clear hq1 hq2 hq3
        go_wp2
        go_roundw
        case rel => exact ⟨k + 1, by omega, by go_num, by rw [HE.out], HV.out _⟩
        case measure => simp [intOf]; omega
    · obtain rfl : k = word.size := by omega
      have HG := Lib.hid (M.goes_all m s word)
      generalize m.goes s (word.data.toList.take word.size) = p at *
      go_wp2
      go_ret
      exact ⟨ret_int HG.out, hbel⟩
theorem M.after_not {m : M} (word : ByteArray) (h : m.ok = false) : m.after word = -2 := by rw [M.after, h]; rfl
theorem M.after_now {m : M} (word : ByteArray) (h : wordOk word = false) : m.after word = -2 := by rw [M.after, h, Bool.and_false]; rfl
theorem M.after_yes {m : M} {word : ByteArray} (h : m.ok = true) (g : wordOk word = true) : m.after word = m.goes 0 word.data.toList := by rw [M.after, h, g]; rfl

theorem specStateAfter_any (m : M) (word : ByteArray) (nv ev : Value) (w : World) (h1 : IsInts w nv m.next) (h2 : IsBools w ev m.ends) (hst : (Lit.int .i64 m.st).wf = true) (hs : word.size ≤ maxLen) :
    Calls Try.prog 88 #[.agg #[.int .i64 m.st, nv, ev], .string word] w fun e w' => e = .returned (.int .i64 (m.after word)) ∧ Below w.heap.size w w' := by
  have hM : MachBox w.heap.size m.st nv m.next ev m.ends (w.alloc (.cells #[.int .i64 m.st, nv, ev] 26)) := MachBox.new _ h1 h2
  have M0 := Lib.hid hM
  have q0 : Hid (Below w.heap.size w (w.alloc (.cells #[.int .i64 m.st, nv, ev] 26))) := Lib.hid ((Below.refl _ _).alloc (Nat.le_refl _) _)
  clear hM h1 h2
  go_enter Try.func88, Try.ntmps88
  go_wp2_with fail
  refine (specMachineOk_any m nv ev _ M0.out.ints M0.out.bools hst).mono ?_
  rintro e w1 ⟨rfl, hb1⟩
  have M1 := Lib.hid (M0.out.below hb1)
  have q1 := Lib.hid (q0.out.trans (hb1.mono q0.out.size))
  clear hb1
  have y10 := M1.out.c0
  have y11 := M1.out.c1
  have y12 := M1.out.c2
  by_cases hk : m.ok = true
  · have HK := Lib.hid hk
    rw [hk]
    clear hk
    go_wp2_with fail
    refine (specWordOk_any word _ hs).mono ?_
    rintro e w2 ⟨rfl, rfl⟩
    by_cases hw : wordOk word = true
    · have HW := Lib.hid hw
      have HR := Lib.hid (M.after_yes HK.out hw)
      rw [hw]
      clear hw
      go_wp2_with fail
      refine (specL2From_any m 0 word nv ev _ M1.out.ints HK.out HW.out (by omega) (by have := M.ok_shape HK.out; omega)).mono ?_
      rintro e w2 ⟨rfl, hb2⟩
      have q2 := Lib.hid (q1.out.trans (hb2.mono q1.out.size))
      clear hb2
      go_wp2_with fail
      go_ret
      exact ⟨ret_int HR.out.symm, q2.out⟩
    · have hwf : wordOk word = false := by simpa using hw
      have HR := Lib.hid (M.after_now (m := m) word hwf)
      rw [hwf]
      clear hw hwf
      go_wp2_with fail
      go_ret
      exact ⟨ret_int HR.out.symm, q1.out⟩
  · have hkf : m.ok = false := by simpa using hk
    have HR := Lib.hid (M.after_not word hkf)
    rw [hkf]
    clear hk hkf
    go_wp2_with fail
    go_ret
    exact ⟨ret_int HR.out.symm, q1.out⟩

set_option maxHeartbeats 1600000 in
theorem implStateAfter_any (m : M) (word : ByteArray) (nv ev : Value) (w : World) (h1 : IsInts w nv m.next) (h2 : IsBools w ev m.ends) (hst : (Lit.int .i64 m.st).wf = true) (hs : word.size ≤ maxLen) :
    Calls Try.prog 70 #[.agg #[.int .i64 m.st, nv, ev], .string word] w fun e w' => e = .returned (.int .i64 (m.after word)) ∧ Below w.heap.size w w' := by
  have hM : MachBox w.heap.size m.st nv m.next ev m.ends (w.alloc (.cells #[.int .i64 m.st, nv, ev] 26)) := MachBox.new _ h1 h2
  have M0 := Lib.hid hM
  have q0 : Hid (Below w.heap.size w (w.alloc (.cells #[.int .i64 m.st, nv, ev] 26))) := Lib.hid ((Below.refl _ _).alloc (Nat.le_refl _) _)
  clear hM h1 h2
  go_enter Try.func70, Try.ntmps70
  go_wp2_with fail
  refine (implMachineOk_any m nv ev _ M0.out.ints M0.out.bools hst).mono ?_
  rintro e w1 ⟨rfl, hb1⟩
  have M1 := Lib.hid (M0.out.below hb1)
  have q1 := Lib.hid (q0.out.trans (hb1.mono q0.out.size))
  clear hb1
  have y10 := M1.out.c0
  have y11 := M1.out.c1
  have y12 := M1.out.c2
  by_cases hk : m.ok = true
  · have HK := Lib.hid hk
    rw [hk]
    clear hk
    go_wp2_with fail
    refine (implWordOk_any word _ hs).mono ?_
    rintro e w2 ⟨rfl, rfl⟩
    by_cases hw : wordOk word = true
    · have HW := Lib.hid hw
      have HR := Lib.hid (M.after_yes HK.out hw)
      rw [hw]
      have hsz := wordOk_size hw
      clear hw hs
      go_wp2_with fail
      clear y10 y11 y12
      go_loopw [5, 17] (fun j i wr => ∃ k : Nat, k ≤ word.size ∧ i = .int .i64 k ∧ j = .int .i64 (m.goes 0 (word.data.toList.take k)) ∧ MachBox w.heap.size m.st nv m.next ev m.ends wr ∧ Below w.heap.size w wr) (fun _ i _ => word.size - (intOf i).toNat)
      case atStart => exact ⟨0, Nat.zero_le _, rfl, rfl, M1.out, q1.out⟩
      case round =>
        obtain ⟨k, hkk, rfl, rfl, hMk, hqk⟩ := hrel
        have MK := Lib.hid hMk
        have QK := Lib.hid hqk
        have y10 := hMk.c0
        have y11 := hMk.c1
        have y12 := hMk.c2
        clear hMk hqk
        by_cases hlt : k < word.size
        · have HSTEP := Lib.hid (M.goes_snoc m 0 word k hlt)
          have hbd := Lib.hid (goes_step_le (s := 0) HK.out HW.out (by omega) (by have := M.ok_shape HK.out; omega) k)
          have hL := wordOk_at HW.out k hlt
          have hlb := Lib.hid (letter_bd hL)
          have HC := Lib.hid (idxLetter_any word[k] hL)
          clear hL
          generalize letterOf (word[k].toNat : Int) = l at *
          generalize m.goes 0 (word.data.toList.take k) = p at *
          go_wp2_with fail
          have MKd := Lib.hid (MK.out.below (Below.refl _ wr).drew)
          have z10 := MKd.out.c0
          have z11 := MKd.out.c1
          have z12 := MKd.out.c2
          go_region_with (first | (go_at_call 121; refine (HC.out _).mono ?_; rintro e w7 ⟨rfl, rfl⟩) | (go_at_call 78; refine (implNextOf_any m p l nv ev _ MKd.out.ints HK.out hbd.out.1 hbd.out.2 hlb.out.1 hlb.out.2).mono ?_; rintro e w8 ⟨rfl, hb8⟩))
          all_goals
            clear z10 z11 z12 y10 y11 y12
            go_wp2
            go_roundw
            case rel => exact ⟨k + 1, by omega, by go_num, by rw [HSTEP.out], MKd.out.below hb8, QK.out.drew.trans (hb8.mono QK.out.size)⟩
            case measure => simp [intOf]; omega
        · obtain rfl : k = word.size := by omega
          have HG := Lib.hid (M.goes_all m 0 word)
          generalize m.goes 0 (word.data.toList.take word.size) = p at *
          go_wp2
          go_ret
          exact ⟨ret_int (HG.out.trans HR.out.symm), QK.out⟩
    · have hwf : wordOk word = false := by simpa using hw
      have HR := Lib.hid (M.after_now (m := m) word hwf)
      rw [hwf]
      clear hw hwf
      go_wp2_with fail
      go_ret
      exact ⟨ret_int HR.out.symm, q1.out⟩
  · have hkf : m.ok = false := by simpa using hk
    have HR := Lib.hid (M.after_not word hkf)
    rw [hkf]
    clear hk hkf
    go_wp2_with fail
    go_ret
    exact ⟨ret_int HR.out.symm, q1.out⟩
end Go.Proofs.Ytjdeahdngpccpaa
