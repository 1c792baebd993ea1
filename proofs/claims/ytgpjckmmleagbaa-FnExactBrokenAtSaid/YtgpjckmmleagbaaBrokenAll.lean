/- StateAfter and TakesOk, the model's and the program's. No condition. The machine of a rule, and where a word breaks a rule, as plain data. No program's walk, no condition. spec.l3Next: the state of a rule after a letter. No condition. MachineFor on the program's side, for every rule. No condition. spec.BrokenAt. No condition. impl.BrokenAt. No condition. The fold over the letters of a word, for BrokenAt. No condition. BrokenAt on the program's side, for every rule and text. No condition. The walk of FnExactBrokenAt: true at every rule and text. No condition. -/
import Derived.Test.YtgpjckmmleagbaaStep
import Derived.Test.YtgpjckmmleagbaaImplMachOk
import Derived.Deep.RegionWith
import Derived.Test.YtgpjckmmleagbaaMakers
import Derived.Test.YtgpjckmmleagbaaKeeps
import Derived.Test.YtgpjckmmleagbaaFor0
import Derived.Test.YtgpjckmmleagbaaFor1
import Derived.Test.YtgpjckmmleagbaaFor2
import Derived.Test.YtgpjckmmleagbaaFor3
import Derived.Test.YtgpjckmmleagbaaFor4
import Derived.Test.YtgpjckmmleagbaaTrim

namespace Go.Proofs.Ytgpjckmmleagbaa
open Go.RowKit

theorem idx_letter {c : UInt8} (h : isL c = true) : Lib.indexByte [114, 100, 110] c = letterOf (c.toNat : Int) := by
  simp only [isL, Bool.or_eq_true, beq_iff_eq] at h
  rcases h with (rfl | rfl) | rfl <;> decide

theorem idxLetter_any (c : UInt8) (h : isL c = true) (W : World) :
    Calls Try.prog 96 #[.string ⟨#[114, 100, 110]⟩, .int .u8 (c.toNat : Int)] W fun e w' => e = .returned (.int .i64 (letterOf (c.toNat : Int))) ∧ w' = W := by
  refine (strings_IndexByte ⟨#[114, 100, 110]⟩ (c.toNat : Int) W).mono fun e w' hh => ⟨hh.1.trans (ret_int ?_), hh.2⟩
  have hix : (c.toNat : Int).toNat.toUInt8 = c := by simp
  rw [hix]; exact idx_letter h

theorem implNextOf_any (m : M) (s l : Int) (nv ev : Value) (w : World) (h1 : IsInts w nv m.next) (hk : m.ok = true) (s0 : -1 ≤ s) (s1 : s < m.st) (l0 : 0 ≤ l) (l1 : l ≤ 2) :
    Calls Try.prog 75 #[.agg #[.int .i64 m.st, nv, ev], .int .i64 s, .int .i64 l] w fun e w' => e = .returned (.int .i64 (m.nx s l)) ∧ Below w.heap.size w w' := by
  have hsh := M.ok_shape hk
  by_cases hs : s = -1
  · subst hs
    have HN := Lib.hid (M.nx_neg m (-1) l (by omega))
    clear hsh hk
    go_enter Try.func75, Try.ntmps75
    go_wp2
    go_ret
    exact ⟨ret_int HN.out.symm, (Below.refl _ _).alloc (Nat.le_refl _) _⟩
  · obtain ⟨k, hk1, hk2, he⟩ := M.nx_at hk s l (by omega) s1 l0 l1
    obtain ⟨a, cap, rfl, ha1, ha2, ha⟩ := h1
    obtain ⟨g, off, rfl, hg, hc⟩ := ha.resolve_left (fun h => by rw [h] at hk2; exact absurd hk2 (Nat.not_lt_zero k))
    have hcell := hc k hk2
    have HE := Lib.hid he
    rw [he]
    have hkl : k < m.next.length := hk2
    generalize m.next[k] = c at hcell HE
    clear he hk hc ha hk2
    generalize m.next.length = n at *
    generalize m.st = st at *
    unfold maxLen at ha2
    have hq1 : IntKind.i64.wrap (s * 3) = s * 3 := IntWalk.i64_in _ (by omega)
    have hq2 : IntKind.i64.wrap (s * 3 + l) = s * 3 + l := IntWalk.i64_in _ (by omega)
    have hq3 : s * 3 + l = k := by omega
    have hs0 : 0 ≤ s := by omega
    clear hk1
    have hb1 : (s == -1) = false := by simpa using hs
    go_enter Try.func75, Try.ntmps75
    go_wp2
    go_ret
    exact ⟨rfl, (Below.refl _ _).alloc (Nat.le_refl _) _⟩

theorem goes_step_le {m : M} (hk : m.ok = true) {s : Int} {word : ByteArray} (hw : wordOk word = true) (s0 : -1 ≤ s) (s1 : s < m.st) (k : Nat) : -1 ≤ m.goes s (word.data.toList.take k) ∧ m.goes s (word.data.toList.take k) < m.st :=
  M.goes_bd hk s _ s0 s1 (allL_take (wordOk_all hw) k)

set_option maxHeartbeats 1600000 in
theorem specL2From_any (m : M) (s : Int) (word : ByteArray) (nv ev : Value) (w : World) (h1 : IsInts w nv m.next) (hk : m.ok = true) (hw : wordOk word = true) (s0 : -1 ≤ s) (s1 : s < m.st) :
    Calls Try.prog 95 #[.agg #[.int .i64 m.st, nv, ev], .int .i64 s, .string word] w fun e w' => e = .returned (.int .i64 (m.goes s word.data.toList)) ∧ Below w.heap.size w w' := by
  have hsz := wordOk_size hw
  obtain ⟨a, cap, rfl, ha1, ha2, ha⟩ := h1
  unfold maxLen at ha2
  have HA := Lib.hid ha
  have HK := Lib.hid hk
  have HW := Lib.hid hw
  have hsh := M.ok_shape hk
  have hl : m.next.length ≤ 144 := by omega
  have hst : m.st ≤ 48 := hsh.2.1
  clear hsh
  clear ha hk hw
  go_enter Try.func95, Try.ntmps95
  go_wp2
  go_loopw [1, 7] (fun j i wr => ∃ k : Nat, k ≤ word.size ∧ i = .int .i64 k ∧ j = .int .i64 (m.goes s (word.data.toList.take k)) ∧ ∃ n, wr = (w.alloc (.cells #[.int .i64 m.st, .slice a m.next.length cap, ev] 28)).drewN n) (fun _ i _ => word.size - (intOf i).toNat)
  case atStart => exact ⟨0, Nat.zero_le _, rfl, rfl, 0, rfl⟩
  case round =>
    obtain ⟨k, hkk, rfl, rfl, n, rfl⟩ := hrel
    have hbel : Below w.heap.size w ((w.alloc (.cells #[.int .i64 m.st, .slice a m.next.length cap, ev] 28)).drewN n) := below_drewN ((Below.refl _ _).alloc (Nat.le_refl _) _) n
    have hx1 : ((w.alloc (.cells #[.int .i64 m.st, .slice a m.next.length cap, ev] 28)).drewN n).cell? ⟨w.heap.size, 1, none⟩ = some (.slice a m.next.length cap) := World.cell?_alloc_new w _ _ 1
    have hbd := goes_step_le HK.out HW.out s0 s1 k
    by_cases hlt : k < word.size
    · have HSTEP := Lib.hid (M.goes_snoc m s word k hlt)
      have hL := wordOk_at HW.out k hlt
      have hlb := letter_bd hL
      by_cases hneg : m.goes s (word.data.toList.take k) < 0
      · have HEND := Lib.hid (M.goes_cut m s word k (by omega))
        generalize m.goes s (word.data.toList.take k) = p at *
        go_wp2
        go_ret
        exact ⟨ret_int (by rw [HEND.out]; omega), hbel⟩
      · obtain ⟨i, hi1, hi2, hi3⟩ := M.nx_at HK.out (m.goes s (word.data.toList.take k)) (letterOf (word[k].toNat : Int)) (by omega) hbd.2 hlb.1 hlb.2
        obtain ⟨g, off, rfl, hg, hc⟩ := HA.out.resolve_left (fun h => by rw [h] at hi2; exact absurd hi2 (Nat.not_lt_zero i))
        have hcell := (hbel.cell (p := ⟨g, off + i, none⟩) hg).trans (hc i hi2)
        have HE := Lib.hid (HSTEP.out.trans hi3)
        clear HSTEP hi3 hc hneg HA
        have HV : Hid (∀ q, ∃ n', (((w.alloc (.cells #[.int .i64 m.st, .slice (some ⟨g, off, none⟩) m.next.length cap, ev] 28)).drewN n).drewN q) = (w.alloc (.cells #[.int .i64 m.st, .slice (some ⟨g, off, none⟩) m.next.length cap, ev] 28)).drewN n') := by
          have := fun q => (⟨n + q, by rw [World.drewN_drewN]⟩ : ∃ n', (((w.alloc (.cells #[.int .i64 m.st, .slice (some ⟨g, off, none⟩) m.next.length cap, ev] 28)).drewN n).drewN q) = (w.alloc (.cells #[.int .i64 m.st, .slice (some ⟨g, off, none⟩) m.next.length cap, ev] 28)).drewN n')
          exact Lib.hid this
        generalize ((w.alloc (.cells #[.int .i64 m.st, .slice (some ⟨g, off, none⟩) m.next.length cap, ev] 28)).drewN n) = W at hbel hx1 hcell HV ⊢
        generalize m.next[i] = d at hcell HE
        generalize m.goes s (word.data.toList.take k) = p at *
        have HLT := Lib.hid (l1Letter_any (word[k].toNat : Int))
        generalize letterOf (word[k].toNat : Int) = l at *
        have hq1 : IntKind.i64.wrap (3 * p) = 3 * p := IntWalk.i64_in _ (by omega)
        have hq2 : IntKind.i64.wrap (3 * p + l) = 3 * p + l := IntWalk.i64_in _ (by omega)
        have hq3 : 3 * p + l = i := by omega
        have hp0 : 0 ≤ p := by omega
        clear hi1 hlb hbd
        go_wp2
        go_quiet ((go_at_call 109; exact Calls.quiet_of_same ((HLT.out _).mono fun _ _ ⟨h, g⟩ => ⟨h, g.symm⟩)))
        clear hq1 hq2 hq3
        go_wp2
        go_roundw
        case rel => exact ⟨k + 1, by omega, by go_num, by rw [HE.out], HV.out _⟩
        case measure => simp [intOf]; omega
    · obtain rfl : k = word.size := by omega
      have HG := Lib.hid (M.goes_all m s word)
      generalize m.goes s (word.data.toList.take word.size) = p at *
      go_wp2
      go_ret
      exact ⟨ret_int HG.out, hbel⟩
theorem M.after_not {m : M} (word : ByteArray) (h : m.ok = false) : m.after word = -2 := by rw [M.after, h]; rfl
theorem M.after_now {m : M} (word : ByteArray) (h : wordOk word = false) : m.after word = -2 := by rw [M.after, h, Bool.and_false]; rfl
theorem M.after_yes {m : M} {word : ByteArray} (h : m.ok = true) (g : wordOk word = true) : m.after word = m.goes 0 word.data.toList := by rw [M.after, h, g]; rfl

theorem specStateAfter_any (m : M) (word : ByteArray) (nv ev : Value) (w : World) (h1 : IsInts w nv m.next) (h2 : IsBools w ev m.ends) (hst : (Lit.int .i64 m.st).wf = true) (hs : word.size ≤ maxLen) :
    Calls Try.prog 48 #[.agg #[.int .i64 m.st, nv, ev], .string word] w fun e w' => e = .returned (.int .i64 (m.after word)) ∧ Below w.heap.size w w' := by
  have hM : MachBox w.heap.size m.st nv m.next ev m.ends (w.alloc (.cells #[.int .i64 m.st, nv, ev] 28)) := MachBox.new _ h1 h2
  have M0 := Lib.hid hM
  have q0 : Hid (Below w.heap.size w (w.alloc (.cells #[.int .i64 m.st, nv, ev] 28))) := Lib.hid ((Below.refl _ _).alloc (Nat.le_refl _) _)
  clear hM h1 h2
  go_enter Try.func48, Try.ntmps48
  go_wp2_with fail
  refine (specMachineOk_any m nv ev _ M0.out.ints M0.out.bools hst).mono ?_
  rintro e w1 ⟨rfl, hb1⟩
  have M1 := Lib.hid (M0.out.below hb1)
  have q1 := Lib.hid (q0.out.trans (hb1.mono q0.out.size))
  clear hb1
  have y10 := M1.out.c0
  have y11 := M1.out.c1
  have y12 := M1.out.c2
  by_cases hk : m.ok = true
  · have HK := Lib.hid hk
    rw [hk]
    clear hk
    go_wp2_with fail
    refine (specWordOk_any word _ hs).mono ?_
    rintro e w2 ⟨rfl, rfl⟩
    by_cases hw : wordOk word = true
    · have HW := Lib.hid hw
      have HR := Lib.hid (M.after_yes HK.out hw)
      rw [hw]
      clear hw
      go_wp2_with fail
      refine (specL2From_any m 0 word nv ev _ M1.out.ints HK.out HW.out (by omega) (by have := M.ok_shape HK.out; omega)).mono ?_
      rintro e w2 ⟨rfl, hb2⟩
      have q2 := Lib.hid (q1.out.trans (hb2.mono q1.out.size))
      clear hb2
      go_wp2_with fail
      go_ret
      exact ⟨ret_int HR.out.symm, q2.out⟩
    · have hwf : wordOk word = false := by simpa using hw
      have HR := Lib.hid (M.after_now (m := m) word hwf)
      rw [hwf]
      clear hw hwf
      go_wp2_with fail
      go_ret
      exact ⟨ret_int HR.out.symm, q1.out⟩
  · have hkf : m.ok = false := by simpa using hk
    have HR := Lib.hid (M.after_not word hkf)
    rw [hkf]
    clear hk hkf
    go_wp2_with fail
    go_ret
    exact ⟨ret_int HR.out.symm, q1.out⟩

set_option maxHeartbeats 1600000 in
theorem implStateAfter_any (m : M) (word : ByteArray) (nv ev : Value) (w : World) (h1 : IsInts w nv m.next) (h2 : IsBools w ev m.ends) (hst : (Lit.int .i64 m.st).wf = true) (hs : word.size ≤ maxLen) :
    Calls Try.prog 51 #[.agg #[.int .i64 m.st, nv, ev], .string word] w fun e w' => e = .returned (.int .i64 (m.after word)) ∧ Below w.heap.size w w' := by
  have hM : MachBox w.heap.size m.st nv m.next ev m.ends (w.alloc (.cells #[.int .i64 m.st, nv, ev] 28)) := MachBox.new _ h1 h2
  have M0 := Lib.hid hM
  have q0 : Hid (Below w.heap.size w (w.alloc (.cells #[.int .i64 m.st, nv, ev] 28))) := Lib.hid ((Below.refl _ _).alloc (Nat.le_refl _) _)
  clear hM h1 h2
  go_enter Try.func51, Try.ntmps51
  go_wp2_with fail
  refine (implMachineOk_any m nv ev _ M0.out.ints M0.out.bools hst).mono ?_
  rintro e w1 ⟨rfl, hb1⟩
  have M1 := Lib.hid (M0.out.below hb1)
  have q1 := Lib.hid (q0.out.trans (hb1.mono q0.out.size))
  clear hb1
  have y10 := M1.out.c0
  have y11 := M1.out.c1
  have y12 := M1.out.c2
  by_cases hk : m.ok = true
  · have HK := Lib.hid hk
    rw [hk]
    clear hk
    go_wp2_with fail
    refine (implWordOk_any word _ hs).mono ?_
    rintro e w2 ⟨rfl, rfl⟩
    by_cases hw : wordOk word = true
    · have HW := Lib.hid hw
      have HR := Lib.hid (M.after_yes HK.out hw)
      rw [hw]
      have hsz := wordOk_size hw
      clear hw hs
      go_wp2_with fail
      clear y10 y11 y12
      go_loopw [5, 17] (fun j i wr => ∃ k : Nat, k ≤ word.size ∧ i = .int .i64 k ∧ j = .int .i64 (m.goes 0 (word.data.toList.take k)) ∧ MachBox w.heap.size m.st nv m.next ev m.ends wr ∧ Below w.heap.size w wr) (fun _ i _ => word.size - (intOf i).toNat)
      case atStart => exact ⟨0, Nat.zero_le _, rfl, rfl, M1.out, q1.out⟩
      case round =>
        obtain ⟨k, hkk, rfl, rfl, hMk, hqk⟩ := hrel
        have MK := Lib.hid hMk
        have QK := Lib.hid hqk
        have y10 := hMk.c0
        have y11 := hMk.c1
        have y12 := hMk.c2
        clear hMk hqk
        by_cases hlt : k < word.size
        · have HSTEP := Lib.hid (M.goes_snoc m 0 word k hlt)
          have hbd := Lib.hid (goes_step_le (s := 0) HK.out HW.out (by omega) (by have := M.ok_shape HK.out; omega) k)
          have hL := wordOk_at HW.out k hlt
          have hlb := Lib.hid (letter_bd hL)
          have HC := Lib.hid (idxLetter_any word[k] hL)
          clear hL
          generalize letterOf (word[k].toNat : Int) = l at *
          generalize m.goes 0 (word.data.toList.take k) = p at *
          go_wp2_with fail
          have MKd := Lib.hid (MK.out.below (Below.refl _ wr).drew)
          have z10 := MKd.out.c0
          have z11 := MKd.out.c1
          have z12 := MKd.out.c2
          go_region_with (first | (go_at_call 96; refine (HC.out _).mono ?_; rintro e w7 ⟨rfl, rfl⟩) | (go_at_call 75; refine (implNextOf_any m p l nv ev _ MKd.out.ints HK.out hbd.out.1 hbd.out.2 hlb.out.1 hlb.out.2).mono ?_; rintro e w8 ⟨rfl, hb8⟩))
          all_goals
            clear z10 z11 z12 y10 y11 y12
            go_wp2
            go_roundw
            case rel => exact ⟨k + 1, by omega, by go_num, by rw [HSTEP.out], MKd.out.below hb8, QK.out.drew.trans (hb8.mono QK.out.size)⟩
            case measure => simp [intOf]; omega
        · obtain rfl : k = word.size := by omega
          have HG := Lib.hid (M.goes_all m 0 word)
          generalize m.goes 0 (word.data.toList.take word.size) = p at *
          go_wp2
          go_ret
          exact ⟨ret_int (HG.out.trans HR.out.symm), QK.out⟩
    · have hwf : wordOk word = false := by simpa using hw
      have HR := Lib.hid (M.after_now (m := m) word hwf)
      rw [hwf]
      clear hw hwf
      go_wp2_with fail
      go_ret
      exact ⟨ret_int HR.out.symm, q1.out⟩
  · have hkf : m.ok = false := by simpa using hk
    have HR := Lib.hid (M.after_not word hkf)
    rw [hkf]
    clear hk hkf
    go_wp2_with fail
    go_ret
    exact ⟨ret_int HR.out.symm, q1.out⟩
end Go.Proofs.Ytgpjckmmleagbaa

namespace Go.Proofs.Ytgpjckmmleagbaa

theorem tabTo_get (f : Int → Nat → Int) (n i l : Nat) (hi : i < n) (hl : l < 3) : (tabTo f n)[3 * i + l]? = some (f (i : Int) l) := by
  induction n with
  | zero => exact absurd hi (Nat.not_lt_zero _)
  | succ n ih =>
    simp only [tabTo]
    rcases Nat.lt_succ_iff_lt_or_eq.1 hi with h | rfl
    · rw [List.getElem?_append_left (by rw [tabTo_length]; omega)]
      exact ih h
    · rw [List.getElem?_append_right (by rw [tabTo_length]; omega), tabTo_length, show 3 * i + l - 3 * i = l from by omega]
      match l, hl with
      | 0, _ => rfl
      | 1, _ => rfl
      | 2, _ => rfl
theorem mfT_nx {r : Ru} (_hok : r.ok = true) {x : Int} (hx : r.inP x) {l : Nat} (hl : l < 3) : (mfT r).nx x (l : Int) = r.nx x l := by
  obtain ⟨i, rfl⟩ := Int.eq_ofNat_of_zero_le hx.1
  have hi : i < r.st := by have := hx.2; omega
  have e : (3 * (i : Int) + (l : Int)).toNat = 3 * i + l := by omega
  rw [M.nx, if_neg (by omega), e, List.getD_eq_getElem?_getD]
  show ((tabTo r.nx r.st)[3 * i + l]?).getD (-1) = _
  rw [tabTo_get _ _ _ _ hi hl]; rfl
theorem mfT_end {r : Ru} {x : Int} (hx : r.inP x) : (mfT r).endAt x = r.endAt x := by
  obtain ⟨i, rfl⟩ := Int.eq_ofNat_of_zero_le hx.1
  have hi : i < r.st := by have := hx.2; omega
  rw [M.endAt, if_neg (by omega), List.getD_eq_getElem?_getD, Int.toNat_natCast]
  show ((endsTo r.endAt r.st)[i]?).getD false = _
  simp [endsTo, hi]
theorem tab_all {r : Ru} (hok : r.ok = true) : ∀ n, n ≤ r.st → ∀ x ∈ tabTo r.nx n, -1 ≤ x ∧ x ≤ (r.st : Int) - 1 := by
  intro n
  induction n with
  | zero => intro _ x hx; simp [tabTo] at hx
  | succ n ih =>
    intro hn x hx
    simp only [tabTo, List.mem_append, List.mem_cons, List.not_mem_nil, or_false] at hx
    have hp : r.inP (n : Int) := ⟨by omega, by omega⟩
    have b := fun l => Ru.nx_bd hok hp l
    rcases hx with hx | rfl | rfl | rfl
    · exact ih (by omega) x hx
    · have := b 0; omega
    · have := b 1; omega
    · have := b 2; omega
theorem mfT_ok {r : Ru} (hok : r.ok = true) : (mfT r).ok = true := by
  have h1 := Ru.st_bd hok
  have hl1 : (mfT r).next.length = 3 * r.st := tabTo_length _ _
  have hl2 : (mfT r).ends.length = r.st := endsTo_length _ _
  have hst : (mfT r).st = (r.st : Int) := rfl
  rw [M.ok, Bool.and_eq_true, M.shape_iff, List.all_eq_true]
  refine ⟨⟨by omega, by omega, by omega, by omega⟩, fun x hx => ?_⟩
  have := tab_all hok r.st (Nat.le_refl _) x hx
  rw [nextOk, Bool.and_eq_true, decide_eq_true_eq, decide_eq_true_eq, hst]
  exact this

/-- the number of a letter of a word -/
def lix (w : ByteArray) (k : Nat) : Nat := (letterOf (byteAt w k).toNat).toNat
theorem lix_bd {w : ByteArray} (hw : wordOk w = true) {k : Nat} (hk : k < w.size) : lix w k < 3 ∧ byteOf (lix w k) = byteAt w k ∧ (lix w k : Int) = letterOf (byteAt w k).toNat := by
  have h := wordOk_at hw k hk
  rw [byteAt_eq w k hk] at h
  unfold lix
  generalize byteAt w k = c at *
  simp only [isL, Bool.or_eq_true, beq_iff_eq] at h
  rcases h with (rfl | rfl) | rfl <;> decide
/-- the state after so many letters -/
def Ru.to (r : Ru) (w : ByteArray) : Nat → Int
  | 0 => 0
  | k + 1 => if r.to w k < 0 then -1 else r.nx (r.to w k) (lix w k)
/-- how many letters were read till it stopped -/
def Ru.lets (r : Ru) (w : ByteArray) : Nat → Int
  | 0 => 0
  | k + 1 => if r.to w k < 0 then r.lets w k else r.lets w k + 1
/-- BrokenAt -/
def Ru.broken (r : Ru) (w : ByteArray) : Int := if (r.ok && wordOk w) = true then (if r.to w w.size < 0 then r.lets w w.size else -1) else -1
theorem Ru.to_bd {r : Ru} (hok : r.ok = true) (w : ByteArray) (k : Nat) : r.to w k = -1 ∨ r.inP (r.to w k) := by
  induction k with
  | zero => exact .inr (Ru.in0 hok)
  | succ k ih =>
    rcases ih with h | h
    · exact .inl (by rw [Ru.to, h]; rfl)
    · rw [Ru.to, if_neg (by have := h.1; omega)]
      have := Ru.nx_bd hok h (lix w k)
      by_cases e : r.nx (r.to w k) (lix w k) = -1
      · exact .inl e
      · exact .inr ⟨by omega, this.2⟩
theorem Ru.lets_of {r : Ru} (w : ByteArray) (k : Nat) (h : 0 ≤ r.to w k) : r.lets w k = k := by
  induction k with
  | zero => rfl
  | succ k ih =>
    by_cases e : r.to w k < 0
    · rw [Ru.to, if_pos e] at h; omega
    · rw [Ru.lets, if_neg e, ih (by omega)]; omega
theorem Ru.stuck {r : Ru} (w : ByteArray) (k j : Nat) (h : r.to w k < 0) : r.to w (k + j) < 0 ∧ r.lets w (k + j) = r.lets w k := by
  induction j with
  | zero => exact ⟨h, rfl⟩
  | succ j ih =>
    constructor
    · show r.to w (k + j + 1) < 0
      rw [Ru.to, if_pos ih.1]; omega
    · show r.lets w (k + j + 1) = _
      rw [Ru.lets, if_pos ih.1, ih.2]
theorem extract_str {w : ByteArray} (hw : wordOk w = true) {k : Nat} (hk : k < w.size) : w.extract k (k + 1) = ⟨#[byteOf (lix w k)]⟩ := by
  rw [(lix_bd hw hk).2.1, ← byteAt_eq w k hk]
  apply bytes_ext
  have hl : k < w.data.toList.length := by rw [len_data]; exact hk
  have e : w.data.toList.drop k = w.data.toList[k] :: w.data.toList.drop (k + 1) := List.drop_eq_getElem_cons hl
  rw [ByteArray.data_extract, Array.toList_extract, List.extract_eq_take_drop, show k + 1 - k = 1 from by omega, e, List.take_succ_cons, List.take_zero]
  rfl
end Go.Proofs.Ytgpjckmmleagbaa

namespace Go.Proofs.Ytgpjckmmleagbaa
open Go.RowKit
set_option linter.unusedVariables false

/-- the text of a letter -/
def strOf (l : Nat) : ByteArray := ⟨#[byteOf l]⟩
theorem str_eq {t : ByteArray} (ht : letterOk t = true) (l : Nat) (hl : l < 3) : ((strOf l).toList == t.toList) = (byteAt t 0 == byteOf l) := by
  rw [ByteArray.toList_eq, ByteArray.toList_eq]
  match l, hl with
  | 0, _ => rcases letterOk_cases ht with rfl | rfl | rfl <;> decide
  | 1, _ => rcases letterOk_cases ht with rfl | rfl | rfl <;> decide
  | 2, _ => rcases letterOk_cases ht with rfl | rfl | rfl <;> decide

theorem l3Next_0 (letter thn : ByteArray) (many s : Int) (t : ByteArray) (w : World) (h0 : 0 ≤ s) (hs : s ≤ 10) (hb0 : 0 ≤ many) (hb : many ≤ 10) (its : Bool) (hi : (t.toList == letter.toList) = its) :
    Calls Try.prog 91 #[.agg #[.int .i64 0, .string letter, .string thn, .int .i64 many], .int .i64 s, .string t] w fun e w' => e = .returned (.int .i64 (nxR 0 many its false s)) ∧ Below w.heap.size w w' := by
  cases its with
  | true =>
    by_cases hsm : s = many
    · have hsm' : (s == many) = true := by simpa using hsm
      go_enter Try.func91, Try.ntmps91
      go_wp2
      go_ret
      exact ⟨ret_int (by simp [nxR, hsm]), (Below.refl _ _).alloc (Nat.le_refl _) _⟩
    · have hsm' : (s == many) = false := by simpa using hsm
      go_enter Try.func91, Try.ntmps91
      go_wp2
      go_ret
      exact ⟨ret_int (by simp [nxR, hsm]), (Below.refl _ _).alloc (Nat.le_refl _) _⟩
  | false =>
    go_enter Try.func91, Try.ntmps91
    go_wp2
    go_ret
    exact ⟨ret_int (by simp [nxR]), (Below.refl _ _).alloc (Nat.le_refl _) _⟩

theorem l3Next_1 (letter thn : ByteArray) (many s : Int) (t : ByteArray) (w : World) (h0 : 0 ≤ s) (hs : s ≤ 10) (hb0 : 0 ≤ many) (hb : many ≤ 10) (its : Bool) (hi : (t.toList == letter.toList) = its) :
    Calls Try.prog 91 #[.agg #[.int .i64 1, .string letter, .string thn, .int .i64 many], .int .i64 s, .string t] w fun e w' => e = .returned (.int .i64 (nxR 1 many its false s)) ∧ Below w.heap.size w w' := by
  cases its with
  | true =>
    go_enter Try.func91, Try.ntmps91
    go_wp2
    go_ret
    exact ⟨ret_int (by simp [nxR]), (Below.refl _ _).alloc (Nat.le_refl _) _⟩
  | false =>
    by_cases h1 : 0 < s
    · by_cases h2 : s < many
      · go_enter Try.func91, Try.ntmps91
        go_wp2
        go_ret
        exact ⟨ret_int (by simp [nxR, h1, h2]), (Below.refl _ _).alloc (Nat.le_refl _) _⟩
      · go_enter Try.func91, Try.ntmps91
        go_wp2
        go_ret
        exact ⟨ret_int (by simp [nxR, h1, h2]), (Below.refl _ _).alloc (Nat.le_refl _) _⟩
    · go_enter Try.func91, Try.ntmps91
      go_wp2
      go_ret
      exact ⟨ret_int (by simp [nxR]; omega), (Below.refl _ _).alloc (Nat.le_refl _) _⟩

theorem l3Next_2 (letter thn : ByteArray) (many s : Int) (t : ByteArray) (w : World) (h0 : 0 ≤ s) (hs : s ≤ 10) (hb0 : 0 ≤ many) (hb : many ≤ 10) (its : Bool) (hi : (t.toList == letter.toList) = its) (th : Bool) (ht : (t.toList == thn.toList) = th) :
    Calls Try.prog 91 #[.agg #[.int .i64 2, .string letter, .string thn, .int .i64 many], .int .i64 s, .string t] w fun e w' => e = .returned (.int .i64 (nxR 2 many its th s)) ∧ Below w.heap.size w w' := by
  by_cases hx : s = 1
  · have hx' : (s == 1) = true := by simpa using hx
    cases th with
    | true =>
      go_enter Try.func91, Try.ntmps91
      go_wp2
      go_ret
      exact ⟨ret_int (by simp [nxR, hx]), (Below.refl _ _).alloc (Nat.le_refl _) _⟩
    | false =>
      cases its with
      | true =>
        go_enter Try.func91, Try.ntmps91
        go_wp2
        go_ret
        exact ⟨ret_int (by simp [nxR]), (Below.refl _ _).alloc (Nat.le_refl _) _⟩
      | false =>
        go_enter Try.func91, Try.ntmps91
        go_wp2
        go_ret
        exact ⟨ret_int (by simp [nxR]), (Below.refl _ _).alloc (Nat.le_refl _) _⟩
  · have hx' : (s == 1) = false := by simpa using hx
    cases its with
    | true =>
      go_enter Try.func91, Try.ntmps91
      go_wp2
      go_ret
      exact ⟨ret_int (by simp [nxR, hx]), (Below.refl _ _).alloc (Nat.le_refl _) _⟩
    | false =>
      go_enter Try.func91, Try.ntmps91
      go_wp2
      go_ret
      exact ⟨ret_int (by simp [nxR, hx]), (Below.refl _ _).alloc (Nat.le_refl _) _⟩

theorem l3Next_3 (letter thn : ByteArray) (many s : Int) (t : ByteArray) (w : World) (h0 : 0 ≤ s) (hs : s ≤ 10) (hb0 : 0 ≤ many) (hb : many ≤ 10) (its : Bool) (hi : (t.toList == letter.toList) = its) :
    Calls Try.prog 91 #[.agg #[.int .i64 3, .string letter, .string thn, .int .i64 many], .int .i64 s, .string t] w fun e w' => e = .returned (.int .i64 (nxR 3 many its false s)) ∧ Below w.heap.size w w' := by
  cases its with
  | true =>
    by_cases hsm : s = many
    · have hsm' : (s == many) = true := by simpa using hsm
      go_enter Try.func91, Try.ntmps91
      go_wp2
      go_ret
      exact ⟨ret_int (by simp [nxR, hsm]), (Below.refl _ _).alloc (Nat.le_refl _) _⟩
    · have hsm' : (s == many) = false := by simpa using hsm
      go_enter Try.func91, Try.ntmps91
      go_wp2
      go_ret
      exact ⟨ret_int (by simp [nxR, hsm]), (Below.refl _ _).alloc (Nat.le_refl _) _⟩
  | false =>
    go_enter Try.func91, Try.ntmps91
    go_wp2
    go_ret
    exact ⟨ret_int (by simp [nxR]), (Below.refl _ _).alloc (Nat.le_refl _) _⟩

theorem l3Next_4 (letter thn : ByteArray) (many s : Int) (t : ByteArray) (w : World) (h0 : 0 ≤ s) (hs : s ≤ 10) (hb0 : 0 ≤ many) (hb : many ≤ 10) (its : Bool) (hi : (t.toList == letter.toList) = its) :
    Calls Try.prog 91 #[.agg #[.int .i64 4, .string letter, .string thn, .int .i64 many], .int .i64 s, .string t] w fun e w' => e = .returned (.int .i64 (nxR 4 many its false s)) ∧ Below w.heap.size w w' := by
  cases its with
  | true =>
    go_enter Try.func91, Try.ntmps91
    go_wp2
    go_ret
    exact ⟨ret_int (by simp [nxR]), (Below.refl _ _).alloc (Nat.le_refl _) _⟩
  | false =>
    go_enter Try.func91, Try.ntmps91
    go_wp2
    go_ret
    exact ⟨ret_int (by simp [nxR]), (Below.refl _ _).alloc (Nat.le_refl _) _⟩

/-- the state of a rule after a letter -/
theorem l3Next_any {r : Ru} (hok : r.ok = true) (s : Int) (w : World) (h0 : 0 ≤ s) (hs : s < (r.st : Int)) (l : Nat) (hl : l < 3) :
    Calls Try.prog 91 #[.agg #[.int .i64 r.kind, .string r.letter, .string r.thn, .int .i64 r.many], .int .i64 s, .string (strOf l)] w fun e w' => e = .returned (.int .i64 (r.nx s l)) ∧ Below w.heap.size w w' := by
  obtain ⟨kind, letter, thn, many⟩ := r
  obtain ⟨hL, hr⟩ := Ru.ok_iff.1 hok
  simp only at hL hr
  have hi := str_eq hL l hl
  simp only [Ru.st] at hs
  rcases hr with ⟨rfl, rfl, a, b⟩ | ⟨rfl, rfl, a, b⟩ | ⟨rfl, ht, rfl⟩ | ⟨rfl, rfl, a, b⟩ | ⟨rfl, rfl, a, b⟩
  · simp at hs
    exact l3Next_0 letter _ many s (strOf l) w h0 (by omega) (by omega) (by omega) _ hi
  · simp at hs
    exact l3Next_1 letter _ many s (strOf l) w h0 (by omega) (by omega) (by omega) _ hi
  · simp at hs
    exact l3Next_2 letter thn 0 s (strOf l) w h0 (by omega) (by omega) (by omega) _ hi _ (str_eq ht l hl)
  · simp at hs
    exact l3Next_3 letter _ many s (strOf l) w h0 (by omega) (by omega) (by omega) _ hi
  · simp at hs
    exact l3Next_4 letter _ many s (strOf l) w h0 (by omega) (by omega) (by omega) _ hi
end Go.Proofs.Ytgpjckmmleagbaa

namespace Go.Proofs.Ytgpjckmmleagbaa
open Go.RowKit

theorem mf_yes {r : Ru} (h : r.ok = true) : mf r = mfT r := by rw [mf, if_pos h]
theorem mf_no {r : Ru} (h : r.ok = false) : mf r = ⟨0, [], []⟩ := by rw [mf, if_neg (by simp [h])]

set_option maxHeartbeats 1000000 in
theorem implMachineFor_any (kind : Int) (letter thn : ByteArray) (many : Int) (w : World) (h1 : letter.size ≤ maxLen) (h2 : thn.size ≤ maxLen) :
    Calls Try.prog 43 #[.agg #[.int .i64 kind, .string letter, .string thn, .int .i64 many]] w (MachNewB (mf (Ru.mk kind letter thn many)) (Ru.mk kind letter thn many).ok w) := by
  by_cases hok : (Ru.mk kind letter thn many).ok = true
  · rw [mf_yes hok, hok]
    obtain ⟨hl, hr⟩ := Ru.ok_iff.1 hok
    simp only at hl hr
    rcases hr with ⟨rfl, rfl, h0, h4⟩ | ⟨rfl, rfl, h0, h4⟩ | ⟨rfl, ht, rfl⟩ | ⟨rfl, rfl, h0, h4⟩ | ⟨rfl, rfl, h0, h4⟩
    · exact implMachineFor_0 letter many w hl h0 h4
    · exact implMachineFor_1 letter many w hl h0 h4
    · exact implMachineFor_2 letter thn w hl ht
    · exact implMachineFor_3 letter many w hl h0 h4
    · exact implMachineFor_4 letter many w hl h0 h4
  · have hok' : (Ru.mk kind letter thn many).ok = false := by simpa using hok
    rw [mf_no hok', hok']
    clear hok
    have c0 := fun i => World.cell?_alloc_new (w.alloc (.cells #[.int .i64 kind, .string letter, .string thn, .int .i64 many] 45)) #[.int .i64 0, .slice none 0 0, .slice none 0 0] 28 i
    have f0 := fun i => World.frozen?_alloc_new (w.alloc (.cells #[.int .i64 kind, .string letter, .string thn, .int .i64 many] 45)) #[.int .i64 0, .slice none 0 0, .slice none 0 0] 28 i
    simp only [World.size_alloc] at c0 f0
    have q0 := ((Below.refl w.heap.size w).alloc (Nat.le_refl _) (.cells #[.int .i64 kind, .string letter, .string thn, .int .i64 many] 45)).alloc (by simp) (.cells #[.int .i64 0, .slice none 0 0, .slice none 0 0] 28)
    have C0 := Lib.hid c0
    have F0 := Lib.hid f0
    have Q0 := Lib.hid q0
    clear c0 f0 q0
    go_enter Try.func43, Try.ntmps43
    go_wp2_with fail
    refine (implRuleOk_any kind letter thn many _ h1 h2).mono ?_
    rintro e w1 ⟨rfl, hb1⟩
    rw [hok']
    simp only [World.size_alloc] at hb1
    have h0 : w1.cell? ⟨w.heap.size + 1, 0, none⟩ = some (.int .i64 0) := (hb1.cell (p := ⟨w.heap.size + 1, 0, none⟩) (Nat.lt_succ_self _)).trans (C0.out 0)
    have h1 : w1.cell? ⟨w.heap.size + 1, 1, none⟩ = some (.slice none 0 0) := (hb1.cell (p := ⟨w.heap.size + 1, 1, none⟩) (Nat.lt_succ_self _)).trans (C0.out 1)
    have h2 : w1.cell? ⟨w.heap.size + 1, 2, none⟩ = some (.slice none 0 0) := (hb1.cell (p := ⟨w.heap.size + 1, 2, none⟩) (Nat.lt_succ_self _)).trans (C0.out 2)
    have k0 := (hb1.frozen (p := ⟨w.heap.size + 1, 0, none⟩) (Nat.lt_succ_self _)).trans (F0.out 0)
    have k1 := (hb1.frozen (p := ⟨w.heap.size + 1, 1, none⟩) (Nat.lt_succ_self _)).trans (F0.out 1)
    have k2 := (hb1.frozen (p := ⟨w.heap.size + 1, 2, none⟩) (Nat.lt_succ_self _)).trans (F0.out 2)
    have q1 : Below w.heap.size w w1 := Q0.out.trans (hb1.mono (by omega))
    have FI := Lib.hid (fin_cells (x := .int .i64 0) (y := .slice none 0 0) (z := .slice none 0 0) (apart_nils (w.heap.size + 2) w1) q1 (Nat.le_succ _) (by omega) (some3 h0 h1 h2) (by omega))
    clear q1 hb1
    go_wp2
    obtain ⟨r1, r2, r3, r4, r5⟩ := FI.out _ rfl
    refine bodyPost_ret (v := .tuple #[.agg #[.int .i64 0, .slice none 0 0, .slice none 0 0], .bool false]) ?_ rfl ⟨none, none, 0, 0, rfl, r1, r2⟩
    simp [results, Try.results43, go_sem, r3, r4, r5]
end Go.Proofs.Ytgpjckmmleagbaa

namespace Go.Proofs.Ytgpjckmmleagbaa
open Go.RowKit

theorem broken_yes {r : Ru} {s : ByteArray} (h : r.ok = true) (hw : wordOk s = true) : r.broken s = if r.to s s.size < 0 then r.lets s s.size else -1 := by simp [Ru.broken, h, hw]
theorem broken_no {r : Ru} {s : ByteArray} (h : (r.ok && wordOk s) = false) : r.broken s = -1 := by rw [Ru.broken, if_neg (by rw [h]; simp)]

theorem l3Next_at (kind : Int) (letter thn : ByteArray) (many : Int) (hok : (Ru.mk kind letter thn many).ok = true) (s : Int) (w : World) (h0 : 0 ≤ s) (hs : s < ((Ru.mk kind letter thn many).st : Int)) (l : Nat) (hl : l < 3) :
    Calls Try.prog 91 #[.agg #[.int .i64 kind, .string letter, .string thn, .int .i64 many], .int .i64 s, .string (strOf l)] w fun e w' => e = .returned (.int .i64 ((Ru.mk kind letter thn many).nx s l)) ∧ Below w.heap.size w w' :=
  l3Next_any (r := Ru.mk kind letter thn many) hok s w h0 hs l hl

set_option maxHeartbeats 1600000 in
set_option maxRecDepth 100000 in
theorem specBroken_yes (kind : Int) (letter thn : ByteArray) (many : Int) (s : ByteArray) (w : World) (hok : (Ru.mk kind letter thn many).ok = true) (hw : wordOk s = true) :
    Calls Try.prog 44 #[.agg #[.int .i64 kind, .string letter, .string thn, .int .i64 many], .string s] w
      fun e w' => e = .returned (.int .i64 ((Ru.mk kind letter thn many).broken s)) ∧ Below w.heap.size w w' := by
  have hsm : s.size ≤ maxLen := Nat.le_trans (wordOk_size hw) (by decide)
  have h14 := wordOk_size hw
  have HB := Lib.hid (broken_yes hok hw)
  have HTO := Lib.hid (fun k => Ru.to_bd hok s k)
  have HLX := Lib.hid (fun k hk => lix_bd hw (k := k) hk)
  have HEX := Lib.hid (fun k hk => extract_str hw (k := k) hk)
  go_enter Try.func44, Try.ntmps44
  go_wp2_with fail
  refine (specRuleOk_any kind letter thn many _).mono ?_
  rintro e w1 ⟨rfl, hb1⟩
  rw [hok]
  simp only [World.size_alloc] at hb1
  have B1 := Lib.hid hb1
  have HOK := Lib.hid hok
  clear hok hb1
  go_wp2_with (go_at_call 82; refine (specWordOk_any _ _ hsm).mono ?_; rintro e w' ⟨rfl, rfl⟩)
  go_loopw [5, 6] (fun st i wr => ∃ k : Nat, k ≤ s.size ∧ i = .int .i64 (k : Int) ∧ st = .int .i64 ((Ru.mk kind letter thn many).to s k) ∧ 0 ≤ (Ru.mk kind letter thn many).to s k ∧ Below (w.heap.size + 1) (w.alloc (.cells #[.int .i64 kind, .string letter, .string thn, .int .i64 many] 45)) wr) (fun _ i _ => s.size - (intOf i).toNat)
  case atStart => exact ⟨0, Nat.zero_le _, rfl, rfl, Int.le_refl _, B1.out⟩
  case round =>
    obtain ⟨k, hk, rfl, rfl, hst, hb⟩ := hrel
    have HBB := Lib.hid hb
    obtain ⟨y0, y1, y2, y3, q1, s1⟩ := ru_cells kind letter thn many hb
    have Q1 := Lib.hid q1
    have S1 := Lib.hid s1
    clear hb q1 s1
    by_cases hlt : k < s.size
    · have hin : (Ru.mk kind letter thn many).inP ((Ru.mk kind letter thn many).to s k) := (HTO.out k).resolve_left (by omega)
      have HS : Hid ((Ru.mk kind letter thn many).to s (k + 1) = (Ru.mk kind letter thn many).nx ((Ru.mk kind letter thn many).to s k) (lix s k)) := by
        have : (Ru.mk kind letter thn many).to s (k + 1) = (Ru.mk kind letter thn many).nx ((Ru.mk kind letter thn many).to s k) (lix s k) := by rw [Ru.to, if_neg (by omega)]
        exact Lib.hid this
      have HN := HTO.out (k + 1)
      rw [HS.out] at HN
      have HLET := Lib.hid (Ru.lets_of s k hst)
      have HNN := Lib.hid HN
      have HIN := Lib.hid hin
      have hl3 := (HLX.out k hlt).1
      have hsl := fun w => slice_one s k hlt w
      have hex : s.extract k (k + 1) = strOf (lix s k) := HEX.out k hlt
      rw [hex] at hsl
      have HLS : Hid ((Ru.mk kind letter thn many).lets s (k + 1) = (k : Int) + 1) := by
        have : (Ru.mk kind letter thn many).lets s (k + 1) = (k : Int) + 1 := by rw [Ru.lets, if_neg (by omega), HLET.out]
        exact Lib.hid this
      clear HN hin hex
      generalize hx0 : (Ru.mk kind letter thn many).to s k = x0 at *
      have HX0 := Lib.hid hx0
      clear hx0
      generalize hll : lix s k = ll at *
      have HLL := Lib.hid hll
      clear hll
      have hq1 : IntKind.i64.wrap ((k : Int) + 1) = (k : Int) + 1 := IntWalk.i64_in _ (by omega)
      go_wp2_with fail
      go_region_with (go_at_call 91; refine (l3Next_at kind letter thn many HOK.out x0 _ HIN.out.1 HIN.out.2 ll hl3).mono ?_; rintro e w2 ⟨rfl, hb2⟩)
      all_goals
        have HB2 := Lib.hid (HBB.out.drew.trans (hb2.mono S1.out))
        clear hb2 hq1 hsl y0 y1 y2 y3
        generalize hx1 : (Ru.mk kind letter thn many).nx x0 ll = x1 at *
        rcases HNN.out with h1 | h1
        · have HRES : Hid ((Ru.mk kind letter thn many).broken s = (k : Int) + 1) := by
            have hneg : (Ru.mk kind letter thn many).to s (k + 1) < 0 := by rw [HS.out, h1]; decide
            have hst := Ru.stuck s (k + 1) (s.size - (k + 1)) hneg
            rw [show k + 1 + (s.size - (k + 1)) = s.size from by omega] at hst
            have : (Ru.mk kind letter thn many).broken s = (k : Int) + 1 := by rw [HB.out, if_pos hst.1, hst.2, HLS.out]
            exact Lib.hid this
          clear hx1 HS HNN
          subst h1
          go_wp2
          go_ret
          exact ⟨ret_int HRES.out.symm, (ru_cells kind letter thn many HB2.out).2.2.2.2.1⟩
        · have h1a := h1.1
          clear hx1
          go_wp2
          go_roundw
          case rel => exact ⟨k + 1, hlt, by go_num, by rw [HS.out], by rw [HS.out]; exact h1a, HB2.out⟩
          case measure => simp [intOf]; omega
    · obtain rfl : k = s.size := by omega
      have HRES : Hid ((Ru.mk kind letter thn many).broken s = -1) := by
        have : (Ru.mk kind letter thn many).broken s = -1 := by rw [HB.out, if_neg (by omega)]
        exact Lib.hid this
      go_wp2
      go_ret
      exact ⟨ret_int HRES.out.symm, Q1.out⟩

theorem specBroken_any (kind : Int) (letter thn : ByteArray) (many : Int) (s : ByteArray) (w : World) (hs : s.size ≤ maxLen) :
    Calls Try.prog 44 #[.agg #[.int .i64 kind, .string letter, .string thn, .int .i64 many], .string s] w
      fun e w' => e = .returned (.int .i64 ((Ru.mk kind letter thn many).broken s)) ∧ Below w.heap.size w w' := by
  by_cases hok : (Ru.mk kind letter thn many).ok = true
  · by_cases hw : wordOk s = true
    · exact specBroken_yes kind letter thn many s w hok hw
    · have hw' : wordOk s = false := by simpa using hw
      have HF := Lib.hid (broken_no (r := (Ru.mk kind letter thn many)) (s := s) (by simp [hw']))
      clear hw
      go_enter Try.func44, Try.ntmps44
      go_wp2_with fail
      refine (specRuleOk_any kind letter thn many _).mono ?_
      rintro e w1 ⟨rfl, hb1⟩
      rw [hok]
      simp only [World.size_alloc] at hb1
      have q1 := (ru_cells kind letter thn many hb1).2.2.2.2.1
      go_wp2_with (go_at_call 82; refine (specWordOk_any _ _ hs).mono ?_; rintro e w' ⟨rfl, rfl⟩)
      go_ret
      exact ⟨ret_int HF.out.symm, q1⟩
  · have hok' : (Ru.mk kind letter thn many).ok = false := by simpa using hok
    have HF := Lib.hid (broken_no (r := (Ru.mk kind letter thn many)) (s := s) (by simp [hok']))
    clear hok
    go_enter Try.func44, Try.ntmps44
    go_wp2_with fail
    refine (specRuleOk_any kind letter thn many _).mono ?_
    rintro e w1 ⟨rfl, hb1⟩
    rw [hok']
    simp only [World.size_alloc] at hb1
    have q1 := (ru_cells kind letter thn many hb1).2.2.2.2.1
    go_wp2_with fail
    go_ret
    exact ⟨ret_int HF.out.symm, q1⟩
end Go.Proofs.Ytgpjckmmleagbaa

namespace Go.Proofs.Ytgpjckmmleagbaa
open Go.RowKit

theorem mfT_good {r : Ru} (h : r.ok = true) : (mfT r).good := M.ok_good (mfT_ok h)

theorem pair_cells {W w' : World} {t : TypeId} (x y : Value) (hb : Below (W.heap.size + 1) (W.alloc (.cells #[x, y] t)) w') : w'.cell? ⟨W.heap.size, 0, none⟩ = some x ∧ w'.cell? ⟨W.heap.size, 1, none⟩ = some y ∧ (∀ i, w'.frozen? ⟨W.heap.size, i, none⟩ = false) ∧ Below W.heap.size W w' ∧ W.heap.size + 1 ≤ w'.heap.size :=
  ⟨(hb.cell (p := ⟨W.heap.size, 0, none⟩) (Nat.lt_succ_self _)).trans (World.cell?_alloc_new W _ _ 0), (hb.cell (p := ⟨W.heap.size, 1, none⟩) (Nat.lt_succ_self _)).trans (World.cell?_alloc_new W _ _ 1), fun i => (hb.frozen (p := ⟨W.heap.size, i, none⟩) (Nat.lt_succ_self _)).trans (World.frozen?_alloc_new W _ _ i),
    ((Below.refl W.heap.size W).alloc (Nat.le_refl _) _).trans (hb.mono (Nat.le_succ _)), by have := hb.size; simp only [World.size_alloc] at this; exact this⟩

set_option maxHeartbeats 1000000 in
set_option maxRecDepth 100000 in
/-- the function that the fold goes on by -/
theorem broken1_any (m : M) (B : Nat) (nv ev : Value) (W : World) (hM : MachBox B m.st nv m.next ev m.ends W) (hg : m.good) (st n : Int) (h0 : -1 ≤ st) (h1 : st < m.st) (n0 : 0 ≤ n) (n1 : n ≤ 100) (l : Nat) (hl : l < 3) :
    Calls Try.prog 94 #[.agg #[.int .i64 st, .int .i64 n], .int .i64 (l : Int), .pointer (some ⟨B, 0, none⟩)] W
      fun e W' => ∃ x y : Int, e = .returned (.agg #[.int .i64 x, .int .i64 y]) ∧ (st < 0 → x = st ∧ y = n) ∧ (0 ≤ st → x = m.nx st (l : Int) ∧ y = n + 1) ∧ Below W.heap.size W W' := by
  have q2 := ((Below.refl W.heap.size W).alloc (Nat.le_refl _) (.cells #[.int .i64 st, .int .i64 n] 86))
  by_cases hs : st < 0
  · obtain rfl : st = -1 := by omega
    have q3 := q2.alloc (by simp) (.cells #[.int .i64 (-1), .int .i64 n] 86)
    go_enter Try.func94, Try.ntmps94
    go_wp2_with fail
    refine bodyPost_ret (v := .agg #[.int .i64 (-1), .int .i64 n]) ?_ rfl ⟨-1, n, rfl, fun _ => ⟨rfl, rfl⟩, fun h => absurd h (by decide), q3⟩
    simp [results, Try.results94, go_sem]
  · have hne : (st == -1) = false := by rw [beq_eq_false_iff_ne]; omega
    have q3 := q2.alloc (by simp) (.cells #[.int .i64 0, .int .i64 0] 86)
    have MM := Lib.hid (hM.below q3)
    have Q3 := Lib.hid q3
    have R3 : Hid (∀ w', Below (W.heap.size + 1 + 1) ((W.alloc (.cells #[.int .i64 st, .int .i64 n] 86)).alloc (.cells #[.int .i64 0, .int .i64 0] 86)) w' →
        (w'.cell? ⟨W.heap.size, 0, none⟩ = some (.int .i64 st) ∧ w'.cell? ⟨W.heap.size, 1, none⟩ = some (.int .i64 n)) ∧ (w'.cell? ⟨W.heap.size + 1, 0, none⟩ = some (.int .i64 0) ∧ w'.cell? ⟨W.heap.size + 1, 1, none⟩ = some (.int .i64 0)) ∧ (w'.frozen? ⟨W.heap.size + 1, 0, none⟩ = false ∧ w'.frozen? ⟨W.heap.size + 1, 1, none⟩ = false)) := by
      have : ∀ w', Below (W.heap.size + 1 + 1) ((W.alloc (.cells #[.int .i64 st, .int .i64 n] 86)).alloc (.cells #[.int .i64 0, .int .i64 0] 86)) w' →
        (w'.cell? ⟨W.heap.size, 0, none⟩ = some (.int .i64 st) ∧ w'.cell? ⟨W.heap.size, 1, none⟩ = some (.int .i64 n)) ∧ (w'.cell? ⟨W.heap.size + 1, 0, none⟩ = some (.int .i64 0) ∧ w'.cell? ⟨W.heap.size + 1, 1, none⟩ = some (.int .i64 0)) ∧ (w'.frozen? ⟨W.heap.size + 1, 0, none⟩ = false ∧ w'.frozen? ⟨W.heap.size + 1, 1, none⟩ = false) := by
        intro w' hb
        refine ⟨⟨(hb.cell (p := ⟨W.heap.size, 0, none⟩) (by show W.heap.size < _; omega)).trans (by go_simp), (hb.cell (p := ⟨W.heap.size, 1, none⟩) (by show W.heap.size < _; omega)).trans (by go_simp)⟩, ⟨(hb.cell (p := ⟨W.heap.size + 1, 0, none⟩) (Nat.lt_succ_self _)).trans (by go_simp), (hb.cell (p := ⟨W.heap.size + 1, 1, none⟩) (Nat.lt_succ_self _)).trans (by go_simp)⟩, (hb.frozen (p := ⟨W.heap.size + 1, 0, none⟩) (Nat.lt_succ_self _)).trans (by go_simp), (hb.frozen (p := ⟨W.heap.size + 1, 1, none⟩) (Nat.lt_succ_self _)).trans (by go_simp)⟩
      exact Lib.hid this
    have HSZ : Hid (((W.alloc (.cells #[.int .i64 st, .int .i64 n] 86)).alloc (.cells #[.int .i64 0, .int .i64 0] 86)).heap.size = W.heap.size + 1 + 1) := by
      have : ((W.alloc (.cells #[.int .i64 st, .int .i64 n] 86)).alloc (.cells #[.int .i64 0, .int .i64 0] 86)).heap.size = W.heap.size + 1 + 1 := by simp
      exact Lib.hid this
    clear hM q2 q3
    go_enter Try.func94, Try.ntmps94
    have y0 := MM.out.c0
    have y1 := MM.out.c1
    have y2 := MM.out.c2
    obtain ⟨a1, n1', c1, rfl⟩ := MM.out.ints.slice
    obtain ⟨a2, n2', c2, rfl⟩ := MM.out.bools.slice
    go_wp2_with fail
    generalize hW2 : (W.alloc (.cells #[.int .i64 st, .int .i64 n] 86)).alloc (.cells #[.int .i64 0, .int .i64 0] 86) = W2 at *
    obtain ⟨⟨r0, r1⟩, ⟨z0, z1⟩, f0, f1⟩ := R3.out W2 (Below.refl _ _)
    have hq1 : IntKind.i64.wrap (n + 1) = n + 1 := IntWalk.i64_in _ (by omega)
    have IN := Lib.hid (MM.out.ints.below ((Below.refl W2.heap.size W2).drew))
    go_region_with (go_at_call 75; refine (implNextOfG_any m st (l : Int) _ _ _ IN.out hg (by omega) h1 (by omega) (by omega)).mono ?_; rintro e w3 ⟨rfl, hb3⟩; have QQ := Lib.hid ((Below.refl W2.heap.size W2).drew.trans hb3); obtain ⟨⟨s0, s1⟩, ⟨t0, t1⟩, g0, g1⟩ := R3.out w3 (by rw [← HSZ.out]; exact QQ.out))
    all_goals
      have FI : ∀ Wf, Wf = (w3.setCell ⟨W.heap.size + 1, 0, none⟩ (.int .i64 (m.nx st (l : Int)))).setCell ⟨W.heap.size + 1, 1, none⟩ (.int .i64 (n + 1)) → Wf.cell? ⟨W.heap.size + 1, 0, none⟩ = some (.int .i64 (m.nx st (l : Int))) ∧ Wf.cell? ⟨W.heap.size + 1, 1, none⟩ = some (.int .i64 (n + 1)) ∧ Below W.heap.size W Wf := by
        rintro Wf rfl
        exact ⟨by go_simp, by go_simp, ((Q3.out.trans (QQ.out.mono (by rw [HSZ.out]; omega))).setCell (p := ⟨W.heap.size + 1, 0, none⟩) (Nat.le_succ _) _).setCell (p := ⟨W.heap.size + 1, 1, none⟩) (Nat.le_succ _) _⟩
      have FIH := Lib.hid FI
      clear FI hb3
      go_wp2
      obtain ⟨x0, x1, x2⟩ := FIH.out _ rfl
      refine bodyPost_ret (v := .agg #[.int .i64 (m.nx st (l : Int)), .int .i64 (n + 1)]) ?_ rfl ⟨m.nx st (l : Int), n + 1, rfl, fun h => absurd h (by omega), fun _ => ⟨rfl, rfl⟩, x2⟩
      simp [results, Try.results94, go_sem, x0, x1]
end Go.Proofs.Ytgpjckmmleagbaa

namespace Go.Proofs.Ytgpjckmmleagbaa
open Go.RowKit

theorem to_step {r : Ru} (hok : r.ok = true) (s : ByteArray) (k : Nat) (x y : Int) (hw : wordOk s = true) (hk : k < s.size) (h1 : r.to s k < 0 → x = r.to s k ∧ y = r.lets s k) (h2 : 0 ≤ r.to s k → x = (mfT r).nx (r.to s k) (lix s k : Int) ∧ y = r.lets s k + 1) : x = r.to s (k + 1) ∧ y = r.lets s (k + 1) := by
  by_cases h : r.to s k < 0
  · obtain ⟨rfl, rfl⟩ := h1 h
    have hb := (Ru.to_bd hok s k).resolve_right (fun e => by have := e.1; omega)
    exact ⟨by rw [Ru.to, if_pos h, hb], by rw [Ru.lets, if_pos h]⟩
  · obtain ⟨rfl, rfl⟩ := h2 (by omega)
    have hb := (Ru.to_bd hok s k).resolve_left (by omega)
    refine ⟨by rw [Ru.to, if_neg h, mfT_nx hok hb (lix_bd hw hk).1], by rw [Ru.lets, if_neg h]⟩
theorem lets_bd (r : Ru) (s : ByteArray) (k : Nat) : 0 ≤ r.lets s k ∧ r.lets s k ≤ k := by
  induction k with
  | zero => exact ⟨Int.le_refl _, Int.le_refl _⟩
  | succ k ih => rw [Ru.lets]; split <;> omega

set_option maxHeartbeats 1600000 in
set_option maxRecDepth 100000 in
theorem fold_any (r : Ru) (hok : r.ok = true) (s : ByteArray) (hw : wordOk s = true) (B : Nat) (nv ev : Value) (W : World) (hM : MachBox B (mfT r).st nv (mfT r).next ev (mfT r).ends W) :
    Calls Try.prog 93 #[.string s, .agg #[.int .i64 0, .int .i64 0], .func (.func 94) #[] #[.pointer (some ⟨B, 0, none⟩)]] W
      fun e W' => e = .returned (.agg #[.int .i64 (r.to s s.size), .int .i64 (r.lets s s.size)]) ∧ Below W.heap.size W W' := by
  have h14 := wordOk_size hw
  have HST := Lib.hid (fun k x y hk h1 h2 => to_step hok s k x y hw hk h1 h2)
  have HLB := Lib.hid (fun k => lets_bd r s k)
  have HTB := Lib.hid (fun k => Ru.to_bd hok s k)
  have HLX := Lib.hid (fun k hk => lix_bd hw (k := k) hk)
  have HWA := Lib.hid (fun k hk => wordOk_at hw k hk)
  have HG := Lib.hid (mfT_good hok)
  have Q2 := Lib.hid (((Below.refl W.heap.size W).alloc (Nat.le_refl _) (.cells #[.int .i64 0, .int .i64 0] 86)).alloc (by simp) (.cells #[.int .i64 0, .int .i64 0] 86))
  have MM := Lib.hid hM
  have hz : ∀ i, ((W.alloc (.cells #[.int .i64 0, .int .i64 0] 86)).alloc (.cells #[.int .i64 0, .int .i64 0] 86)).cell? ⟨W.heap.size + 1, i, none⟩ = (#[.int .i64 0, .int .i64 0] : Array Value)[i]? := fun i => by
    have := World.cell?_alloc_new (W.alloc (.cells #[.int .i64 0, .int .i64 0] 86)) #[.int .i64 0, .int .i64 0] 86 i
    rw [World.size_alloc] at this; exact this
  have hzf : ∀ i, ((W.alloc (.cells #[.int .i64 0, .int .i64 0] 86)).alloc (.cells #[.int .i64 0, .int .i64 0] 86)).frozen? ⟨W.heap.size + 1, i, none⟩ = false := fun i => by
    have := World.frozen?_alloc_new (W.alloc (.cells #[.int .i64 0, .int .i64 0] 86)) #[.int .i64 0, .int .i64 0] 86 i
    rw [World.size_alloc] at this; exact this
  have hv0 : ((W.alloc (.cells #[.int .i64 0, .int .i64 0] 86)).alloc (.cells #[.int .i64 0, .int .i64 0] 86)).cell? ⟨W.heap.size, 0, none⟩ = some (.int .i64 0) := by go_simp
  have hv1 : ((W.alloc (.cells #[.int .i64 0, .int .i64 0] 86)).alloc (.cells #[.int .i64 0, .int .i64 0] 86)).cell? ⟨W.heap.size, 1, none⟩ = some (.int .i64 0) := by go_simp
  have hvf : ∀ i, ((W.alloc (.cells #[.int .i64 0, .int .i64 0] 86)).alloc (.cells #[.int .i64 0, .int .i64 0] 86)).frozen? ⟨W.heap.size, i, none⟩ = false := fun i => by go_simp
  have hsz : ((W.alloc (.cells #[.int .i64 0, .int .i64 0] 86)).alloc (.cells #[.int .i64 0, .int .i64 0] 86)).heap.size = W.heap.size + 1 + 1 := by simp
  clear hM hok hw
  go_enter Try.func93, Try.ntmps93
  go_wp2_with fail
  generalize (W.alloc (.cells #[.int .i64 0, .int .i64 0] 86)).alloc (.cells #[.int .i64 0, .int .i64 0] 86) = W2 at *
  have HSZ := Lib.hid hsz
  have HZ := Lib.hid (And.intro hz hzf)
  have HV := Lib.hid (And.intro hv0 (And.intro hv1 hvf))
  clear hsz hz hzf hv0 hv1 hvf
  go_loopw [7, 10] (fun _ i wr => ∃ k : Nat, k ≤ s.size ∧ i = .int .i64 (k : Int) ∧ Below W.heap.size W wr ∧ W.heap.size + 1 + 1 ≤ wr.heap.size ∧ (wr.cell? ⟨W.heap.size, 0, none⟩ = some (.int .i64 (r.to s k)) ∧ wr.cell? ⟨W.heap.size, 1, none⟩ = some (.int .i64 (r.lets s k)) ∧ ∀ i, wr.frozen? ⟨W.heap.size, i, none⟩ = false) ∧
      (∀ i, wr.cell? ⟨W.heap.size + 1, i, none⟩ = (#[.int .i64 0, .int .i64 0] : Array Value)[i]?) ∧ ∀ i, wr.frozen? ⟨W.heap.size + 1, i, none⟩ = false) (fun _ i _ => s.size - (intOf i).toNat)
  case atStart => exact ⟨0, Nat.zero_le _, rfl, Q2.out, by rw [HSZ.out]; omega, HV.out, HZ.out.1, HZ.out.2⟩
  case round =>
    obtain ⟨k, hk, rfl, hb, hs2, ⟨v0, v1, vf⟩, z, zf⟩ := hrel
    have HB := Lib.hid hb
    have HM := Lib.hid (MM.out.below hb)
    have HZ2 := Lib.hid (And.intro z zf)
    have HVF := Lib.hid vf
    have HS2 := Lib.hid hs2
    clear hb z zf vf
    by_cases hlt : k < s.size
    · have hbb := HLX.out k hlt
      have hc := idx_letter (HWA.out k hlt)
      have hx8 : (s[k].toNat : Int).toNat.toUInt8 = s[k] := by simp
      have HIX : Hid (Lib.indexByte [114, 100, 110] ((s[k].toNat : Int).toNat.toUInt8) = (lix s k : Int)) := by
        have : Lib.indexByte [114, 100, 110] ((s[k].toNat : Int).toNat.toUInt8) = (lix s k : Int) := by rw [hx8, hc, hbb.2.2, byteAt_eq s k hlt]
        exact Lib.hid this
      have HSTP := Lib.hid (fun x y h1 h2 => HST.out k x y hlt h1 h2)
      have hl3 := hbb.1
      have hto : -1 ≤ r.to s k ∧ r.to s k < (mfT r).st := by
        have h1 := HG.out.st0
        rcases HTB.out k with h | h
        · omega
        · exact ⟨by have := h.1; omega, h.2⟩
      have hlb := HLB.out k
      clear hbb hc hx8
      generalize hx0 : r.to s k = x0 at *
      generalize hy0 : r.lets s k = y0 at *
      generalize hll : lix s k = ll at *
      have HX := Lib.hid (And.intro hx0 (And.intro hy0 hll))
      clear hx0 hy0 hll
      have f0 := HVF.out 0
      have f1 := HVF.out 1
      go_wp2_with fail
      go_region_with (first
        | (go_at_call 96; refine (strings_IndexByte _ _ _).mono ?_; rintro e w3 ⟨rfl, rfl⟩; rw [HIX.out])
        | (go_at_call 94; refine (broken1_any (mfT r) B nv ev _ (HM.out.below ((Below.refl _ wr).drew)) HG.out x0 y0 hto.1 hto.2 hlb.1 (by omega) ll hl3).mono ?_; rintro e w4 ⟨x, y, rfl, hx1, hx2, hb4⟩; have hb4' := (Below.refl wr.heap.size wr).drew.trans hb4; have V0 := (hb4'.cell (p := ⟨W.heap.size, 0, none⟩) (by show W.heap.size < _; omega)).trans v0; have V1 := (hb4'.cell (p := ⟨W.heap.size, 1, none⟩) (by show W.heap.size < _; omega)).trans v1; have G0 := (hb4'.frozen (p := ⟨W.heap.size, 0, none⟩) (by show W.heap.size < _; omega)).trans f0; have G1 := (hb4'.frozen (p := ⟨W.heap.size, 1, none⟩) (by show W.heap.size < _; omega)).trans f1))
      all_goals
        have HXY := Lib.hid (HSTP.out x y hx1 hx2)
        have FI : ∀ Wf, Wf = (w4.setCell ⟨W.heap.size, 0, none⟩ (.int .i64 x)).setCell ⟨W.heap.size, 1, none⟩ (.int .i64 y) → Below W.heap.size W Wf ∧ W.heap.size + 1 + 1 ≤ Wf.heap.size ∧ (Wf.cell? ⟨W.heap.size, 0, none⟩ = some (.int .i64 (r.to s (k + 1))) ∧ Wf.cell? ⟨W.heap.size, 1, none⟩ = some (.int .i64 (r.lets s (k + 1))) ∧ ∀ i, Wf.frozen? ⟨W.heap.size, i, none⟩ = false) ∧
            (∀ i, Wf.cell? ⟨W.heap.size + 1, i, none⟩ = (#[.int .i64 0, .int .i64 0] : Array Value)[i]?) ∧ ∀ i, Wf.frozen? ⟨W.heap.size + 1, i, none⟩ = false := by
          rintro Wf rfl
          rw [← HXY.out.1, ← HXY.out.2]
          refine ⟨((HB.out.trans (hb4'.mono (by omega))).setCell (p := ⟨W.heap.size, 0, none⟩) (Nat.le_refl _) _).setCell (p := ⟨W.heap.size, 1, none⟩) (Nat.le_refl _) _, by simp; exact Nat.le_trans hs2 hb4'.size, ⟨by go_simp, by go_simp, fun i => ?_⟩, fun i => ?_, fun i => ?_⟩
          · rw [World.frozen?_setCell, World.frozen?_setCell]; exact (hb4'.frozen (p := ⟨W.heap.size, i, none⟩) (by show W.heap.size < _; omega)).trans (HVF.out i)
          · rw [World.cell?_setCell_other _ _ _ _ (by simp), World.cell?_setCell_other _ _ _ _ (by simp)]; exact (hb4'.cell (p := ⟨W.heap.size + 1, i, none⟩) (by show W.heap.size + 1 < _; omega)).trans (HZ2.out.1 i)
          · rw [World.frozen?_setCell, World.frozen?_setCell]; exact (hb4'.frozen (p := ⟨W.heap.size + 1, i, none⟩) (by show W.heap.size + 1 < _; omega)).trans (HZ2.out.2 i)
        have FIH := Lib.hid FI
        clear FI hb4 hb4' hx1 hx2 hto hlb
        go_wp2
        go_roundw
        case rel => exact ⟨k + 1, hlt, by go_num, FIH.out _ rfl⟩
        case measure => simp [intOf]; omega
    · obtain rfl : k = s.size := by omega
      have z0 : wr.cell? ⟨W.heap.size + 1, 0, none⟩ = some (.int .i64 0) := HZ2.out.1 0
      have z1 : wr.cell? ⟨W.heap.size + 1, 1, none⟩ = some (.int .i64 0) := HZ2.out.1 1
      have g0 := HZ2.out.2 0
      have g1 := HZ2.out.2 1
      generalize hx0 : r.to s s.size = x0 at *
      generalize hy0 : r.lets s s.size = y0 at *
      have HXY := Lib.hid (And.intro hx0 hy0)
      clear hx0 hy0
      have FI : ∀ Wf, Wf = (wr.setCell ⟨W.heap.size + 1, 0, none⟩ (.int .i64 x0)).setCell ⟨W.heap.size + 1, 1, none⟩ (.int .i64 y0) → Wf.cell? ⟨W.heap.size + 1, 0, none⟩ = some (.int .i64 x0) ∧ Wf.cell? ⟨W.heap.size + 1, 1, none⟩ = some (.int .i64 y0) ∧ Below W.heap.size W Wf := by
        rintro Wf rfl
        exact ⟨by go_simp, by go_simp, (HB.out.setCell (p := ⟨W.heap.size + 1, 0, none⟩) (Nat.le_succ _) _).setCell (p := ⟨W.heap.size + 1, 1, none⟩) (Nat.le_succ _) _⟩
      have FIH := Lib.hid FI
      clear FI
      go_wp2
      obtain ⟨x1, x2, x3⟩ := FIH.out _ rfl
      refine bodyPost_ret (v := .agg #[.int .i64 x0, .int .i64 y0]) ?_ rfl ⟨by rw [HXY.out.1, HXY.out.2], x3⟩
      simp [results, Try.results93, go_sem, x1, x2]
end Go.Proofs.Ytgpjckmmleagbaa

namespace Go.Proofs.Ytgpjckmmleagbaa
open Go.RowKit

set_option maxHeartbeats 1000000 in
theorem implBroken_any (kind : Int) (letter thn : ByteArray) (many : Int) (s : ByteArray) (w : World) (h1 : letter.size ≤ maxLen) (h2 : thn.size ≤ maxLen) (hs : s.size ≤ maxLen) :
    Calls Try.prog 45 #[.agg #[.int .i64 kind, .string letter, .string thn, .int .i64 many], .string s] w
      fun e w' => e = .returned (.int .i64 ((Ru.mk kind letter thn many).broken s)) ∧ Below w.heap.size w w' := by
  by_cases hok : (Ru.mk kind letter thn many).ok = true
  · by_cases hw : wordOk s = true
    · have HB := Lib.hid (broken_yes hok hw)
      go_enter Try.func45, Try.ntmps45
      have HMF := Lib.hid (implMachineFor_any kind letter thn many (w.alloc (.cells #[.int .i64 kind, .string letter, .string thn, .int .i64 many] 45)) h1 h2)
      have HM2 := Lib.hid (And.intro (mf_yes hok) hok)
      have HFO := Lib.hid (fun B nv ev W hM => fold_any (Ru.mk kind letter thn many) hok s hw B nv ev W hM)
      go_wp2_with fail
      refine HMF.out.mono ?_
      rw [HM2.out.1, HM2.out.2]
      clear HMF
      rintro e w2 ⟨a1, a2, c1, c2, rfl, hA, hb2⟩
      have hI := IsInts.of_owns hA.head
      have hE := IsBools.of_owns hA.tail.head
      go_wp2_with (go_at_call 86; refine (implWordOk_any _ _ hs).mono ?_; rintro e w' ⟨rfl, rfl⟩)
      have hM := MachBox.new (st := (mfT (Ru.mk kind letter thn many)).st) 28 hI hE
      simp only [World.size_alloc] at hb2
      have q2 := (ru_cells kind letter thn many hb2).2.2.2.2.1
      have s2 := (ru_cells kind letter thn many hb2).2.2.2.2.2
      have q3 := q2.alloc (by omega) (.cells #[.int .i64 (mfT (Ru.mk kind letter thn many)).st, .slice a1 (mfT (Ru.mk kind letter thn many)).next.length c1, .slice a2 (mfT (Ru.mk kind letter thn many)).ends.length c2] 28)
      have hs3 : w.heap.size ≤ (w2.alloc (.cells #[.int .i64 (mfT (Ru.mk kind letter thn many)).st, .slice a1 (mfT (Ru.mk kind letter thn many)).next.length c1, .slice a2 (mfT (Ru.mk kind letter thn many)).ends.length c2] 28)).heap.size := by simp; omega
      refine (HFO.out _ _ _ _ hM).mono ?_
      rintro e w4 ⟨rfl, hb4⟩
      have q4 := Lib.hid (q3.trans (hb4.mono hs3))
      clear hA hb2 hI hE hM q2 q3 hs3 hb4 s2
      have HTB := Lib.hid (Ru.to_bd hok s s.size)
      have HLB := Lib.hid (lets_bd (Ru.mk kind letter thn many) s s.size)
      generalize (Ru.mk kind letter thn many).to s s.size = x0 at *
      generalize (Ru.mk kind letter thn many).lets s s.size = y0 at *
      by_cases hx : x0 = -1
      · subst hx
        have HRES : Hid ((Ru.mk kind letter thn many).broken s = y0) := by
          have : (Ru.mk kind letter thn many).broken s = y0 := by rw [HB.out, if_pos (by decide)]
          exact Lib.hid this
        go_wp2_with fail
        go_ret
        exact ⟨ret_int HRES.out.symm, q4.out.trans (((Below.refl _ _).alloc (Nat.le_refl _) _).mono q4.out.size)⟩
      · have hne : (x0 == -1) = false := by rw [beq_eq_false_iff_ne]; exact hx
        have HRES : Hid ((Ru.mk kind letter thn many).broken s = -1) := by
          have h0 := (HTB.out.resolve_left hx).1
          have : (Ru.mk kind letter thn many).broken s = -1 := by rw [HB.out, if_neg (by omega)]
          exact Lib.hid this
        go_wp2_with fail
        go_ret
        exact ⟨ret_int HRES.out.symm, q4.out.trans (((Below.refl _ _).alloc (Nat.le_refl _) _).mono q4.out.size)⟩
    · have hw' : wordOk s = false := by simpa using hw
      have HF := Lib.hid (broken_no (r := (Ru.mk kind letter thn many)) (s := s) (by simp [hw']))
      have HMF := Lib.hid (implMachineFor_any kind letter thn many (w.alloc (.cells #[.int .i64 kind, .string letter, .string thn, .int .i64 many] 45)) h1 h2)
      clear hw
      go_enter Try.func45, Try.ntmps45
      go_wp2_with fail
      refine HMF.out.mono ?_
      rw [hok]
      clear HMF
      rintro e w2 ⟨a1, a2, c1, c2, rfl, hA, hb2⟩
      simp only [World.size_alloc] at hb2
      have q2 := (ru_cells kind letter thn many hb2).2.2.2.2.1
      have s2 := (ru_cells kind letter thn many hb2).2.2.2.2.2
      have q3 := q2.alloc (by omega) (.cells #[.int .i64 (mf (Ru.mk kind letter thn many)).st, .slice a1 (mf (Ru.mk kind letter thn many)).next.length c1, .slice a2 (mf (Ru.mk kind letter thn many)).ends.length c2] 28)
      go_wp2_with (go_at_call 86; refine (implWordOk_any _ _ hs).mono ?_; rintro e w' ⟨rfl, rfl⟩)
      go_ret
      exact ⟨ret_int HF.out.symm, q3⟩
  · have hok' : (Ru.mk kind letter thn many).ok = false := by simpa using hok
    have HF := Lib.hid (broken_no (r := (Ru.mk kind letter thn many)) (s := s) (by simp [hok']))
    have HMF := Lib.hid (implMachineFor_any kind letter thn many (w.alloc (.cells #[.int .i64 kind, .string letter, .string thn, .int .i64 many] 45)) h1 h2)
    clear hok
    go_enter Try.func45, Try.ntmps45
    go_wp2_with fail
    refine HMF.out.mono ?_
    rw [hok']
    clear HMF
    rintro e w2 ⟨a1, a2, c1, c2, rfl, hA, hb2⟩
    simp only [World.size_alloc] at hb2
    have q2 := (ru_cells kind letter thn many hb2).2.2.2.2.1
    have s2 := (ru_cells kind letter thn many hb2).2.2.2.2.2
    have q3 := q2.alloc (by omega) (.cells #[.int .i64 (mf (Ru.mk kind letter thn many)).st, .slice a1 (mf (Ru.mk kind letter thn many)).next.length c1, .slice a2 (mf (Ru.mk kind letter thn many)).ends.length c2] 28)
    go_wp2_with fail
    go_ret
    exact ⟨ret_int HF.out.symm, q3⟩
end Go.Proofs.Ytgpjckmmleagbaa

namespace Go.Proofs.Ytgpjckmmleagbaa
open Go.RowKit

theorem exactBrokenAt_walk {w : World} (kind : Int) (_hk : (Lit.int .i64 kind).wf = true) (letter : ByteArray) (h1 : letter.size ≤ maxLen) (thn : ByteArray) (h2 : thn.size ≤ maxLen) (many : Int) (_hm : (Lit.int .i64 many).wf = true) (s : ByteArray) (hs : s.size ≤ maxLen) :
    Calls Try.prog 14 #[.agg #[.int .i64 kind, .string letter, .string thn, .int .i64 many], .string s] w fun e w' => e = .returned (.bool true) ∧ Below w.heap.size w w' := by
  have hs' := hs
  unfold maxLen at hs
  have b0 := Lib.hid (Below.refl (w.heap.size + 1) (w.alloc (.cells #[.int .i64 kind, .string letter, .string thn, .int .i64 many] 42)))
  by_cases hbig : 1048576 < s.size
  · go_enter Try.func14, Try.ntmps14
    go_wp2_with fail
    go_ret
    exact ⟨rfl, (ru_cells kind letter thn many b0.out).2.2.2.2.1⟩
  · go_enter Try.func14, Try.ntmps14
    go_wp2_with fail
    refine (szRule_any kind letter thn many 1048576 _ h1 h2 (by omega) (by omega)).mono ?_
    rintro e w1 ⟨rfl, hb1⟩
    simp only [World.size_alloc] at hb1
    have B1 := Lib.hid (b0.out.trans hb1)
    clear hb1
    by_cases hz : szR letter.size thn.size 1048576 < 0
    · go_wp2_with fail
      go_ret
      exact ⟨rfl, (ru_cells kind letter thn many B1.out).2.2.2.2.1⟩
    · generalize szR letter.size thn.size 1048576 = left at *
      obtain ⟨y0, y1, y2, y3, q1, s1⟩ := ru_cells kind letter thn many B1.out
      go_wp2_with fail
      clear y0 y1 y2 y3
      refine (toRule_any kind letter thn many _).mono ?_
      rintro e w2 ⟨rfl, hb2⟩
      have B2 := Lib.hid (B1.out.trans (hb2.mono s1))
      clear hb2 q1 s1 B1
      go_wp2_with fail
      refine (specBroken_any kind letter thn many s _ hs').mono ?_
      rintro e w3 ⟨rfl, hb3⟩
      obtain ⟨-, -, -, -, -, s2⟩ := ru_cells kind letter thn many B2.out
      have B3 := Lib.hid (B2.out.trans (hb3.mono s2))
      clear hb3 s2 B2
      obtain ⟨y0, y1, y2, y3, q3, s3⟩ := ru_cells kind letter thn many B3.out
      go_wp2_with fail
      clear y0 y1 y2 y3
      refine (toRule_any kind letter thn many _).mono ?_
      rintro e w4 ⟨rfl, hb4⟩
      have B4 := Lib.hid (B3.out.trans (hb4.mono s3))
      clear hb4 q3 s3 B3
      obtain ⟨-, -, -, -, q4, s4⟩ := ru_cells kind letter thn many B4.out
      go_wp2_with fail
      refine (implBroken_any kind letter thn many s _ h1 h2 hs').mono ?_
      rintro e w5 ⟨rfl, hb5⟩
      have B5 := Lib.hid (B4.out.trans (hb5.mono s4))
      clear hb5 q4 s4 B4
      go_wp2_with fail
      go_ret
      exact ⟨rfl, (ru_cells kind letter thn many B5.out).2.2.2.2.1⟩
end Go.Proofs.Ytgpjckmmleagbaa
