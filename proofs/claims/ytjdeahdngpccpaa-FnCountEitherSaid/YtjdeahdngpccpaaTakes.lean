/- TakesOk, the model's and the program's. No condition. -/
import Derived.Test.YtjdeahdngpccpaaAfter
namespace Go.Proofs.Ytjdeahdngpccpaa
open Go.RowKit

theorem M.endAt_at {m : M} (h : m.ok = true) (s : Int) (h0 : 0 ≤ s) (h1 : s < m.st) : ∃ k : Nat, (k : Int) = s ∧ ∃ hk : k < m.ends.length, m.endAt s = m.ends[k] := by
  have hs := M.ok_shape h
  have hk : s.toNat < m.ends.length := by omega
  refine ⟨s.toNat, by omega, hk, ?_⟩
  rw [M.endAt, if_neg (by omega), List.getD_eq_getElem?_getD, List.getElem?_eq_getElem hk]; rfl
theorem M.endAt_neg (m : M) (s : Int) (h : s < 0) : m.endAt s = false := by rw [M.endAt, if_pos h]
theorem M.after_bd (m : M) (word : ByteArray) (h : 0 ≤ m.after word) : m.ok = true ∧ wordOk word = true ∧ m.after word < m.st := by
  cases hk : m.ok with
  | false => rw [M.after_not word hk] at h; omega
  | true =>
    cases hw : wordOk word with
    | false => rw [M.after_now word hw] at h; omega
    | true =>
      refine ⟨rfl, rfl, ?_⟩
      rw [M.after_yes hk hw]
      exact (M.goes_bd hk 0 _ (by omega) (by have := M.ok_shape hk; omega) (wordOk_all hw)).2

set_option maxHeartbeats 800000 in
theorem specTakesOk_any (m : M) (word : ByteArray) (nv ev : Value) (w : World) (h1 : IsInts w nv m.next) (h2 : IsBools w ev m.ends) (hst : (Lit.int .i64 m.st).wf = true) (hs : word.size ≤ maxLen) :
    Calls Try.prog 85 #[.agg #[.int .i64 m.st, nv, ev], .string word] w fun e w' => e = .returned (.bool (m.takes word)) ∧ Below w.heap.size w w' := by
  have hM : MachBox w.heap.size m.st nv m.next ev m.ends (w.alloc (.cells #[.int .i64 m.st, nv, ev] 26)) := MachBox.new _ h1 h2
  have M0 := Lib.hid hM
  have q0 : Hid (Below w.heap.size w (w.alloc (.cells #[.int .i64 m.st, nv, ev] 26))) := Lib.hid ((Below.refl _ _).alloc (Nat.le_refl _) _)
  clear hM h1 h2
  go_enter Try.func85, Try.ntmps85
  go_wp2_with fail
  refine (specStateAfter_any m word nv ev _ M0.out.ints M0.out.bools hst hs).mono ?_
  rintro e w1 ⟨rfl, hb1⟩
  have M1 := Lib.hid (M0.out.below hb1)
  have q1 := Lib.hid (q0.out.trans (hb1.mono q0.out.size))
  clear hb1
  have HT : Hid (m.takes word = m.endAt (m.after word)) := Lib.hid rfl
  have HB := Lib.hid (M.after_bd m word)
  generalize m.after word = p at *
  have y12 := M1.out.c2
  by_cases hp : 0 ≤ p
  · obtain ⟨hk, -, hlt⟩ := HB.out hp
    obtain ⟨i, hi1, hi2, hi3⟩ := M.endAt_at hk p hp hlt
    obtain ⟨b, cap, rfl, hb1, hb2, hb⟩ := M1.out.bools
    obtain ⟨g, off, rfl, hg, hc⟩ := hb.resolve_left (fun h => by rw [h] at hi2; exact absurd hi2 (Nat.not_lt_zero i))
    have hcell := hc i hi2
    unfold maxLen at hb2
    have HE := Lib.hid (HT.out.trans hi3)
    have hil : i < m.ends.length := hi2
    generalize m.ends[i] = d at hcell HE
    have hsh := M.ok_shape hk
    have hn : m.ends.length ≤ 48 := by omega
    clear hsh hi3 hb hc hk HB HT hi2
    subst hi1
    go_wp2_with fail
    go_ret
    exact ⟨ret_bool HE.out.symm, q1.out⟩
  · have HE := Lib.hid (HT.out.trans (M.endAt_neg m p (by omega)))
    clear HB HT
    go_wp2_with fail
    go_ret
    exact ⟨ret_bool HE.out.symm, q1.out⟩

set_option maxHeartbeats 800000 in
theorem implTakesOk_any (m : M) (word : ByteArray) (nv ev : Value) (w : World) (h1 : IsInts w nv m.next) (h2 : IsBools w ev m.ends) (hst : (Lit.int .i64 m.st).wf = true) (hs : word.size ≤ maxLen) :
    Calls Try.prog 22 #[.agg #[.int .i64 m.st, nv, ev], .string word] w fun e w' => e = .returned (.bool (m.takes word)) ∧ Below w.heap.size w w' := by
  have hM : MachBox w.heap.size m.st nv m.next ev m.ends (w.alloc (.cells #[.int .i64 m.st, nv, ev] 26)) := MachBox.new _ h1 h2
  have M0 := Lib.hid hM
  have q0 : Hid (Below w.heap.size w (w.alloc (.cells #[.int .i64 m.st, nv, ev] 26))) := Lib.hid ((Below.refl _ _).alloc (Nat.le_refl _) _)
  clear hM h1 h2
  go_enter Try.func22, Try.ntmps22
  go_wp2_with fail
  refine (implStateAfter_any m word nv ev _ M0.out.ints M0.out.bools hst hs).mono ?_
  rintro e w1 ⟨rfl, hb1⟩
  have M1 := Lib.hid (M0.out.below hb1)
  have q1 := Lib.hid (q0.out.trans (hb1.mono q0.out.size))
  clear hb1
  have HT : Hid (m.takes word = m.endAt (m.after word)) := Lib.hid rfl
  have HB := Lib.hid (M.after_bd m word)
  generalize m.after word = p at *
  have y12 := M1.out.c2
  by_cases hp : 0 ≤ p
  · obtain ⟨hk, -, hlt⟩ := HB.out hp
    obtain ⟨i, hi1, hi2, hi3⟩ := M.endAt_at hk p hp hlt
    obtain ⟨b, cap, rfl, hb1, hb2, hb⟩ := M1.out.bools
    obtain ⟨g, off, rfl, hg, hc⟩ := hb.resolve_left (fun h => by rw [h] at hi2; exact absurd hi2 (Nat.not_lt_zero i))
    have hcell := hc i hi2
    unfold maxLen at hb2
    have HE := Lib.hid (HT.out.trans hi3)
    have hil : i < m.ends.length := hi2
    generalize m.ends[i] = d at hcell HE
    have hsh := M.ok_shape hk
    have hn : m.ends.length ≤ 48 := by omega
    clear hsh hi3 hb hc hk HB HT hi2
    subst hi1
    go_wp2_with fail
    go_ret
    exact ⟨ret_bool HE.out.symm, q1.out⟩
  · have HE := Lib.hid (HT.out.trans (M.endAt_neg m p (by omega)))
    clear HB HT
    go_wp2_with fail
    go_ret
    exact ⟨ret_bool HE.out.symm, q1.out⟩
end Go.Proofs.Ytjdeahdngpccpaa
