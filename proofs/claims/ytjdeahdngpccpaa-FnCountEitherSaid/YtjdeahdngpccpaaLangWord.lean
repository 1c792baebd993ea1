/- Words as rows of letters: what a machine takes is its language; of the trimmed and of the least machine the same. No condition. -/
import Derived.Test.YtjdeahdngpccpaaLeastAll
import Derived.Test.YtjdeahdngpccpaaTakes
namespace Go.Proofs.Ytjdeahdngpccpaa

def lettersF (l : List UInt8) : List (Fin 3) := l.map fun c => if c == 114 then 0 else if c == 100 then 1 else 2
theorem letter_one (c : UInt8) (h : isL c = true) : (((if c == 114 then 0 else if c == 100 then 1 else 2 : Fin 3)).val : Int) = letterOf (c.toNat : Int) := by
  simp only [isL, Bool.or_eq_true, beq_iff_eq] at h
  rcases h with (rfl | rfl) | rfl
  · decide
  · decide
  · decide
theorem goes_walk (m : M) (l : List UInt8) (h : allL l = true) : ∀ s, m.goes s l = m.walk s ((lettersF l).map fun x => x.val) := by
  induction l with
  | nil => intro s; rfl
  | cons c l ih =>
    intro s
    rw [allL, List.all_cons, Bool.and_eq_true] at h
    rw [M.goes, lettersF, List.map_cons, List.map_cons, M.walk, letter_one c h.1]
    exact ih h.2 _
theorem M.takes_lang {m : M} (hm : m.ok = true) {s : ByteArray} (hs : wordOk s = true) : m.takes s = m.lang 0 (lettersF s.data.toList) := by
  rw [M.takes, M.after_yes hm hs, M.lang, goes_walk m _ (by simp only [wordOk, Bool.and_eq_true] at hs; exact hs.1)]
theorem M.takes_not {m : M} {s : ByteArray} (h : m.ok = false ∨ wordOk s = false) : m.takes s = false := by
  have : m.after s = -2 := by
    rcases h with h | h
    · exact M.after_not s h
    · exact M.after_now s h
  rw [M.takes, this]; simp [M.endAt]
theorem M.takes_same {m k : M} (hm : m.ok = true) (hk : k.ok = true) (h : k.lang 0 = m.lang 0) (s : ByteArray) : k.takes s = m.takes s := by
  cases hs : wordOk s with
  | true => rw [M.takes_lang hm hs, M.takes_lang hk hs, h]
  | false => rw [M.takes_not (.inr hs), M.takes_not (.inr hs)]
theorem M.good_ok {k : M} (h : k.good) (h48 : k.st ≤ 48) : k.ok = true := by
  have hs := M.good_shape h
  rw [M.ok, Bool.and_eq_true]
  refine ⟨M.shape_iff.2 ⟨hs.1, h48, hs.2.2.1, hs.2.2.2⟩, ?_⟩
  rw [List.all_eq_true]
  intro x hx
  obtain ⟨i, hi, rfl⟩ := List.getElem_of_mem hx
  have := h.nxt i hi
  simp only [nextOk, Bool.and_eq_true, decide_eq_true_eq]
  omega
theorem IsLmZ.ok {m k : M} (hm : m.ok = true) (h : IsLmZ m k) : k.ok = true := by
  obtain ⟨h1, h2⟩ := h.1 hm
  exact M.good_ok (h1.good (by omega)) h2
theorem IsLmZ.takes {m k : M} (hm : m.ok = true) (h : IsLmZ m k) (s : ByteArray) : k.takes s = m.takes s := M.takes_same hm (h.ok hm) (h.1 hm).1.lang s
theorem tm_st {m : M} (hg : m.good) : (tm m).st ≤ m.st := by
  have h1 := trimN_le hg (lrounds m m.ends.length)
  have h2 := hg.st0
  show ((trimN m (lrounds m m.ends.length) : Nat) : Int) ≤ m.st
  omega
theorem tm_ok {m : M} (hm : m.ok = true) : (tm m).ok = true := by
  have hg := M.ok_good hm
  exact M.good_ok (tm_good hg) (by have := tm_st hg; have := (M.ok_shape hm).2.1; omega)
theorem tm_takes {m : M} (hm : m.ok = true) (s : ByteArray) : (tm m).takes s = m.takes s := M.takes_same hm (tm_ok hm) (tm_lang (M.ok_good hm)) s
theorem tmz_ok {m : M} (hm : m.ok = true) : tmz m = tm m := by rw [tmz, if_pos hm]
end Go.Proofs.Ytjdeahdngpccpaa
