/- The search for the shortest word that a machine takes, as plain data. No program is named here. No condition. -/
import Derived.Test.YtlbblfbiiceofaaStep
import Derived.Test.YtlbblfbiiceofaaRuleMath
namespace Go.Proofs.Ytlbblfbiiceofaa

/-- a state, and the word that led to it -/
abbrev SW := Int × ByteArray
def letS (l : Nat) : ByteArray := ⟨#[byteOf l]⟩
def sh1 (m : M) (x : SW) (q : List SW) (l : Nat) : List SW := if x.2.size < 14 ∧ 0 ≤ m.nx x.1 l ∧ m.nx x.1 l ∉ q.map Prod.fst then q ++ [(m.nx x.1 l, x.2 ++ letS l)] else q
def shL (m : M) (x : SW) (q : List SW) : Nat → List SW
  | 0 => q
  | l + 1 => sh1 m x (shL m x q l) l
def shTo (m : M) : Nat → List SW
  | 0 => [(0, ⟨#[]⟩)]
  | n + 1 => match (shTo m n)[n]? with
    | some x => shL m x (shTo m n) 3
    | none => shTo m n
theorem sh1_prefix (m : M) (x : SW) (q : List SW) (l : Nat) : q <+: sh1 m x q l := by
  unfold sh1; split
  · exact List.prefix_append _ _
  · exact List.prefix_rfl
theorem shL_prefix (m : M) (x : SW) (q : List SW) (l : Nat) : q <+: shL m x q l := by
  induction l with
  | zero => exact List.prefix_rfl
  | succ l ih => exact ih.trans (sh1_prefix m x _ l)
theorem shTo_step {m : M} {n : Nat} (h : n < (shTo m n).length) : shTo m (n + 1) = shL m (shTo m n)[n] (shTo m n) 3 := by
  rw [shTo, List.getElem?_eq_getElem h]
/-- what every element of the search keeps -/
structure SGood (m : M) (x : SW) : Prop where
  s0 : 0 ≤ x.1
  s1 : x.1 < m.st
  ok : wordOk x.2 = true
  go : m.goes 0 x.2.data.toList = x.1
structure Sh (m : M) (q : List SW) : Prop where
  all : ∀ x ∈ q, SGood m x
  nd : (q.map Prod.fst).Nodup
  pos : 0 < q.length
  fst : 0 ∈ q.map Prod.fst
theorem wordOk_more {s : ByteArray} (h : wordOk s = true) (h14 : s.size < 14) (l : Nat) (hl : l < 3) : wordOk (s ++ letS l) = true := by
  simp only [wordOk, Bool.and_eq_true, decide_eq_true_eq, allL, List.all_eq_true] at h ⊢
  refine ⟨fun x hx => ?_, ?_⟩
  · rw [ByteArray.data_append, Array.toList_append, List.mem_append] at hx
    rcases hx with hx | hx
    · exact h.1 x hx
    · have : x = byteOf l := by simpa [letS] using hx
      subst this
      match l, hl with
      | 0, _ => decide
      | 1, _ => decide
      | 2, _ => decide
  · rw [ByteArray.size_append]
    have : (letS l).size = 1 := rfl
    omega
theorem wordOk_full {s : ByteArray} (h14 : ¬ s.size < 14) (l : Nat) : wordOk (s ++ letS l) = false := by
  cases hw : wordOk (s ++ letS l) with
  | false => rfl
  | true =>
    simp only [wordOk, Bool.and_eq_true, decide_eq_true_eq] at hw
    rw [ByteArray.size_append] at hw
    have : (letS l).size = 1 := rfl
    omega
theorem goes_more (m : M) (s : ByteArray) (l : Nat) (hl : l < 3) : m.goes 0 (s ++ letS l).data.toList = m.nx (m.goes 0 s.data.toList) l := by
  rw [ByteArray.data_append, Array.toList_append, M.goes_append]
  match l, hl with
  | 0, _ => rfl
  | 1, _ => rfl
  | 2, _ => rfl
theorem Sh.one {m : M} (hm : m.ok = true) {q : List SW} (h : Sh m q) {x : SW} (hx : SGood m x) (l : Nat) (hl : l < 3) : Sh m (sh1 m x q l) := by
  unfold sh1
  split
  · rename_i hc
    obtain ⟨c1, c2, c3⟩ := hc
    refine ⟨fun y hy => ?_, ?_, by simp, ?_⟩
    · rcases List.mem_append.1 hy with hy | hy
      · exact h.all y hy
      · obtain rfl := List.mem_singleton.1 hy
        exact ⟨c2, (M.nx_bd hm x.1 l hx.s1 (by omega) (by omega)).2, wordOk_more hx.ok c1 l hl, by rw [goes_more m x.2 l hl, hx.go]⟩
    · rw [List.map_append, List.nodup_append]
      refine ⟨h.nd, by simp, ?_⟩
      intro a ha b hb e
      subst e
      simp only [List.map_cons, List.map_nil, List.mem_singleton] at hb
      exact c3 (hb ▸ ha)
    · rw [List.map_append, List.mem_append]; exact .inl h.fst
  · exact h
theorem Sh.many {m : M} (hm : m.ok = true) {q : List SW} (h : Sh m q) {x : SW} (hx : SGood m x) : ∀ l, l ≤ 3 → Sh m (shL m x q l)
  | 0, _ => h
  | l + 1, hl => (Sh.many hm h hx l (by omega)).one hm hx l (by omega)
theorem Sh.start {m : M} (hm : m.ok = true) : Sh m (shTo m 0) := by
  refine ⟨fun x hx => ?_, by simp [shTo], by simp [shTo], by simp [shTo]⟩
  obtain rfl := List.mem_singleton.1 hx
  exact ⟨Int.le_refl _, by have := (M.ok_shape hm).1; show (0 : Int) < m.st; omega, by decide, rfl⟩
theorem Sh.to {m : M} (hm : m.ok = true) : ∀ n, Sh m (shTo m n)
  | 0 => Sh.start hm
  | n + 1 => by
    have ih := Sh.to hm n
    by_cases hn : n < (shTo m n).length
    · rw [shTo_step hn]; exact ih.many hm (ih.all _ (List.getElem_mem hn)) 3 (Nat.le_refl _)
    · rw [shTo, List.getElem?_eq_none (by omega)]; exact ih
theorem nodup_bd : ∀ (n : Nat) (l : List Int), l.Nodup → (∀ x ∈ l, 0 ≤ x ∧ x < (n : Int)) → l.length ≤ n
  | 0, l, _, h => by
    cases l with
    | nil => simp
    | cons x l => have := h x List.mem_cons_self; omega
  | n + 1, l, hn, h => by
    have h2 := nodup_bd n (l.erase (n : Int)) (hn.erase _) (fun x hx => by
      have h3 := h x (List.mem_of_mem_erase hx)
      have h4 : x ≠ n := fun e => by subst e; exact (List.Nodup.not_mem_erase hn) hx
      omega)
    have h5 := List.length_erase (a := (n : Int)) (l := l)
    split at h5 <;> omega
theorem Sh.len {m : M} (hm : m.ok = true) {q : List SW} (h : Sh m q) : q.length ≤ 48 := by
  have h1 := M.ok_shape hm
  have h2 := nodup_bd m.st.toNat (q.map Prod.fst) h.nd (fun x hx => by
    obtain ⟨y, hy, rfl⟩ := List.mem_map.1 hx
    have := h.all y hy
    have a := this.s0
    have b := this.s1
    omega)
  rw [List.length_map] at h2
  omega
/-- the word found at the n-th element -/
def hitAt (m : M) (n : Nat) : Option ByteArray := match (shTo m n)[n]? with
  | some x => if m.endAt x.1 = true then some x.2 else none
  | none => none
def IsShort (m : M) (r : Option ByteArray) : Prop :=
  ∃ n, (∀ j, j < n → j < (shTo m j).length ∧ hitAt m j = none) ∧ ((∃ w, hitAt m n = some w ∧ r = some w) ∨ ((shTo m n).length ≤ n ∧ r = none))
theorem hitAt_lt {m : M} {n : Nat} {w : ByteArray} (h : hitAt m n = some w) : n < (shTo m n).length := by
  rcases Nat.lt_or_ge n (shTo m n).length with h' | h'
  · exact h'
  · rw [hitAt, List.getElem?_eq_none h'] at h; cases h
theorem IsShort.one {m : M} {r r' : Option ByteArray} (h : IsShort m r) (h' : IsShort m r') : r = r' := by
  obtain ⟨n, h1, h2⟩ := h
  obtain ⟨k, k1, k2⟩ := h'
  rcases Nat.lt_trichotomy n k with hlt | rfl | hgt
  · obtain ⟨a, b⟩ := k1 n hlt
    rcases h2 with ⟨w, h2, -⟩ | ⟨h2, -⟩
    · rw [b] at h2; cases h2
    · omega
  · rcases h2 with ⟨w, h2, rfl⟩ | ⟨h2, rfl⟩
    · rcases k2 with ⟨u, k2, rfl⟩ | ⟨k2, -⟩
      · rw [h2] at k2; exact k2
      · have := hitAt_lt h2; omega
    · rcases k2 with ⟨u, k2, -⟩ | ⟨k2, rfl⟩
      · have := hitAt_lt k2; omega
      · rfl
  · obtain ⟨a, b⟩ := h1 k hgt
    rcases k2 with ⟨w, k2, -⟩ | ⟨k2, -⟩
    · rw [b] at k2; cases k2
    · omega
theorem hitAt_yes {m : M} {n : Nat} (h : n < (shTo m n).length) (he : m.endAt (shTo m n)[n].1 = true) : hitAt m n = some (shTo m n)[n].2 := by
  rw [hitAt, List.getElem?_eq_getElem h]; simp [he]
theorem hitAt_no {m : M} {n : Nat} (h : n < (shTo m n).length) (he : m.endAt (shTo m n)[n].1 = false) : hitAt m n = none := by
  rw [hitAt, List.getElem?_eq_getElem h]; simp [he]
end Go.Proofs.Ytlbblfbiiceofaa
