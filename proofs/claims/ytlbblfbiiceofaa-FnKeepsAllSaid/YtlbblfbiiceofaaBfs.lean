/- Coming to states one after the other, each by three letters: the order, and the numbers. No program, no condition. -/
import Derived.Test.YtlbblfbiiceofaaStep
namespace Go.Proofs.Ytlbblfbiiceofaa

section
variable {α : Type} [DecidableEq α]

/-- one letter: the states that have been come to, and the numbers written -/
def bfs1 (p : List α × List Int) (t : Option α) : List α × List Int :=
  match t with
  | none => (p.1, p.2 ++ [-1])
  | some b => if b ∈ p.1 then (p.1, p.2 ++ [(p.1.idxOf b : Int)]) else (p.1 ++ [b], p.2 ++ [(p.1.length : Int)])
/-- the first letters of a state -/
def bfsL (on : α → Nat → Option α) (x : α) (p : List α × List Int) : Nat → List α × List Int
  | 0 => p
  | l + 1 => bfs1 (bfsL on x p l) (on x l)
/-- after so many states -/
def bfsTo (on : α → Nat → Option α) (s0 : α) : Nat → List α × List Int
  | 0 => ([s0], [])
  | n + 1 => match (bfsTo on s0 n).1[n]? with
    | some x => bfsL on x (bfsTo on s0 n) 3
    | none => bfsTo on s0 n

theorem bfs1_none (p : List α × List Int) : bfs1 p none = (p.1, p.2 ++ [-1]) := rfl
theorem bfs1_old {p : List α × List Int} {b : α} (h : b ∈ p.1) : bfs1 p (some b) = (p.1, p.2 ++ [(p.1.idxOf b : Int)]) := by simp [bfs1, h]
theorem bfs1_new {p : List α × List Int} {b : α} (h : b ∉ p.1) : bfs1 p (some b) = (p.1 ++ [b], p.2 ++ [(p.1.length : Int)]) := by simp [bfs1, h]
theorem bfs1_prefix (p : List α × List Int) (t : Option α) : p.1 <+: (bfs1 p t).1 := by
  unfold bfs1; split
  · exact List.prefix_refl _
  · split
    · exact List.prefix_refl _
    · exact List.prefix_append _ _
theorem bfs1_nodup {p : List α × List Int} (h : p.1.Nodup) (t : Option α) : (bfs1 p t).1.Nodup := by
  unfold bfs1; split
  · exact h
  · split
    · exact h
    · rename_i b hb
      exact List.nodup_append.2 ⟨h, by simp, by intro a ha c hc; simp at hc; subst hc; exact fun e => hb (e ▸ ha)⟩
theorem bfs1_len (p : List α × List Int) (t : Option α) : (bfs1 p t).2.length = p.2.length + 1 := by
  unfold bfs1; split
  · simp
  · split <;> simp
theorem bfs1_all {P : α → Prop} {p : List α × List Int} (h : ∀ x ∈ p.1, P x) {t : Option α} (ht : ∀ b, t = some b → P b) : ∀ x ∈ (bfs1 p t).1, P x := by
  unfold bfs1; split
  · exact h
  · split
    · exact h
    · intro x hx
      rcases List.mem_append.1 hx with hx | hx
      · exact h x hx
      · simp at hx; subst hx; exact ht _ rfl
theorem bfs1_num {p : List α × List Int} (h : ∀ x ∈ p.2, -1 ≤ x ∧ x < (p.1.length : Int)) (t : Option α) : ∀ x ∈ (bfs1 p t).2, -1 ≤ x ∧ x < ((bfs1 p t).1.length : Int) := by
  unfold bfs1; split
  · intro x hx
    rcases List.mem_append.1 hx with hx | hx
    · exact h x hx
    · simp at hx; subst hx; exact ⟨by omega, by omega⟩
  · split
    · rename_i b hb
      intro x hx
      rcases List.mem_append.1 hx with hx | hx
      · exact h x hx
      · simp at hx; subst hx
        have := List.idxOf_lt_length_of_mem hb
        exact ⟨by omega, by simp; omega⟩
    · intro x hx
      rcases List.mem_append.1 hx with hx | hx
      · have := h x hx
        rw [List.length_append]
        exact ⟨this.1, by simp; omega⟩
      · simp at hx; subst hx
        rw [List.length_append]
        exact ⟨by omega, by simp; omega⟩
theorem bfsL_prefix (on : α → Nat → Option α) (x : α) (p : List α × List Int) (l : Nat) : p.1 <+: (bfsL on x p l).1 := by
  induction l with
  | zero => exact List.prefix_refl _
  | succ l ih => exact ih.trans (bfs1_prefix _ _)
theorem bfsL_nodup (on : α → Nat → Option α) (x : α) {p : List α × List Int} (h : p.1.Nodup) (l : Nat) : (bfsL on x p l).1.Nodup := by
  induction l with
  | zero => exact h
  | succ l ih => exact bfs1_nodup ih _
theorem bfsL_len (on : α → Nat → Option α) (x : α) (p : List α × List Int) (l : Nat) : (bfsL on x p l).2.length = p.2.length + l := by
  induction l with
  | zero => rfl
  | succ l ih => rw [bfsL, bfs1_len, ih]; omega
theorem bfsL_all {P : α → Prop} (on : α → Nat → Option α) (x : α) {p : List α × List Int} (h : ∀ y ∈ p.1, P y) (hx : ∀ l b, l < 3 → on x l = some b → P b) (l : Nat) (hl : l ≤ 3) : ∀ y ∈ (bfsL on x p l).1, P y := by
  induction l with
  | zero => exact h
  | succ l ih => exact bfs1_all (ih (by omega)) (fun b e => hx l b (by omega) e)
theorem bfsL_num (on : α → Nat → Option α) (x : α) {p : List α × List Int} (h : ∀ y ∈ p.2, -1 ≤ y ∧ y < (p.1.length : Int)) (l : Nat) : ∀ y ∈ (bfsL on x p l).2, -1 ≤ y ∧ y < ((bfsL on x p l).1.length : Int) := by
  induction l with
  | zero => exact h
  | succ l ih => exact bfs1_num ih _
theorem bfsL_mono (on : α → Nat → Option α) (x : α) (p : List α × List Int) {l k : Nat} (h : l ≤ k) : (bfsL on x p l).1 <+: (bfsL on x p k).1 := by
  induction k with
  | zero => obtain rfl : l = 0 := by omega
            exact List.prefix_refl _
  | succ k ih =>
    by_cases e : l = k + 1
    · subst e; exact List.prefix_refl _
    · exact (ih (by omega)).trans (bfs1_prefix _ _)
theorem bfsTo_step {on : α → Nat → Option α} {s0 : α} {n : Nat} (h : n < (bfsTo on s0 n).1.length) : bfsTo on s0 (n + 1) = bfsL on (bfsTo on s0 n).1[n] (bfsTo on s0 n) 3 := by
  rw [bfsTo, List.getElem?_eq_getElem h]
theorem bfsTo_stop {on : α → Nat → Option α} {s0 : α} {n : Nat} (h : (bfsTo on s0 n).1.length ≤ n) : bfsTo on s0 (n + 1) = bfsTo on s0 n := by
  rw [bfsTo, List.getElem?_eq_none h]
theorem bfsTo_prefix (on : α → Nat → Option α) (s0 : α) (n : Nat) : (bfsTo on s0 n).1 <+: (bfsTo on s0 (n + 1)).1 := by
  by_cases h : n < (bfsTo on s0 n).1.length
  · rw [bfsTo_step h]; exact bfsL_prefix _ _ _ _
  · rw [bfsTo_stop (by omega)]; exact List.prefix_refl _
theorem bfsTo_prefix' (on : α → Nat → Option α) (s0 : α) {n k : Nat} (h : n ≤ k) : (bfsTo on s0 n).1 <+: (bfsTo on s0 k).1 := by
  induction k with
  | zero => obtain rfl : n = 0 := by omega
            exact List.prefix_refl _
  | succ k ih =>
    by_cases e : n = k + 1
    · subst e; exact List.prefix_refl _
    · exact (ih (by omega)).trans (bfsTo_prefix _ _ _)
theorem bfsTo_nodup (on : α → Nat → Option α) (s0 : α) (n : Nat) : (bfsTo on s0 n).1.Nodup := by
  induction n with
  | zero => simp [bfsTo]
  | succ n ih =>
    by_cases h : n < (bfsTo on s0 n).1.length
    · rw [bfsTo_step h]; exact bfsL_nodup _ _ ih _
    · rw [bfsTo_stop (by omega)]; exact ih
theorem bfsTo_pos (on : α → Nat → Option α) (s0 : α) (n : Nat) : 0 < (bfsTo on s0 n).1.length := by
  have := (bfsTo_prefix' on s0 (Nat.zero_le n)).length_le
  exact Nat.lt_of_lt_of_le (by simp [bfsTo]) this
theorem bfsTo_all {P : α → Prop} {on : α → Nat → Option α} {s0 : α} (h0 : P s0) (hs : ∀ x, P x → ∀ l b, l < 3 → on x l = some b → P b) (n : Nat) : ∀ y ∈ (bfsTo on s0 n).1, P y := by
  induction n with
  | zero => intro y hy; simp [bfsTo] at hy; subst hy; exact h0
  | succ n ih =>
    by_cases h : n < (bfsTo on s0 n).1.length
    · rw [bfsTo_step h]; exact bfsL_all _ _ ih (hs _ (ih _ (List.getElem_mem h))) 3 (Nat.le_refl _)
    · rw [bfsTo_stop (by omega)]; exact ih
theorem bfsTo_num (on : α → Nat → Option α) (s0 : α) (n : Nat) : ∀ y ∈ (bfsTo on s0 n).2, -1 ≤ y ∧ y < ((bfsTo on s0 n).1.length : Int) := by
  induction n with
  | zero => simp [bfsTo]
  | succ n ih =>
    by_cases h : n < (bfsTo on s0 n).1.length
    · rw [bfsTo_step h]; exact bfsL_num _ _ ih 3
    · rw [bfsTo_stop (by omega)]; exact ih
theorem bfsTo_len {on : α → Nat → Option α} {s0 : α} (n : Nat) (h : n ≤ (bfsTo on s0 n).1.length) : (bfsTo on s0 n).2.length = 3 * n := by
  induction n with
  | zero => rfl
  | succ n ih =>
    by_cases hn : n < (bfsTo on s0 n).1.length
    · rw [bfsTo_step hn, bfsL_len, ih (by omega)]; omega
    · rw [bfsTo_stop (by omega)] at h; omega
/-- where the search ends -/
theorem bfsTo_end {on : α → Nat → Option α} {s0 : α} {C : Nat} (hC : ∀ n, (bfsTo on s0 n).1.length ≤ C) : ∃ n, n ≤ C ∧ (bfsTo on s0 n).1.length = n := by
  have : ∀ k, (∃ n, n ≤ C ∧ (bfsTo on s0 n).1.length = n) ∨ k < (bfsTo on s0 k).1.length := by
    intro k
    induction k with
    | zero => exact .inr (bfsTo_pos _ _ _)
    | succ k ih =>
      rcases ih with h | h
      · exact .inl h
      · have h2 := (bfsTo_prefix on s0 k).length_le
        by_cases e : (bfsTo on s0 (k + 1)).1.length = k + 1
        · exact .inl ⟨k + 1, by have := hC (k + 1); omega, e⟩
        · exact .inr (by omega)
  rcases this C with h | h
  · exact h
  · have := hC C; omega
theorem bfsTo_stays {on : α → Nat → Option α} {s0 : α} {n : Nat} (h : (bfsTo on s0 n).1.length = n) {k : Nat} (hk : n ≤ k) : bfsTo on s0 k = bfsTo on s0 n := by
  induction k with
  | zero => obtain rfl : n = 0 := by omega
            rfl
  | succ k ih =>
    by_cases e : n = k + 1
    · subst e; rfl
    · have e2 := ih (by omega)
      rw [bfsTo_stop (by rw [e2, h]; omega), e2]
theorem bfsTo_one {on : α → Nat → Option α} {s0 : α} {n k : Nat} (h : (bfsTo on s0 n).1.length = n) (g : (bfsTo on s0 k).1.length = k) : n = k := by
  rcases Nat.le_total n k with hk | hk
  · have := bfsTo_stays h hk
    rw [this, h] at g; exact g
  · have := bfsTo_stays g hk
    rw [this, g] at h; exact h.symm
/-- the search goes on, while it has not ended, to no more states than at its end -/
theorem bfsTo_le {on : α → Nat → Option α} {s0 : α} {n : Nat} (h : (bfsTo on s0 n).1.length = n) (k : Nat) : (bfsTo on s0 k).1.length ≤ n := by
  rcases Nat.le_total n k with hk | hk
  · rw [bfsTo_stays h hk, h]; exact Nat.le_refl _
  · have := (bfsTo_prefix' on s0 hk).length_le
    omega

end

section
variable {α β : Type} [DecidableEq α] [DecidableEq β]
theorem idxOf_map {f : α → β} {b : α} : ∀ {l : List α}, (∀ a ∈ l, f a = f b → a = b) → (l.map f).idxOf (f b) = l.idxOf b
  | [], _ => rfl
  | a :: l, h => by
    rw [List.map_cons, List.idxOf_cons, List.idxOf_cons]
    by_cases e : a = b
    · simp [e]
    · have : f a ≠ f b := fun e2 => e (h a List.mem_cons_self e2)
      have h1 : (f a == f b) = false := by simpa using this
      have h2 : (a == b) = false := by simpa using e
      rw [h1, h2, cond_false, cond_false, idxOf_map (fun a ha => h a (List.mem_cons_of_mem _ ha))]
theorem bfs1_map {f : α → β} {p : List α × List Int} {t : Option α} (h : ∀ b, t = some b → ∀ a ∈ p.1, f a = f b → a = b) :
    bfs1 (p.1.map f, p.2) (t.map f) = ((bfs1 p t).1.map f, (bfs1 p t).2) := by
  cases t with
  | none => rfl
  | some b =>
    have hb := h b rfl
    show bfs1 (p.1.map f, p.2) (some (f b)) = _
    by_cases e : b ∈ p.1
    · rw [bfs1_old e, bfs1_old (p := (p.1.map f, p.2)) (List.mem_map_of_mem (f := f) e)]
      simp only [idxOf_map hb]
    · have e2 : f b ∉ (p.1.map f, p.2).1 := by
        intro hm
        obtain ⟨a, ha, hf⟩ := List.mem_map.1 hm
        exact e (hb a ha hf ▸ ha)
      rw [bfs1_new e, bfs1_new e2]
      simp
/-- two searches of one form go alike -/
theorem bfsTo_map {f : α → β} {P : α → Prop} {on : α → Nat → Option α} {on' : β → Nat → Option β} {s0 : α} (h0 : P s0) (hs : ∀ x, P x → ∀ l b, l < 3 → on x l = some b → P b)
    (hf : ∀ a b, P a → P b → f a = f b → a = b) (ho : ∀ x, P x → ∀ l, l < 3 → on' (f x) l = (on x l).map f) (n : Nat) :
    bfsTo on' (f s0) n = ((bfsTo on s0 n).1.map f, (bfsTo on s0 n).2) := by
  have hL : ∀ x (p : List α × List Int), P x → (∀ y ∈ p.1, P y) → ∀ l, l ≤ 3 → bfsL on' (f x) (p.1.map f, p.2) l = ((bfsL on x p l).1.map f, (bfsL on x p l).2) := by
    intro x p hx hp l
    induction l with
    | zero => intro _; rfl
    | succ l ih =>
      intro hl
      rw [bfsL, ih (by omega), ho x hx l (by omega), bfs1_map, bfsL]
      intro b hb a ha hab
      exact hf a b (bfsL_all on x hp (hs x hx) l (by omega) a ha) (hs x hx l b (by omega) hb) hab
  induction n with
  | zero => rfl
  | succ n ih =>
    by_cases h : n < (bfsTo on s0 n).1.length
    · have h' : n < (bfsTo on' (f s0) n).1.length := by rw [ih]; simpa using h
      rw [bfsTo_step h, bfsTo_step h']
      have hP := bfsTo_all h0 hs n
      have e : (bfsTo on' (f s0) n).1[n] = f (bfsTo on s0 n).1[n] := by simp [ih]
      rw [e, ih]
      exact hL _ _ (hP _ (List.getElem_mem h)) hP 3 (Nat.le_refl _)
    · have h1 : (bfsTo on s0 n).1.length ≤ n := by omega
      have h2 : (bfsTo on' (f s0) n).1.length ≤ n := by rw [ih]; simpa using h1
      rw [bfsTo_stop h1, bfsTo_stop h2, ih]
end
end Go.Proofs.Ytlbblfbiiceofaa
