/- The states before each state, and the search back from the ends. No program, no condition. -/
import Derived.Test.YtlbblfbiiceofaaLive
namespace Go.Proofs.Ytlbblfbiiceofaa

/-- the states before each state, of the first letters -/
def preds (m : M) : Nat → List (List Int)
  | 0 => List.replicate m.ends.length []
  | k + 1 => if 0 ≤ m.next.getD k (-1) then (preds m k).set (m.next.getD k (-1)).toNat ((preds m k).getD (m.next.getD k (-1)).toNat [] ++ [((k / 3 : Nat) : Int)]) else preds m k
theorem preds_length (m : M) (k : Nat) : (preds m k).length = m.ends.length := by
  induction k with
  | zero => simp [preds]
  | succ k ih => rw [preds]; split <;> simp [ih]
theorem getD_set_list {B : List (List Int)} {t s : Nat} {x : List Int} (ht : t < B.length) : (B.set t x).getD s [] = if t = s then x else B.getD s [] := by
  rw [List.getD_eq_getElem?_getD, List.getD_eq_getElem?_getD]
  by_cases e : t = s
  · subst e; rw [List.getElem?_set_self ht, if_pos rfl]; rfl
  · rw [List.getElem?_set_ne e, if_neg e]
theorem preds_mem {m : M} (hm : m.good) (k : Nat) (hk : k ≤ m.next.length) (s : Nat) (p : Int) : p ∈ (preds m k).getD s [] ↔ ∃ i, i < k ∧ m.next.getD i (-1) = (s : Int) ∧ p = ((i / 3 : Nat) : Int) := by
  induction k with
  | zero =>
    constructor
    · intro h
      have : (preds m 0).getD s [] = [] := by
        rw [preds, List.getD_eq_getElem?_getD, List.getElem?_replicate]; split <;> rfl
      rw [this] at h; cases h
    · rintro ⟨i, hi, _⟩; omega
  | succ k ih =>
    have ih := ih (by omega)
    have hb := hm.nxt k (by omega)
    have hs := M.good_shape hm
    have e : m.next.getD k (-1) = m.next[k] := by rw [List.getD_eq_getElem?_getD, List.getElem?_eq_getElem (by omega)]; rfl
    rw [preds]
    split
    · rename_i h0
      have htl : (m.next.getD k (-1)).toNat < (preds m k).length := by rw [preds_length]; omega
      rw [getD_set_list htl]
      split
      · rename_i e2
        rw [List.mem_append, List.mem_singleton, e2, ih]
        constructor
        · rintro (⟨i, h1, h2, h3⟩ | rfl)
          · exact ⟨i, by omega, h2, h3⟩
          · exact ⟨k, Nat.lt_succ_self k, (by rw [← e2]; exact (Int.toNat_of_nonneg h0).symm), rfl⟩
        · rintro ⟨i, h1, h2, h3⟩
          by_cases e3 : i = k
          · subst e3; exact .inr h3
          · exact .inl ⟨i, by omega, h2, h3⟩
      · rename_i e2
        rw [ih]
        constructor
        · rintro ⟨i, h1, h2, h3⟩; exact ⟨i, by omega, h2, h3⟩
        · rintro ⟨i, h1, h2, h3⟩
          by_cases e3 : i = k
          · subst e3; exact absurd (by rw [h2]; exact Int.toNat_natCast s) e2
          · exact ⟨i, by omega, h2, h3⟩
    · rename_i h0
      rw [ih]
      constructor
      · rintro ⟨i, h1, h2, h3⟩; exact ⟨i, by omega, h2, h3⟩
      · rintro ⟨i, h1, h2, h3⟩
        by_cases e3 : i = k
        · subst e3; exact absurd (by rw [h2]; exact Int.natCast_nonneg s) h0
        · exact ⟨i, by omega, h2, h3⟩
/-- the states before a state -/
def before (m : M) (s : Int) : List Int := (preds m m.next.length).getD s.toNat []
theorem before_in {m : M} (hm : m.good) {s p : Int} (h : p ∈ before m s) : 0 ≤ p ∧ p < m.ends.length := by
  have hs := M.good_shape hm
  obtain ⟨i, h1, _, rfl⟩ := (preds_mem hm _ (Nat.le_refl _) s.toNat p).1 h
  omega
theorem before_live {m : M} (hm : m.good) {s p : Int} (h0 : 0 ≤ s) (h : p ∈ before m s) (hl : m.Live s) : m.Live p := by
  obtain ⟨i, h1, h2, rfl⟩ := (preds_mem hm _ (Nat.le_refl _) s.toNat p).1 h
  refine live_step (l := i % 3) (Nat.mod_lt _ (by omega)) ?_
  have : m.nx ((i / 3 : Nat) : Int) ((i % 3 : Nat) : Int) = s := by
    rw [M.nx, if_neg (by omega), show (3 * ((i / 3 : Nat) : Int) + ((i % 3 : Nat) : Int)).toNat = i by omega, h2]
    omega
  rw [this]; exact hl

/-- the states that are ends, among the first ones -/
def endsQ (m : M) (k : Nat) : List Int := ((List.range k).filter (fun i => m.ends.getD i false)).map (fun (i : Nat) => (i : Int))
theorem endsQ_zero (m : M) : endsQ m 0 = [] := rfl
theorem endsQ_yes {m : M} {k : Nat} (h : k < m.ends.length) (e : m.ends[k] = true) : endsQ m (k + 1) = endsQ m k ++ [(k : Int)] := by
  have : m.ends.getD k false = true := by rw [List.getD_eq_getElem?_getD, List.getElem?_eq_getElem h]; exact e
  unfold endsQ
  have hf : [k].filter (fun i => m.ends.getD i false) = [k] := by rw [List.filter_cons, if_pos this]; rfl
  rw [List.range_succ, List.filter_append, List.map_append, hf]; rfl
theorem endsQ_no {m : M} {k : Nat} (h : k < m.ends.length) (e : m.ends[k] = false) : endsQ m (k + 1) = endsQ m k := by
  have : m.ends.getD k false = false := by rw [List.getD_eq_getElem?_getD, List.getElem?_eq_getElem h]; exact e
  unfold endsQ
  have hf : [k].filter (fun i => m.ends.getD i false) = [] := by rw [List.filter_cons, if_neg (by rw [this]; simp)]; rfl
  rw [List.range_succ, List.filter_append, List.map_append, hf, List.map_nil, List.append_nil]
theorem endsQ_len (m : M) (k : Nat) : (endsQ m k).length ≤ k := by
  unfold endsQ
  rw [List.length_map]
  exact Nat.le_trans (List.length_filter_le _ _) (by simp)

/-- what holds while the search goes back -/
structure Back (m : M) (X : List Bool) (q : List Int) : Prop where
  len : X.length = m.ends.length
  iff : ∀ k (h : k < X.length), X[k] = true ↔ (k : Int) ∈ q
  nd : q.Nodup
  inn : ∀ x ∈ q, 0 ≤ x ∧ x < (m.ends.length : Int)
  live : ∀ x ∈ q, m.Live x
  ends : ∀ k (h : k < m.ends.length), m.ends[k] = true → (k : Int) ∈ q
theorem Back.start (m : M) : Back m m.ends (endsQ m m.ends.length) := by
  have hmem : ∀ k (h : k < m.ends.length), m.ends[k] = true ↔ (k : Int) ∈ endsQ m m.ends.length := by
    intro k h
    have hd : m.ends.getD k false = m.ends[k] := by rw [List.getD_eq_getElem?_getD, List.getElem?_eq_getElem h]; rfl
    unfold endsQ
    simp only [List.mem_map, List.mem_filter, List.mem_range]
    constructor
    · intro e; exact ⟨k, ⟨h, hd.trans e⟩, rfl⟩
    · rintro ⟨i, ⟨_, h2⟩, h3⟩
      have : i = k := by omega
      subst this; rw [← hd]; exact h2
  have hin : ∀ x ∈ endsQ m m.ends.length, ∃ k, x = ((k : Nat) : Int) ∧ ∃ h : k < m.ends.length, m.ends[k] = true := by
    intro x hx
    unfold endsQ at hx
    simp only [List.mem_map, List.mem_filter, List.mem_range] at hx
    obtain ⟨i, ⟨h1, h2⟩, rfl⟩ := hx
    refine ⟨i, rfl, h1, ?_⟩
    rw [List.getD_eq_getElem?_getD, List.getElem?_eq_getElem h1] at h2; exact h2
  refine ⟨rfl, hmem, ?_, ?_, ?_, fun k h e => (hmem k h).1 e⟩
  · unfold endsQ
    have h1 : ((List.range m.ends.length).filter (fun i => m.ends.getD i false)).Nodup := List.Pairwise.filter _ List.nodup_range
    exact List.pairwise_map.2 (h1.imp (fun h => by omega))
  · intro x hx; obtain ⟨k, rfl, h, _⟩ := hin x hx; exact ⟨by omega, by omega⟩
  · intro x hx; obtain ⟨k, rfl, h, e⟩ := hin x hx; exact live_end h e
theorem Back.bound {m : M} {X : List Bool} {q : List Int} (h : Back m X q) : q.length ≤ m.ends.length := nodup_bound _ _ h.nd h.inn
theorem Back.push {m : M} {X : List Bool} {q : List Int} (h : Back m X q) {p : Nat} (hp : p < X.length) (hx : X[p] = false) (hl : m.Live (p : Int)) : Back m (X.set p true) (q ++ [(p : Int)]) := by
  have hn : (p : Int) ∉ q := fun hm => by rw [(h.iff p hp).2 hm] at hx; cases hx
  have hl0 := h.len
  refine ⟨by rw [List.length_set]; exact h.len, ?_, ?_, ?_, ?_, fun k hk e => List.mem_append.2 (.inl (h.ends k hk e))⟩
  · intro k hk
    rw [List.length_set] at hk
    rw [List.getElem_set, List.mem_append, List.mem_singleton]
    split
    · rename_i e; subst e; simp
    · rename_i e
      rw [h.iff k hk]
      exact ⟨.inl, fun r => r.resolve_right (fun e2 => e (by omega))⟩
  · exact List.nodup_append.2 ⟨h.nd, by simp, by intro a ha c hc; simp at hc; subst hc; exact fun e => hn (e ▸ ha)⟩
  · intro x hx
    rcases List.mem_append.1 hx with hx | hx
    · exact h.inn x hx
    · simp at hx; subst hx; exact ⟨by omega, by omega⟩
  · intro x hx
    rcases List.mem_append.1 hx with hx | hx
    · exact h.live x hx
    · simp at hx; subst hx; exact hl
/-- the end of the search -/
theorem Back.done {m : M} (hm : m.good) {X : List Bool} {q : List Int} (h : Back m X q) (hc : ∀ x ∈ q, ∀ p ∈ before m x, p ∈ q) : IsLive m X := by
  have hs := M.good_shape hm
  refine isLive_of hm h.len (fun k hk e => (h.iff k _).2 (h.ends k hk e)) ?_ (fun k hk e => h.live _ ((h.iff k hk).1 e))
  intro k l t hk ht hl hn hX
  have h1 := (h.iff t ht).1 hX
  refine (h.iff k hk).2 (hc _ h1 _ ?_)
  refine (preds_mem hm _ (Nat.le_refl _) _ _).2 ⟨3 * k + l, by have := h.len; omega, ?_, by omega⟩
  have : m.nx (k : Int) (l : Int) = m.next.getD (3 * k + l) (-1) := by
    rw [M.nx, if_neg (by omega)]
    congr 1
  rw [← this, hn]; omega
end Go.Proofs.Ytlbblfbiiceofaa
