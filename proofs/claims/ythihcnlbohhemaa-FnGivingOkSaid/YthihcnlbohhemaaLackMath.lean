/- By how much sets of duties are short, and the first giving. No program, no condition. -/
import Derived.Test.YthihcnlbohhemaaGivMath
namespace Go.Proofs.Ythihcnlbohhemaa

/-- how many bits of a small number are 1 -/
def pc (x : Nat) : Nat := cnt 6 x.testBit
/-- who can do some duty of a set, as a number, of the first k duties -/
def whoTo (cs : List Nat) (s : Nat) : Nat → Nat
  | 0 => 0
  | k + 1 => if s.testBit k then whoTo cs s k ||| ca cs k else whoTo cs s k
/-- by how much a set is short -/
def sh (cs : List Nat) (s : Nat) : Int := (pc s : Int) - pc (whoTo cs s cs.length)
/-- the best of the first k sets, and which -/
def bestTo (cs : List Nat) : Nat → Int × Nat
  | 0 => (0, 0)
  | k + 1 => if (bestTo cs k).1 < sh cs k then (sh cs k, k) else bestTo cs k
/-- ShortOf -/
def D.short (d : D) : Int × Int := if d.ok = true then ((bestTo d.cs (2 ^ d.cs.length)).1, ((bestTo d.cs (2 ^ d.cs.length)).2 : Int)) else (-1, -1)

theorem whoTo_lt {cs : List Nat} {n : Nat} (h : Good n cs) (s : Nat) : ∀ k, whoTo cs s k < 2 ^ n := by
  intro k
  induction k with
  | zero => exact Nat.two_pow_pos _
  | succ k ih =>
    simp only [whoTo]
    split
    · exact Nat.or_lt_two_pow ih (h.ca k)
    · exact ih
theorem whoTo_bit (cs : List Nat) (s p : Nat) : ∀ k, (whoTo cs s k).testBit p = true ↔ ∃ e, e < k ∧ s.testBit e = true ∧ (ca cs e).testBit p = true := by
  intro k
  induction k with
  | zero => simp [whoTo]
  | succ k ih =>
    simp only [whoTo]
    split
    · rename_i hk
      rw [Nat.testBit_or, Bool.or_eq_true, ih]
      constructor
      · rintro (⟨e, he, h⟩ | h)
        · exact ⟨e, by omega, h⟩
        · exact ⟨k, by omega, hk, h⟩
      · rintro ⟨e, he, h1, h2⟩
        by_cases h : e = k
        · subst h; exact .inr h2
        · exact .inl ⟨e, by omega, h1, h2⟩
    · rename_i hk
      rw [ih]
      constructor
      · rintro ⟨e, he, h⟩; exact ⟨e, by omega, h⟩
      · rintro ⟨e, he, h1, h2⟩
        by_cases h : e = k
        · subst h; exact absurd h1 hk
        · exact ⟨e, by omega, h1, h2⟩
theorem cnt_more {n m : Nat} (h : n ≤ m) {f : Nat → Bool} (h0 : ∀ p, n ≤ p → p < m → f p = false) : cnt m f = cnt n f := by
  induction m with
  | zero => obtain rfl : n = 0 := by omega
            rfl
  | succ m ih =>
    by_cases hk : n = m + 1
    · rw [hk]
    · have : cnt (m + 1) f = cnt m f + b2 (f m) := rfl
      rw [this, ih (by omega) (fun p h1 h2 => h0 p h1 (by omega)), h0 m (by omega) (by omega)]; rfl
theorem bit_off {x n p : Nat} (h : x < 2 ^ n) (hp : n ≤ p) : x.testBit p = false :=
  Nat.testBit_lt_two_pow (Nat.lt_of_lt_of_le h (Nat.pow_le_pow_right (by omega) hp))
theorem pc_set {m s : Nat} (hm : m ≤ 6) (h : s < 2 ^ m) : pc s = cnt m s.testBit := cnt_more hm (fun _ hp _ => bit_off h hp)
theorem sh_is {cs : List Nat} {n : Nat} (h : Good n cs) {s : Nat} (hs : s < 2 ^ cs.length) : sh cs s = (cnt cs.length s.testBit : Int) - cnt n (nb cs s.testBit) := by
  unfold sh
  rw [pc_set (by have := h.l5; omega) hs, pc_set h.n6 (whoTo_lt h s _)]
  rw [cnt_congr (f := (whoTo cs s cs.length).testBit) (g := nb cs s.testBit) (fun p _ => by
    rw [Bool.eq_iff_iff, whoTo_bit]
    simp only [nb, decide_eq_true_eq])]
theorem sh_zero (cs : List Nat) : sh cs 0 = 0 := by
  have h : whoTo cs 0 cs.length = 0 := by
    generalize cs.length = k
    induction k with
    | zero => rfl
    | succ k ih => simp [whoTo, ih]
  simp [sh, h]
theorem bestTo_is (cs : List Nat) : ∀ k, (∀ s, s < k → sh cs s ≤ (bestTo cs k).1) ∧ 0 ≤ (bestTo cs k).1 ∧ sh cs (bestTo cs k).2 = (bestTo cs k).1 ∧ ((bestTo cs k).2 = 0 ∨ (bestTo cs k).2 < k) := by
  intro k
  induction k with
  | zero => exact ⟨fun s h => absurd h (Nat.not_lt_zero _), by simp [bestTo], by simp [bestTo, sh_zero], .inl rfl⟩
  | succ k ih =>
    obtain ⟨a, b, c, d⟩ := ih
    simp only [bestTo]
    split
    · rename_i h
      refine ⟨fun s hs => ?_, by simp; omega, rfl, .inr (by simp)⟩
      by_cases hk : s = k
      · subst hk; exact Int.le_refl _
      · have := a s (by omega); simp; omega
    · rename_i h
      refine ⟨fun s hs => ?_, b, c, by omega⟩
      by_cases hk : s = k
      · subst hk; omega
      · exact a s (by omega)
theorem best_lt {cs : List Nat} : (bestTo cs (2 ^ cs.length)).2 < 2 ^ cs.length := by
  rcases (bestTo_is cs (2 ^ cs.length)).2.2.2 with h | h
  · rw [h]; exact Nat.two_pow_pos _
  · exact h
/-- what can be done lacks just what is short -/
theorem best_most {cs : List Nat} {n : Nat} (h : Good n cs) : (bestTo cs (2 ^ cs.length)).1 + ((most cs n cs.length).2 : Int) = cs.length := by
  have M := most_most (cs := cs) (n := n) cs.length (Nat.le_refl _)
  obtain ⟨a, b, c, _⟩ := bestTo_is cs (2 ^ cs.length)
  obtain ⟨s, hs, hs2⟩ := short_is M
  have h1 := a s hs
  rw [sh_is h hs] at h1
  rw [sh_is h best_lt] at c
  have h2 := short_le M.has M.one (bestTo cs (2 ^ cs.length)).2.testBit
  rw [← M.sum] at h2
  omega

/-! ## the first giving -/
theorem flat_head {g : Nat → List (List Int)} {q : Nat} (n : Nat) (hq : q < n) (hg : g q ≠ []) : ∃ p a l rest, p ≤ q ∧ g p = a :: l ∧ (List.range n).flatMap g = a :: rest := by
  induction n generalizing q with
  | zero => omega
  | succ n ih =>
    rw [List.range_succ, List.flatMap_append]
    by_cases h : ∃ p, p < n ∧ g p ≠ []
    · obtain ⟨p, hp, hgp⟩ := h
      by_cases hqn : q < n
      · obtain ⟨p', a, l, rest, h1, h2, h3⟩ := ih hqn hg
        exact ⟨p', a, l, _, h1, h2, by rw [h3]; rfl⟩
      · obtain ⟨p', a, l, rest, h1, h2, h3⟩ := ih hp hgp
        exact ⟨p', a, l, _, by omega, h2, by rw [h3]; rfl⟩
    · have hz : (List.range n).flatMap g = [] := by
        rw [List.flatMap_eq_nil_iff]
        intro p hp
        by_cases hp2 : g p = []
        · exact hp2
        · exact absurd ⟨p, List.mem_range.1 hp, hp2⟩ h
      have hqn : q = n := by
        by_cases hqn : q < n
        · exact absurd ⟨q, hqn, hg⟩ h
        · omega
      subst hqn
      cases hgq : g q with
      | nil => exact absurd hgq hg
      | cons a l => exact ⟨q, a, l, l, Nat.le_refl _, hgq, by rw [hz]; simp [hgq]⟩
theorem getD_succ (x : Int) (xs : List Int) (k : Nat) : (x :: xs).getD (k + 1) (-1) = xs.getD k (-1) := by simp [List.getD]
/-- the first giving is first -/
theorem first_le {n : Nat} : ∀ {cs : List Nat} {used : Nat} {w : List Int}, gok n cs used w = true → ∃ f rest, givs n cs used = f :: rest ∧ ∀ k, k < cs.length → (∀ j, j < k → f.getD j (-1) = w.getD j (-1)) → f.getD k (-1) ≤ w.getD k (-1) := by
  intro cs
  induction cs with
  | nil => intro used w _; exact ⟨[], [], rfl, fun k hk => absurd hk (Nat.not_lt_zero _)⟩
  | cons c cs ih =>
    intro used w h
    cases w with
    | nil => simp [gok] at h
    | cons x xs =>
      simp only [gok, Bool.and_eq_true, decide_eq_true_eq] at h
      obtain ⟨⟨⟨h0, hn⟩, hb⟩, hr⟩ := h
      have hb' : (c.testBit x.toNat && !used.testBit x.toNat) = true := by simpa using hb
      obtain ⟨f, rest, hf, hle⟩ := ih hr
      obtain ⟨p, a, l, rest', hp, hg, hF⟩ := flat_head (g := fun p => if c.testBit p && !used.testBit p then (givs n cs (used ||| 2 ^ p)).map ((p : Int) :: ·) else []) (q := x.toNat) n (by omega) (by
        simp only [hb', if_true, hf]; simp)
      refine ⟨a, rest', hF, fun k hk hj => ?_⟩
      split at hg
      · cases hG : givs n cs (used ||| 2 ^ p) with
        | nil => rw [hG] at hg; cases hg
        | cons f' l' =>
          rw [hG, List.map_cons, List.cons.injEq] at hg
          obtain ⟨rfl, _⟩ := hg
          cases k with
          | zero => show (p : Int) ≤ x; omega
          | succ k =>
            have hpx : (p : Int) = x := hj 0 (by omega)
            have hpe : p = x.toNat := by omega
            subst hpe
            rw [hf, List.cons.injEq] at hG
            obtain ⟨rfl, _⟩ := hG
            rw [getD_succ, getD_succ]
            exact hle k (by simpa using hk) (fun j hj2 => by have := hj (j + 1) (by omega); rwa [getD_succ, getD_succ] at this)
      · cases hg
end Go.Proofs.Ythihcnlbohhemaa
