/- Givings of a day, their number, the first one, and what is short of them. No program, no condition. -/
import Derived.Test.YthihcnlbohhemaaDayMath
namespace Go.Proofs.Ythihcnlbohhemaa

/-- right givings of duties to people not taken yet -/
def gok (n : Nat) : List Nat → Nat → List Int → Bool
  | [], _, [] => true
  | c :: cs, used, x :: xs => ((decide (0 ≤ x) && decide (x < n)) && (c.testBit x.toNat && !used.testBit x.toNat)) && gok n cs (used ||| 2 ^ x.toNat) xs
  | _, _, _ => false
def givs (n : Nat) : List Nat → Nat → List (List Int)
  | [], _ => [[]]
  | c :: cs, used => (List.range n).flatMap fun p => if c.testBit p && !used.testBit p then (givs n cs (used ||| 2 ^ p)).map ((p : Int) :: ·) else []
/-- GivingOk -/
def D.giving (d : D) (w : List Int) : Bool := d.ok && gok d.n d.cs 0 w
/-- CountGivings -/
def D.givings (d : D) : Int := if d.ok = true then ((givs d.n d.cs 0).length : Int) else -1
/-- FirstGiving -/
def D.first (d : D) : List Int := if d.ok = true then (givs d.n d.cs 0).headD [] else []
def D.hasGiving (d : D) : Bool := d.ok && !(givs d.n d.cs 0).isEmpty

theorem gok_len {n : Nat} : ∀ {cs : List Nat} {used : Nat} {w : List Int}, gok n cs used w = true → w.length = cs.length := by
  intro cs
  induction cs with
  | nil => intro used w h; cases w with
    | nil => rfl
    | cons x xs => simp [gok] at h
  | cons c cs ih => intro used w h; cases w with
    | nil => simp [gok] at h
    | cons x xs => simp only [gok, Bool.and_eq_true] at h; simp only [List.length_cons, ih h.2]
/-- right at a place -/
def okAt (n : Nat) (cs : List Nat) (used : Nat) (w : List Int) (i : Nat) : Bool :=
  ((decide (0 ≤ w.getD i (-1)) && decide (w.getD i (-1) < n)) && ((ca cs i).testBit (w.getD i (-1)).toNat && !used.testBit (w.getD i (-1)).toNat)) && (List.range i).all (fun j => w.getD j (-1) != w.getD i (-1))
theorem okAt_cons {n c used : Nat} {cs : List Nat} {x : Int} {xs : List Int} (hx : 0 ≤ x) (i : Nat) :
    okAt n cs (used ||| 2 ^ x.toNat) xs i = okAt n (c :: cs) used (x :: xs) (i + 1) := by
  have e1 : (x :: xs).getD (i + 1) (-1) = xs.getD i (-1) := by simp [List.getD]
  have e2 : ca (c :: cs) (i + 1) = ca cs i := by simp [ca, List.getD]
  have e3 : (List.range (i + 1)).all (fun j => (x :: xs).getD j (-1) != xs.getD i (-1)) = ((x != xs.getD i (-1)) && (List.range i).all (fun j => xs.getD j (-1) != xs.getD i (-1))) := by
    rw [List.range_succ_eq_map, List.all_cons, List.all_map]
    simp [List.getD, Function.comp_def]
  unfold okAt
  rw [e1, e2, e3, testBit_put]
  generalize xs.getD i (-1) = y
  by_cases h0 : 0 ≤ y
  · by_cases he : x = y
    · subst he; simp
    · have h1 : ¬ x.toNat = y.toNat := by omega
      have h2 : (x != y) = true := by simpa using he
      simp only [h1, decide_false, Bool.or_false, h2, Bool.true_and]
  · simp [h0]
theorem gok_iff {n : Nat} : ∀ {cs : List Nat} {used : Nat} {w : List Int}, gok n cs used w = true ↔ w.length = cs.length ∧ ∀ i, i < cs.length → okAt n cs used w i = true := by
  intro cs
  induction cs with
  | nil => intro used w; cases w with
    | nil => simp [gok]
    | cons x xs => simp [gok]
  | cons c cs ih => intro used w; cases w with
    | nil => simp [gok]
    | cons x xs =>
      have h0 : okAt n (c :: cs) used (x :: xs) 0 = ((decide (0 ≤ x) && decide (x < n)) && (c.testBit x.toNat && !used.testBit x.toNat)) := by simp [okAt, ca, List.getD]
      simp only [gok]
      rw [Bool.and_eq_true, ih, ← h0]
      constructor
      · rintro ⟨a, b, h⟩
        have hx : 0 ≤ x := by rw [h0] at a; simp only [Bool.and_eq_true, decide_eq_true_eq] at a; exact a.1.1
        refine ⟨by simp [b], fun i hi => ?_⟩
        cases i with
        | zero => exact a
        | succ i => rw [← okAt_cons hx]; exact h i (by simpa using hi)
      · rintro ⟨b, h⟩
        have a := h 0 (by simp)
        have hx : 0 ≤ x := by rw [h0] at a; simp only [Bool.and_eq_true, decide_eq_true_eq] at a; exact a.1.1
        exact ⟨a, by simpa using b, fun i hi => by rw [okAt_cons (c := c) hx]; exact h (i + 1) (by simpa using hi)⟩
theorem mem_givs {n : Nat} : ∀ {cs : List Nat} {used : Nat} {w : List Int}, w ∈ givs n cs used ↔ gok n cs used w = true := by
  intro cs
  induction cs with
  | nil => intro used w; cases w <;> simp [givs, gok]
  | cons c cs ih =>
    intro used w
    simp only [givs, List.mem_flatMap, List.mem_range]
    constructor
    · rintro ⟨p, hp, h⟩
      split at h
      · rename_i hb
        obtain ⟨v, hv, rfl⟩ := List.mem_map.1 h
        simp only [gok, Int.toNat_natCast, hb, ih.1 hv, Bool.and_true]
        simp [hp]
      · cases h
    · intro h
      cases w with
      | nil => simp [gok] at h
      | cons x xs =>
        simp only [gok, Bool.and_eq_true, decide_eq_true_eq] at h
        obtain ⟨⟨⟨h0, hn⟩, hb⟩, hr⟩ := h
        refine ⟨x.toNat, by omega, ?_⟩
        rw [if_pos (by simpa using hb)]
        refine List.mem_map.2 ⟨xs, ih.2 hr, ?_⟩
        rw [Int.toNat_of_nonneg h0]

/-! ## the number of givings -/
def cg (n : Nat) (cs : List Nat) (used : Nat) : Nat := (givs n cs used).length
theorem length_flatMap_range (n : Nat) (f : Nat → List (List Int)) : ((List.range n).flatMap f).length = sm n (fun p => (f p).length) := by
  induction n with
  | zero => rfl
  | succ n ih => rw [List.range_succ, List.flatMap_append, List.length_append, ih]; simp [sm]
theorem cg_nil (n used : Nat) : cg n [] used = 1 := rfl
theorem cg_cons (n c : Nat) (cs : List Nat) (used : Nat) : cg n (c :: cs) used = sm n (fun p => if c.testBit p && !used.testBit p then cg n cs (used ||| 2 ^ p) else 0) := by
  unfold cg
  simp only [givs]
  rw [length_flatMap_range]
  refine sm_congr (fun p _ => ?_)
  split <;> simp
theorem or_comm3 (a b c : Nat) : a ||| b ||| c = a ||| c ||| b := by rw [Nat.or_assoc, Nat.or_comm b c, ← Nat.or_assoc]
theorem cg_snoc (n c : Nat) : ∀ (cs : List Nat) (used : Nat), cg n (cs ++ [c]) used = sm n (fun p => if c.testBit p && !used.testBit p then cg n cs (used ||| 2 ^ p) else 0) := by
  intro cs
  induction cs with
  | nil => intro used; rw [List.nil_append, cg_cons]
  | cons c0 cs ih =>
    intro used
    rw [List.cons_append, cg_cons]
    have h1 : sm n (fun p => if c0.testBit p && !used.testBit p then cg n (cs ++ [c]) (used ||| 2 ^ p) else 0)
        = sm n (fun p => sm n (fun q => if (c0.testBit p && !used.testBit p) && (c.testBit q && !(used ||| 2 ^ p).testBit q) then cg n cs (used ||| 2 ^ p ||| 2 ^ q) else 0)) := sm_congr (fun p _ => by
      cases hb : (c0.testBit p && !used.testBit p) with
      | false => simp [sm_zero]
      | true => simp only [if_true, Bool.true_and]; rw [ih])
    rw [h1, sm_swap]
    refine sm_congr (fun q _ => ?_)
    rw [cg_cons]
    cases hq : (c.testBit q && !used.testBit q) with
    | false =>
      simp only [Bool.false_eq_true, if_false]
      refine (sm_congr (g := fun _ => 0) (fun p _ => ?_)).trans (sm_zero n)
      rw [if_neg]
      rw [testBit_put]
      intro h
      simp only [Bool.and_eq_true, Bool.not_eq_true', Bool.or_eq_false_iff] at h
      rw [h.2.1, h.2.2.1] at hq; simp at hq
    | true =>
      simp only [if_true]
      simp only [Bool.and_eq_true, Bool.not_eq_true'] at hq
      refine sm_congr (fun p _ => ?_)
      rw [testBit_put, testBit_put, or_comm3, hq.1, hq.2]
      have e : decide (p = q) = decide (q = p) := by rw [Bool.eq_iff_iff]; simp [eq_comm]
      rw [e]
      cases c0.testBit p <;> cases used.testBit p <;> cases decide (q = p) <;> rfl
/-- a number without one of the people -/
def less (c p : Nat) : Nat := if c.testBit p then c ^^^ 2 ^ p else c
theorem less_bit (c p q : Nat) : (less c p).testBit q = (c.testBit q && !decide (p = q)) := by
  unfold less
  split
  · rename_i h
    rw [Nat.testBit_xor, Nat.testBit_two_pow]
    by_cases hq : p = q
    · subst hq; simp [h]
    · simp [hq]
  · rename_i h
    by_cases hq : p = q
    · subst hq; simp at h; simp [h]
    · simp [hq]
theorem cg_less (n p : Nat) : ∀ (cs : List Nat) (used : Nat), cg n (cs.map (fun c => less c p)) used = cg n cs (used ||| 2 ^ p) := by
  intro cs
  induction cs with
  | nil => intro used; rfl
  | cons c cs ih =>
    intro used
    rw [List.map_cons, cg_cons, cg_cons]
    refine sm_congr (fun q _ => ?_)
    rw [ih, less_bit, testBit_put, or_comm3]
    cases c.testBit q <;> cases used.testBit q <;> cases decide (p = q) <;> rfl

/-! ## all can be given just if no set is short -/
theorem sm_one_le {n : Nat} {f : Nat → Nat} (h1 : ∀ e, e < n → f e ≤ 1) (h : ∀ e e', e < n → e' < n → 0 < f e → 0 < f e' → e = e') : sm n f ≤ 1 := by
  induction n with
  | zero => simp [sm]
  | succ n ih =>
    simp only [sm]
    have := ih (fun e he => h1 e (by omega)) (fun e e' he he' => h e e' (by omega) (by omega))
    by_cases h0 : f n = 0
    · omega
    · have hz : sm n f = 0 := by
        rw [sm_congr (g := fun _ => 0) (fun e he => ?_), sm_zero]
        cases hf : f e with
        | zero => rfl
        | succ k => exact absurd (h e n (by omega) (by omega) (by omega) (by omega)) (by omega)
      have := h1 n (by omega); omega
theorem okAt_parts {n : Nat} {cs : List Nat} {w : List Int} {i : Nat} (h : okAt n cs 0 w i = true) : 0 ≤ w.getD i (-1) ∧ w.getD i (-1) < n ∧ (ca cs i).testBit (w.getD i (-1)).toNat = true ∧ ∀ j, j < i → w.getD j (-1) ≠ w.getD i (-1) := by
  simp only [okAt, Bool.and_eq_true, decide_eq_true_eq, List.all_eq_true, List.mem_range, bne_iff_ne] at h
  obtain ⟨⟨⟨a, b⟩, c, _⟩, e⟩ := h
  exact ⟨a, b, c, fun j hj => e j hj⟩
/-- a right giving lets no set be short -/
theorem inj_le {n : Nat} {cs : List Nat} {w : List Int} (h : gok n cs 0 w = true) (s : Nat → Bool) : cnt cs.length s ≤ cnt n (nb cs s) := by
  have hk := (gok_iff.1 h).2
  have e1 : cnt cs.length s = sm cs.length (fun e => sm n (fun p => b2 (s e && (w.getD e (-1) == (p : Int))))) := sm_congr (fun e he => by
    obtain ⟨a, b, _, _⟩ := okAt_parts (hk e he)
    rw [sm_single n (w.getD e (-1)).toNat _ (by omega) (fun p _ hp => by
      have : (w.getD e (-1) == (p : Int)) = false := by rw [beq_eq_false_iff_ne]; omega
      rw [this]; simp [b2])]
    have : (w.getD e (-1) == ((w.getD e (-1)).toNat : Int)) = true := by rw [beq_iff_eq]; omega
    rw [this, Bool.and_true])
  rw [e1, sm_swap]
  refine sm_le (fun p hp => ?_)
  cases hN : nb cs s p with
  | true =>
    refine sm_one_le (fun e _ => b2_le _) (fun e e' he he' h1 h2 => ?_)
    have g1 : w.getD e (-1) = (p : Int) := by
      cases hq : (s e && (w.getD e (-1) == (p : Int))) with
      | false => rw [hq] at h1; simp [b2] at h1
      | true => simp only [Bool.and_eq_true, beq_iff_eq] at hq; exact hq.2
    have g2 : w.getD e' (-1) = (p : Int) := by
      cases hq : (s e' && (w.getD e' (-1) == (p : Int))) with
      | false => rw [hq] at h2; simp [b2] at h2
      | true => simp only [Bool.and_eq_true, beq_iff_eq] at hq; exact hq.2
    rcases Nat.lt_trichotomy e e' with h | h | h
    · exact absurd (g1.trans g2.symm) ((okAt_parts (hk e' he')).2.2.2 e h)
    · exact h
    · exact absurd (g2.trans g1.symm) ((okAt_parts (hk e he)).2.2.2 e' h)
  | false =>
    refine Nat.le_of_eq ((sm_congr (g := fun _ => 0) (fun e he => ?_)).trans (sm_zero _))
    cases hq : (s e && (w.getD e (-1) == (p : Int))) with
    | false => rfl
    | true =>
      simp only [Bool.and_eq_true, beq_iff_eq] at hq
      have hb := (okAt_parts (hk e he)).2.2.1
      rw [hq.2] at hb
      have : nb cs s p = true := by simp only [nb, decide_eq_true_eq]; exact ⟨e, he, hq.1, by simpa using hb⟩
      rw [hN] at this; cases this
theorem most_le {cs : List Nat} {n : Nat} {x : List Int × Nat} (h : Most cs n cs.length x) : x.2 ≤ cs.length := by
  rw [h.sum]
  have := sm_le (m := cs.length) (f := fun e => hc n x.1 e) (g := fun _ => 1) (fun e _ => h.one e)
  rw [sm_one] at this; exact this
theorem exists_list {m : Nat} {P : Nat → Int → Prop} (h : ∀ e, e < m → ∃ x, P e x) : ∃ w : List Int, w.length = m ∧ ∀ e, e < m → P e (w.getD e (-1)) := by
  induction m with
  | zero => exact ⟨[], rfl, fun e he => by omega⟩
  | succ m ih =>
    obtain ⟨w, hl, hw⟩ := ih (fun e he => h e (by omega))
    obtain ⟨x, hx⟩ := h m (by omega)
    refine ⟨w ++ [x], by simp [hl], fun e he => ?_⟩
    by_cases hk : e = m
    · subst hk; simp only [List.getD, ← hl]; simpa using (by rw [hl]; exact hx)
    · have := hw e (by omega)
      simp only [List.getD] at this ⊢
      rw [List.getElem?_append_left (by omega)]; exact this
theorem giving_iff {cs : List Nat} {n : Nat} : (∃ w, gok n cs 0 w = true) ↔ (most cs n cs.length).2 = cs.length := by
  have M := most_most (cs := cs) (n := n) cs.length (Nat.le_refl _)
  constructor
  · rintro ⟨w, hw⟩
    obtain ⟨s, _, hs⟩ := short_is M
    have := inj_le hw s.testBit
    have := most_le M
    omega
  · intro h
    have h1 : ∀ e, e < cs.length → hc n (most cs n cs.length).1 e = 1 := by
      intro e he
      have := M.one e
      by_cases h0 : hc n (most cs n cs.length).1 e = 1
      · exact h0
      · exfalso
        have hz : hc n (most cs n cs.length).1 e = 0 := by omega
        have hlt : sm cs.length (fun e => hc n (most cs n cs.length).1 e) + 1 ≤ sm cs.length (fun _ => 1) := by
          have hs : sm cs.length (fun q => b2 (decide (q = e))) = 1 := (sm_single _ e _ he (fun q _ hq => by simp [b2, hq])).trans (by simp [b2])
          conv => lhs; rhs; rw [← hs]
          rw [← sm_add]
          refine sm_le (fun q _ => ?_)
          show hc n (most cs n cs.length).1 q + b2 (decide (q = e)) ≤ 1
          by_cases hq : q = e
          · subst hq; rw [hz]; simp [b2]
          · have := M.one q; simp [b2, hq]; exact this
        rw [sm_one, ← M.sum, h] at hlt
        omega
    obtain ⟨w, hl, hw⟩ := exists_list (m := cs.length) (P := fun e x => 0 ≤ x ∧ x < n ∧ hv (most cs n cs.length).1 x.toNat = (e : Int)) (fun e he => by
      obtain ⟨p, hp, hq⟩ := cnt_pos (n := n) (f := fun p => hv (most cs n cs.length).1 p == (e : Int)) (by have := h1 e he; unfold hc at this; omega)
      exact ⟨(p : Int), by omega, by omega, by simpa using hq⟩)
    refine ⟨w, gok_iff.2 ⟨hl, fun i hi => ?_⟩⟩
    obtain ⟨a, b, c⟩ := hw i hi
    have hb := (M.has.val (w.getD i (-1)).toNat (by omega)).resolve_left (by omega)
    rw [c] at hb
    simp only [okAt, Bool.and_eq_true, decide_eq_true_eq, List.all_eq_true, List.mem_range, bne_iff_ne]
    refine ⟨⟨⟨a, b⟩, by simpa using hb.2.2, by simp⟩, fun j hj he => ?_⟩
    obtain ⟨a', b', c'⟩ := hw j (by omega)
    rw [he, c] at c'
    omega
theorem givs_pos {cs : List Nat} {n : Nat} : 0 < (givs n cs 0).length ↔ (most cs n cs.length).2 = cs.length := by
  rw [← giving_iff, List.length_pos_iff_exists_mem]
  exact ⟨fun ⟨w, h⟩ => ⟨w, mem_givs.1 h⟩, fun ⟨w, h⟩ => ⟨w, mem_givs.2 h⟩⟩

/-! ## one more who can do all -/
theorem most_more {cs : List Nat} {n : Nat} (hlt : ∀ c ∈ cs, c < 2 ^ n) : (most (cs.map (fun c => c ||| 2 ^ n)) (n + 1) cs.length).2 = min ((most cs n cs.length).2 + 1) cs.length := by
  have M := most_most (cs := cs) (n := n) cs.length (Nat.le_refl _)
  have M' := most_most (cs := cs.map (fun c => c ||| 2 ^ n)) (n := n + 1) cs.length (by simp)
  have M2 : Most (cs.map (fun c => c ||| 2 ^ n)) (n + 1) (cs.map (fun c => c ||| 2 ^ n)).length (most (cs.map (fun c => c ||| 2 ^ n)) (n + 1) cs.length) := by simpa using M'
  have hca : ∀ e, e < cs.length → ca (cs.map (fun c => c ||| 2 ^ n)) e = ca cs e ||| 2 ^ n := fun e he => by simp [ca, he]
  have hbit : ∀ e, e < cs.length → (ca cs e).testBit n = false := fun e he => by
    rw [ca_at he]; exact Nat.testBit_lt_two_pow (hlt _ (List.getElem_mem he))
  have hN : ∀ s : Nat → Bool, (∃ e, e < cs.length ∧ s e = true) → cnt (n + 1) (nb (cs.map (fun c => c ||| 2 ^ n)) s) = cnt n (nb cs s) + 1 := by
    rintro s ⟨e0, he0, hs0⟩
    have : cnt (n + 1) (nb (cs.map (fun c => c ||| 2 ^ n)) s) = cnt n (nb (cs.map (fun c => c ||| 2 ^ n)) s) + b2 (nb (cs.map (fun c => c ||| 2 ^ n)) s n) := rfl
    rw [this]
    have e1 : nb (cs.map (fun c => c ||| 2 ^ n)) s n = true := by
      simp only [nb, decide_eq_true_eq]
      exact ⟨e0, by simpa using he0, hs0, by rw [hca e0 he0, testBit_put]; simp⟩
    rw [e1]
    congr 1
    refine cnt_congr (fun p hp => ?_)
    have hne : decide (n = p) = false := by simp; omega
    simp only [nb, decide_eq_decide]
    constructor
    · rintro ⟨e, he, h1, h2⟩
      have he' : e < cs.length := by simpa using he
      rw [hca e he', testBit_put, hne, Bool.or_false] at h2
      exact ⟨e, he', h1, h2⟩
    · rintro ⟨e, he, h1, h2⟩
      exact ⟨e, by simpa using he, h1, by rw [hca e he, testBit_put, h2]; rfl⟩
  have hle := most_le M
  have hle2 := most_le M2
  rw [List.length_map] at hle2
  have up : (most (cs.map (fun c => c ||| 2 ^ n)) (n + 1) cs.length).2 ≤ (most cs n cs.length).2 + 1 := by
    obtain ⟨s, _, hs⟩ := short_is M
    have h2 := short_le M2.has M2.one s.testBit
    rw [← M2.sum, List.length_map] at h2
    by_cases h0 : ∃ e, e < cs.length ∧ s.testBit e = true
    · rw [hN _ h0] at h2; omega
    · have hz : cnt cs.length s.testBit = 0 := by
        refine (sm_congr (g := fun _ => 0) (fun e he => ?_)).trans (sm_zero _)
        cases hse : s.testBit e with
        | false => rfl
        | true => exact absurd ⟨e, he, hse⟩ h0
      omega
  have down : min ((most cs n cs.length).2 + 1) cs.length ≤ (most (cs.map (fun c => c ||| 2 ^ n)) (n + 1) cs.length).2 := by
    obtain ⟨s, _, hs⟩ := short_is M2
    rw [List.length_map] at hs
    by_cases h0 : ∃ e, e < cs.length ∧ s.testBit e = true
    · have h1 := short_le M.has M.one s.testBit
      rw [← M.sum] at h1
      rw [hN _ h0] at hs; omega
    · have hz : cnt cs.length s.testBit = 0 := by
        refine (sm_congr (g := fun _ => 0) (fun e he => ?_)).trans (sm_zero _)
        cases hse : s.testBit e with
        | false => rfl
        | true => exact absurd ⟨e, he, hse⟩ h0
      omega
  omega
end Go.Proofs.Ythihcnlbohhemaa
