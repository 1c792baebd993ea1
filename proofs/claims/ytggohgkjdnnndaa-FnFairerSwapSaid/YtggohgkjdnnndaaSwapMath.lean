/- The plain mathematics of chapter 11 (swaps) on one day's letters, as numbers: no program is named here. No condition. -/
import Derived.Test.YtggohgkjdnnndaaRostMath
namespace Go.Proofs.Ytggohgkjdnnndaa

/-- the letters' numbers -/
def lc (b : UInt8) : Nat := if b = 114 then 0 else if b = 100 then 1 else 2
theorem lc_lt (b : UInt8) : lc b < 3 := by
  unfold lc
  split
  · omega
  · split <;> omega
theorem nbeq (a b : Nat) : Nat.beq a b = true ↔ a = b := ⟨Nat.eq_of_beq_eq_true, fun h => by subst h; exact Nat.beq_refl a⟩
theorem isL_cases {b : UInt8} (h : isL b = true) : b = 114 ∨ b = 100 ∨ b = 110 := by
  simp only [isL, Bool.or_eq_true, beq_iff_eq] at h
  rcases h with (h | h) | h
  · exact .inl h
  · exact .inr (.inl h)
  · exact .inr (.inr h)
theorem lc_inj {a b : UInt8} (ha : isL a = true) (hb : isL b = true) (h : lc a = lc b) : a = b := by
  rcases isL_cases ha with rfl | rfl | rfl <;> rcases isL_cases hb with rfl | rfl | rfl <;> first | rfl | (revert h; decide)
theorem letterOf_lc {b : UInt8} (h : isL b = true) : letterOf (b.toNat : Int) = (lc b : Int) := by
  rcases isL_cases h with rfl | rfl | rfl <;> decide

/-- how many places have a pair of letters -/
def wP : List Nat → List Nat → Nat → Nat
  | a :: f, b :: t, p => (bif Nat.beq (3 * a + b) p then 1 else 0) + wP f t p
  | _, _, _ => 0
def hasP (f t : List Nat) (a : Nat) : Nat := wP f t (3 * a) + wP f t (3 * a + 1) + wP f t (3 * a + 2)
def wantP (f t : List Nat) (a : Nat) : Nat := wP f t a + wP f t (3 + a) + wP f t (6 + a)
def metP (f t : List Nat) : Bool := Nat.beq (hasP f t 0) (wantP f t 0) && (Nat.beq (hasP f t 1) (wantP f t 1) && Nat.beq (hasP f t 2) (wantP f t 2))
def pairsP (f t : List Nat) : Nat := min (wP f t 1) (wP f t 3) + min (wP f t 2) (wP f t 6) + min (wP f t 5) (wP f t 7)
def leftP (f t : List Nat) : Nat := wP f t 1 + wP f t 3 + (wP f t 2 + wP f t 6) + (wP f t 5 + wP f t 7) - 2 * pairsP f t
def dP (f t : List Nat) : Nat := pairsP f t + leftP f t / 3 * 2
def difP : List Nat → List Nat → Nat
  | a :: f, b :: t => (bif Nat.beq a b then 0 else 1) + difP f t
  | _, _ => 0
def eqP : List Nat → List Nat → Bool
  | a :: f, b :: t => Nat.beq a b && eqP f t
  | [], [] => true
  | _, _ => false
theorem eqP_iff : ∀ f t : List Nat, eqP f t = true ↔ f = t
  | [], [] => by simp [eqP]
  | [], _ :: _ => by simp [eqP]
  | _ :: _, [] => by simp [eqP]
  | a :: f, b :: t => by simp only [eqP, Bool.and_eq_true, nbeq, eqP_iff f t, List.cons.injEq]
def swapL (f : List Nat) (a b : Nat) : List Nat := (f.set a (f.getD b 0)).set b (f.getD a 0)

/-- all rows of letters -/
def cols : Nat → List (List Nat)
  | 0 => [[]]
  | n + 1 => (cols n).flatMap fun l => [0 :: l, 1 :: l, 2 :: l]
theorem mem_cols : ∀ f : List Nat, (∀ x ∈ f, x < 3) → f ∈ cols f.length
  | [], _ => List.mem_singleton.2 rfl
  | a :: f, h => by
    have h1 := mem_cols f (fun x hx => h x (List.mem_cons_of_mem _ hx))
    have h2 := h a List.mem_cons_self
    refine List.mem_flatMap.2 ⟨f, h1, ?_⟩
    have : a = 0 ∨ a = 1 ∨ a = 2 := by omega
    rcases this with rfl | rfl | rfl <;> simp
/-- pairs of places, the greater one first -/
def prs4 : Nat → List (Nat × Nat)
  | 2 => [(1, 0)]
  | 3 => [(1, 0), (2, 0), (2, 1)]
  | 4 => [(1, 0), (2, 0), (2, 1), (3, 0), (3, 1), (3, 2)]
  | _ => []
theorem mem_prs4 {n a b : Nat} (hn : n ≤ 4) (ha : a < n) (hb : b < a) : (a, b) ∈ prs4 n := by
  have h1 : n = 2 ∨ n = 3 ∨ n = 4 := by omega
  rcases h1 with rfl | rfl | rfl
  · obtain rfl : a = 1 := by omega
    obtain rfl : b = 0 := by omega
    decide
  · have : a = 1 ∨ a = 2 := by omega
    rcases this with rfl | rfl
    · obtain rfl : b = 0 := by omega
      decide
    · have : b = 0 ∨ b = 1 := by omega
      rcases this with rfl | rfl <;> decide
  · have : a = 1 ∨ a = 2 ∨ a = 3 := by omega
    rcases this with rfl | rfl | rfl
    · obtain rfl : b = 0 := by omega
      decide
    · have : b = 0 ∨ b = 1 := by omega
      rcases this with rfl | rfl <;> decide
    · have : b = 0 ∨ b = 1 ∨ b = 2 := by omega
      rcases this with rfl | rfl | rfl <;> decide
theorem of_prs4 {n a b : Nat} (h : (a, b) ∈ prs4 n) : a < n ∧ b < a := by
  have : ∀ n, n = 2 ∨ n = 3 ∨ n = 4 → ∀ p ∈ prs4 n, p.1 < n ∧ p.2 < p.1 := by
    rintro n (rfl | rfl | rfl) <;> decide
  by_cases h2 : n = 2 ∨ n = 3 ∨ n = 4
  · exact this n h2 _ h
  · exfalso
    have : prs4 n = [] := by
      unfold prs4
      split
      · exact absurd (.inl rfl) h2
      · exact absurd (.inr (.inl rfl)) h2
      · exact absurd (.inr (.inr rfl)) h2
      · rfl
    rw [this] at h; cases h
/-- what the law asks of two rows of letters of which each has each letter as often -/
def okP (n : Nat) (f t : List Nat) : Bool :=
  !metP f t || (metP t f && Nat.beq (dP t f) (dP f t) && (Nat.beq (dP f t) 0 == eqP f t) && Nat.ble (dP f t) (difP f t) &&
    (prs4 n).all (fun p => metP (swapL f p.1 p.2) t && Nat.ble (dP f t) (dP (swapL f p.1 p.2) t + 1)) &&
    (Nat.beq (dP f t) 0 || (prs4 n).any fun p => Nat.beq (dP (swapL f p.1 p.2) t + 1) (dP f t)))
def okS (n : Nat) (f : List Nat) : Bool :=
  (List.range n).all fun a => (List.range n).all fun b => Nat.beq a b || (metP f (swapL f a b) && Nat.beq (dP f (swapL f a b)) (bif eqP (swapL f a b) f then 0 else 1))
set_option maxRecDepth 100000 in
theorem okP_all : ∀ n, n ≤ 4 → (cols n).all (fun f => (cols n).all (okP n f)) = true
  | 0, _ => by decide +kernel
  | 1, _ => by decide +kernel
  | 2, _ => by decide +kernel
  | 3, _ => by decide +kernel
  | 4, _ => by decide +kernel
set_option maxRecDepth 100000 in
theorem okS_all : ∀ n, n ≤ 4 → (cols n).all (okS n) = true
  | 0, _ => by decide +kernel
  | 1, _ => by decide +kernel
  | 2, _ => by decide +kernel
  | 3, _ => by decide +kernel
  | 4, _ => by decide +kernel
structure Met (f t : List Nat) : Prop where
  back : metP t f = true
  comm : dP t f = dP f t
  zero : dP f t = 0 ↔ f = t
  dif : dP f t ≤ difP f t
  swap : ∀ a b, a < f.length → b < a → metP (swapL f a b) t = true ∧ dP f t ≤ dP (swapL f a b) t + 1
  near : dP f t ≠ 0 → ∃ a b, a < f.length ∧ b < a ∧ dP (swapL f a b) t + 1 = dP f t
theorem met_of {f t : List Nat} (hf : ∀ x ∈ f, x < 3) (ht : ∀ x ∈ t, x < 3) (hl : f.length ≤ 4) (he : t.length = f.length) (h : metP f t = true) : Met f t := by
  have h1 := List.all_eq_true.1 (okP_all f.length hl) f (mem_cols f hf)
  have h2 := List.all_eq_true.1 h1 t (by rw [← he]; exact mem_cols t ht)
  rw [okP, h] at h2
  simp only [Bool.not_true, Bool.false_or, Bool.and_eq_true, nbeq, Nat.ble_eq, List.all_eq_true, Bool.or_eq_true, List.any_eq_true] at h2
  obtain ⟨⟨⟨⟨⟨g1, g2⟩, g3⟩, g4⟩, g5⟩, g6⟩ := h2
  refine ⟨g1, g2, ?_, g4, fun a b ha hb => g5 (a, b) (mem_prs4 hl ha hb), fun hne => ?_⟩
  · rw [← eqP_iff]
    have g3' : Nat.beq (dP f t) 0 = eqP f t := by simpa using g3
    rw [← g3', nbeq]
  · rcases g6 with g6 | ⟨⟨a, b⟩, hp, g6⟩
    · exact absurd g6 hne
    · obtain ⟨ha, hb⟩ := of_prs4 hp
      exact ⟨a, b, ha, hb, g6⟩
theorem swap_one {f : List Nat} {a b : Nat} (hf : ∀ x ∈ f, x < 3) (hl : f.length ≤ 4) (ha : a < f.length) (hb : b < f.length) (hab : a ≠ b) :
    metP f (swapL f a b) = true ∧ dP f (swapL f a b) = if swapL f a b = f then 0 else 1 := by
  have h1 := List.all_eq_true.1 (okS_all f.length hl) f (mem_cols f hf)
  have h2 := List.all_eq_true.1 (List.all_eq_true.1 h1 a (List.mem_range.2 ha)) b (List.mem_range.2 hb)
  simp only [Bool.or_eq_true, nbeq, Bool.and_eq_true] at h2
  rcases h2 with h2 | ⟨h2, h3⟩
  · exact absurd h2 hab
  · refine ⟨h2, h3.trans ?_⟩
    by_cases e : swapL f a b = f
    · rw [if_pos e, (eqP_iff _ _).2 e]; rfl
    · rw [if_neg e]
      have : eqP (swapL f a b) f = false := by
        cases h : eqP (swapL f a b) f with
        | false => rfl
        | true => exact absurd ((eqP_iff _ _).1 h) e
      rw [this]; rfl
theorem metP_same : ∀ f : List Nat, (∀ x ∈ f, x < 3) → f.length ≤ 4 → metP f f = true ∧ dP f f = 0 := by
  intro f hf hl
  have h : metP f f = true := by
    have h1 := List.all_eq_true.1 (okP_all f.length hl) f (mem_cols f hf)
    have key : ∀ a, a < 3 → hasP f f a = wantP f f a := by
      have hw : ∀ g : List Nat, (∀ x ∈ g, x < 3) → ∀ a b, a < 3 → b < 3 → wP g g (3 * a + b) = wP g g (3 * b + a) := by
        intro g
        induction g with
        | nil => intros; rfl
        | cons x g ih =>
          intro hx a b ha hb
          have h3 := hx x List.mem_cons_self
          rw [wP, wP, ih (fun y hy => hx y (List.mem_cons_of_mem _ hy)) a b ha hb]
          have : Nat.beq (3 * x + x) (3 * a + b) = Nat.beq (3 * x + x) (3 * b + a) := by
            rw [Bool.eq_iff_iff, nbeq, nbeq]; omega
          rw [this]
      intro a ha
      have e0 := hw f hf a 0 ha (by omega)
      have e1 := hw f hf a 1 ha (by omega)
      have e2 := hw f hf a 2 ha (by omega)
      simp only [hasP, wantP]
      rw [show 3 * a + 0 = 3 * a by omega, show 3 * 0 + a = a by omega] at e0
      rw [show 3 * 1 + a = 3 + a by omega] at e1
      rw [show 3 * 2 + a = 6 + a by omega] at e2
      omega
    simp only [metP, Bool.and_eq_true, nbeq]
    exact ⟨key 0 (by omega), key 1 (by omega), key 2 (by omega)⟩
  exact ⟨h, ((met_of hf hf hl rfl h).zero).2 rfl⟩
end Go.Proofs.Ytggohgkjdnnndaa
