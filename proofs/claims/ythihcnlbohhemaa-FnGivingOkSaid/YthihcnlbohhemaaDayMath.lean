/- Days as plain data, givings that move on, and what can be done against what is short (Hall, with deficiency). No program, no condition. -/
namespace Go.Proofs.Ythihcnlbohhemaa

/-- a day as plain data -/
structure D where
  ppl : Int
  can : List Int
deriving DecidableEq
/-- a number of who can do a duty -/
def canOk (n c : Int) : Bool := decide (0 ≤ c) && decide (c ≤ 2 ^ n.toNat - 1)
/-- DayOk -/
def D.ok (d : D) : Bool := (decide (0 ≤ d.ppl) && decide (d.ppl ≤ 6)) && (decide (d.can.length ≤ 5) && d.can.all (canOk d.ppl))
/-- the numbers as natural ones -/
def D.cs (d : D) : List Nat := d.can.map Int.toNat
def D.n (d : D) : Nat := d.ppl.toNat
/-- what is known of a day -/
structure Good (n : Nat) (cs : List Nat) : Prop where
  n6 : n ≤ 6
  l5 : cs.length ≤ 5
  lt : ∀ c ∈ cs, c < 2 ^ n
theorem D.good {d : D} (h : d.ok = true) : Good d.n d.cs ∧ d.ppl = (d.n : Int) ∧ d.can = d.cs.map Int.ofNat := by
  simp only [D.ok, Bool.and_eq_true, decide_eq_true_eq, List.all_eq_true] at h
  obtain ⟨⟨h0, h1⟩, h2, h3⟩ := h
  refine ⟨⟨by simp only [D.n]; omega, by simpa [D.cs] using h2, ?_⟩, by simp only [D.n]; omega, ?_⟩
  · intro c hc
    simp only [D.cs, List.mem_map] at hc
    obtain ⟨x, hx, rfl⟩ := hc
    have := h3 x hx
    simp only [canOk, Bool.and_eq_true, decide_eq_true_eq] at this
    simp only [D.n]
    have e : ((2 ^ d.ppl.toNat : Nat) : Int) = (2 : Int) ^ d.ppl.toNat := by simp
    omega
  · simp only [D.cs, List.map_map]
    conv => lhs; rw [← List.map_id d.can]
    apply List.map_congr_left
    intro x hx
    have := h3 x hx
    simp only [canOk, Bool.and_eq_true, decide_eq_true_eq] at this
    simp only [id, Function.comp, Int.ofNat_eq_natCast]
    omega
theorem Good.lt64 {n : Nat} {cs : List Nat} (h : Good n cs) (k : Nat) (hk : k < cs.length) : cs[k] < 64 := by
  have := h.lt _ (List.getElem_mem hk)
  have h2 : 2 ^ n ≤ 2 ^ 6 := Nat.pow_le_pow_right (by omega) h.n6
  omega

/-- the number of who can do a duty, 0 behind all -/
def ca (cs : List Nat) (k : Nat) : Nat := cs.getD k 0
theorem ca_at {cs : List Nat} {k : Nat} (h : k < cs.length) : ca cs k = cs[k] := by simp [ca, h]
theorem Good.ca {n : Nat} {cs : List Nat} (h : Good n cs) (k : Nat) : ca cs k < 2 ^ n := by
  by_cases hk : k < cs.length
  · rw [ca_at hk]; exact h.lt _ (List.getElem_mem hk)
  · have : Go.Proofs.Ythihcnlbohhemaa.ca cs k = 0 := by simp [Go.Proofs.Ythihcnlbohhemaa.ca, List.getD, List.getElem?_eq_none (Nat.le_of_not_lt hk)]
    rw [this]; exact Nat.two_pow_pos _

/-! ## sums and counts -/
def sm (m : Nat) (g : Nat → Nat) : Nat := match m with
  | 0 => 0
  | m + 1 => sm m g + g m
def b2 (b : Bool) : Nat := if b = true then 1 else 0
def cnt (n : Nat) (f : Nat → Bool) : Nat := sm n (fun p => b2 (f p))
theorem sm_add (m : Nat) (f g : Nat → Nat) : sm m (fun e => f e + g e) = sm m f + sm m g := by
  induction m with
  | zero => rfl
  | succ m ih => simp only [sm, ih]; omega
theorem sm_congr {m : Nat} {f g : Nat → Nat} (h : ∀ e, e < m → f e = g e) : sm m f = sm m g := by
  induction m with
  | zero => rfl
  | succ m ih => simp only [sm, ih (fun e he => h e (by omega)), h m (by omega)]
theorem sm_le {m : Nat} {f g : Nat → Nat} (h : ∀ e, e < m → f e ≤ g e) : sm m f ≤ sm m g := by
  induction m with
  | zero => exact Nat.le_refl _
  | succ m ih =>
    have := ih (fun e he => h e (by omega)); have := h m (by omega)
    simp only [sm]; omega
theorem sm_zero (m : Nat) : sm m (fun _ => 0) = 0 := by
  induction m with
  | zero => rfl
  | succ m ih => simp only [sm, ih]
theorem sm_one (m : Nat) : sm m (fun _ => 1) = m := by
  induction m with
  | zero => rfl
  | succ m ih => simp only [sm, ih]
theorem sm_swap (m n : Nat) (f : Nat → Nat → Nat) : sm m (fun e => sm n (fun p => f e p)) = sm n (fun p => sm m (fun e => f e p)) := by
  induction m with
  | zero => simp only [sm]; exact (sm_zero n).symm
  | succ m ih =>
    simp only [sm]
    rw [ih, ← sm_add]
theorem sm_single (m k : Nat) (f : Nat → Nat) (h : k < m) (h0 : ∀ e, e < m → e ≠ k → f e = 0) : sm m f = f k := by
  induction m with
  | zero => omega
  | succ m ih =>
    simp only [sm]
    by_cases hk : k = m
    · subst hk
      have : sm k f = sm k (fun _ => 0) := sm_congr (fun e he => h0 e (by omega) (by omega))
      rw [this, sm_zero]; omega
    · rw [ih (by omega) (fun e he => h0 e (by omega)), h0 m (by omega) (by omega)]; omega
theorem b2_le (b : Bool) : b2 b ≤ 1 := by cases b <;> simp [b2]
theorem cnt_le (n : Nat) (f : Nat → Bool) : cnt n f ≤ n := by
  have := sm_le (m := n) (f := fun p => b2 (f p)) (g := fun _ => 1) (fun e _ => b2_le _)
  rw [sm_one] at this; exact this
theorem cnt_mono {n : Nat} {f g : Nat → Bool} (h : ∀ p, p < n → f p = true → g p = true) : cnt n f ≤ cnt n g := by
  refine sm_le (fun e he => ?_)
  cases hf : f e with
  | false => simp [b2]
  | true => simp [b2, h e he hf]
theorem cnt_congr {n : Nat} {f g : Nat → Bool} (h : ∀ p, p < n → f p = g p) : cnt n f = cnt n g := sm_congr (fun e he => by rw [h e he])
theorem cnt_pos {n : Nat} {f : Nat → Bool} (h : 0 < cnt n f) : ∃ p, p < n ∧ f p = true := by
  induction n with
  | zero => simp [cnt, sm] at h
  | succ n ih =>
    simp only [cnt, sm] at h ih
    cases hf : f n with
    | true => exact ⟨n, by omega, hf⟩
    | false =>
      simp only [hf, b2] at h
      obtain ⟨p, hp, h2⟩ := ih (by simpa [b2] using h)
      exact ⟨p, by omega, h2⟩
theorem cnt_ge_one {n p : Nat} {f : Nat → Bool} (hp : p < n) (h : f p = true) : 1 ≤ cnt n f := by
  induction n with
  | zero => omega
  | succ n ih =>
    simp only [cnt, sm] at ih ⊢
    by_cases hk : p = n
    · subst hk; simp [b2, h]
    · have := ih (by omega); omega
/-- a set by its number -/
theorem set_of (m : Nat) (f : Nat → Bool) : ∃ s, s < 2 ^ m ∧ ∀ e, e < m → s.testBit e = f e := by
  induction m with
  | zero => exact ⟨0, by simp, fun e he => by omega⟩
  | succ m ih =>
    obtain ⟨s, hs, h⟩ := ih
    have hlt : 2 ^ m < 2 ^ (m + 1) := by rw [Nat.pow_succ]; have := Nat.two_pow_pos m; omega
    cases hf : f m with
    | false =>
      refine ⟨s, by omega, fun e he => ?_⟩
      by_cases hk : e = m
      · subst hk; rw [hf]; exact Nat.testBit_lt_two_pow hs
      · exact h e (by omega)
    | true =>
      refine ⟨s ||| 2 ^ m, Nat.or_lt_two_pow (by omega) hlt, fun e he => ?_⟩
      rw [Nat.testBit_or, Nat.testBit_two_pow]
      by_cases hk : e = m
      · subst hk; simp [hf]
      · rw [h e (by omega)]; simp; intro h2; omega

/-! ## givings that move on -/
abbrev Mv := List Int × Nat × Bool
def mvL (rec : Nat → Nat → Mv) (c n : Nat) (duty : Nat) (has : List Int) : Nat → Nat → Mv
  | 0, tried => (has, tried, false)
  | r + 1, tried =>
    if c.testBit (n - (r + 1)) && !tried.testBit (n - (r + 1)) then
      if has.getD (n - (r + 1)) 0 < 0 then (has.set (n - (r + 1)) duty, tried ||| 2 ^ (n - (r + 1)), true)
      else
        let x := rec (has.getD (n - (r + 1)) 0).toNat (tried ||| 2 ^ (n - (r + 1)))
        if x.2.2 then (x.1.set (n - (r + 1)) duty, x.2.1, true) else mvL rec c n duty has r x.2.1
    else mvL rec c n duty has r tried
/-- a duty given to somebody, and others moved on: so deep at most -/
def mv (cs : List Nat) (n : Nat) (has : List Int) : Nat → Nat → Nat → Mv
  | 0, duty, tried => mvL (fun _ t => (has, t, false)) (ca cs duty) n duty has n tried
  | f + 1, duty, tried => mvL (mv cs n has f) (ca cs duty) n duty has n tried
/-- so many duties given, one by one: who has which, and how many are given -/
def most (cs : List Nat) (n : Nat) : Nat → List Int × Nat
  | 0 => (List.replicate n (-1), 0)
  | k + 1 =>
    let x := mv cs n (most cs n k).1 n k 0
    if x.2.2 then (x.1, (most cs n k).2 + 1) else most cs n k
/-- MostDone -/
def D.most (d : D) : Int := if d.ok = true then ((Go.Proofs.Ythihcnlbohhemaa.most d.cs d.n d.cs.length).2 : Int) else -1

/-- who has which -/
def hv (has : List Int) (p : Nat) : Int := has.getD p (-1)
/-- all that are closed: who is in has a duty, and all who can do it are in -/
def Shut (cs : List Nat) (n : Nat) (has : List Int) (T : Nat → Prop) : Prop := ∀ p, p < n → T p → 0 ≤ hv has p ∧ ∀ q, q < n → (ca cs (hv has p).toNat).testBit q = true → T q
def Near (cs : List Nat) (n duty : Nat) (T : Nat → Prop) : Prop := ∀ q, q < n → (ca cs duty).testBit q = true → T q
/-- what is known of who has which -/
structure Has (cs : List Nat) (n : Nat) (has : List Int) : Prop where
  len : has.length = n
  val : ∀ p, p < n → hv has p = -1 ∨ (0 ≤ hv has p ∧ (hv has p).toNat < cs.length ∧ (ca cs (hv has p).toNat).testBit p = true)
/-- how often a duty is given -/
def hc (n : Nat) (has : List Int) (e : Nat) : Nat := cnt n (fun p => hv has p == (e : Int))

theorem hv_set {has : List Int} {n p : Nat} (hl : has.length = n) (hp : p < n) (q : Nat) (x : Int) : hv (has.set p x) q = if q = p then x else hv has q := by
  simp only [hv, List.getD, List.getElem?_set]
  by_cases h : p = q
  · subst h; simp [hl, hp]
  · have h' : ¬ q = p := fun e => h e.symm
    simp [h, h']
theorem hv_getD {has : List Int} {n p : Nat} (hl : has.length = n) (hp : p < n) : has.getD p 0 = hv has p := by
  simp [hv, hl, hp]
theorem hc_set {n p : Nat} {has : List Int} (hl : has.length = n) (hp : p < n) (x : Nat) (e : Nat) :
    hc n (has.set p x) e + b2 (hv has p == (e : Int)) = hc n has e + b2 ((x : Int) == (e : Int)) := by
  have hone : ∀ y : Nat, cnt n (fun q => decide (q = p) && decide (y = e)) = b2 (decide (y = e)) := fun y => by
    refine (sm_single n p _ hp (fun q _ hq => by simp [b2, hq])).trans ?_
    simp
  have h2 : ∀ z : Int, sm n (fun q => b2 (decide (q = p) && (z == (e : Int)))) = b2 (z == (e : Int)) := fun z => by
    refine (sm_single n p _ hp (fun q _ hq => by simp [b2, hq])).trans ?_
    simp
  simp only [hc, cnt]
  rw [← h2 (hv has p), ← h2 (x : Int), ← sm_add, ← sm_add]
  refine sm_congr (fun q hq => ?_)
  rw [hv_set hl hp]
  by_cases h : q = p
  · subst h; simp; omega
  · simp [h, b2]

/-- what one move does -/
structure Moved (cs : List Nat) (n : Nat) (has : List Int) (duty tried : Nat) (x : Mv) : Prop where
  grow : ∀ p, tried.testBit p = true → x.2.1.testBit p = true
  lt : tried < 2 ^ n → x.2.1 < 2 ^ n
  fail : x.2.2 = false → x.1 = has ∧ Near cs n duty (fun p => x.2.1.testBit p = true)
  shut : x.2.2 = false → ∀ p, p < n → x.2.1.testBit p = true → tried.testBit p = false → 0 ≤ hv has p ∧ ∀ q, q < n → (ca cs (hv has p).toNat).testBit q = true → x.2.1.testBit q = true
  good : x.2.2 = true → Has cs n x.1
  same : x.2.2 = true → ∀ p, p < n → tried.testBit p = true → hv x.1 p = hv has p
  count : x.2.2 = true → ∀ e, hc n x.1 e = hc n has e + b2 (duty == e)
  stuck : ∀ T, Shut cs n has T → Near cs n duty T → x.2.2 = false
  keeps : ∀ T, Shut cs n has T → x.2.2 = true → ∀ p, p < n → T p → hv x.1 p = hv has p

/-- how many are not tried yet -/
def untried (n tried : Nat) : Nat := cnt n (fun p => !tried.testBit p)
theorem testBit_put (t p q : Nat) : (t ||| 2 ^ p).testBit q = (t.testBit q || decide (p = q)) := by
  rw [Nat.testBit_or, Nat.testBit_two_pow]
theorem untried_put {n t p : Nat} (hp : p < n) (h : t.testBit p = false) : untried n (t ||| 2 ^ p) + 1 = untried n t := by
  have h1 : sm n (fun q => b2 (decide (q = p))) = 1 := by
    refine (sm_single n p _ hp (fun q _ hq => by simp [b2, hq])).trans ?_
    simp [b2]
  unfold untried cnt
  rw [← h1, ← sm_add]
  refine sm_congr (fun q _ => ?_)
  simp only [testBit_put]
  by_cases hq : q = p
  · subst hq; simp [h, b2]
  · have : ¬ p = q := fun e => hq e.symm
    simp [hq, this, b2]
theorem untried_le {n t : Nat} : untried n t ≤ n := cnt_le _ _
theorem untried_mono {n t t' : Nat} (h : ∀ p, t.testBit p = true → t'.testBit p = true) : untried n t' ≤ untried n t := by
  refine cnt_mono (fun p _ hp => ?_)
  cases ht : t.testBit p with
  | false => rfl
  | true => simp [h p ht] at hp

theorem mvL_moved {cs : List Nat} {n duty : Nat} {has : List Int} (hH : Has cs n has) (hd : duty < cs.length) (rec : Nat → Nat → Mv) (B : Nat)
    (hrec : ∀ d t, d < cs.length → untried n t < B → Moved cs n has d t (rec d t)) (t0 : Nat) :
    ∀ (r tried : Nat), r ≤ n → untried n tried ≤ B → (∀ p, t0.testBit p = true → tried.testBit p = true) → (t0 < 2 ^ n → tried < 2 ^ n) →
      (∀ q, q < n - r → (ca cs duty).testBit q = true → tried.testBit q = true) →
      (∀ p, p < n → tried.testBit p = true → t0.testBit p = false → 0 ≤ hv has p ∧ ∀ q, q < n → (ca cs (hv has p).toNat).testBit q = true → tried.testBit q = true) →
      Moved cs n has duty t0 (mvL rec (ca cs duty) n duty has r tried) := by
  intro r
  induction r with
  | zero =>
    intro tried _ _ hg hlt hnear hshut
    simp only [mvL]
    exact ⟨hg, hlt, fun _ => ⟨rfl, fun q hq hb => hnear q (by omega) hb⟩, fun _ => hshut, (by simp), (by simp), (by simp), fun _ _ _ => rfl, (by simp)⟩
  | succ r ih =>
    intro tried hr hB hg hlt hnear hshut
    simp only [mvL]
    have hp : n - (r + 1) < n := by omega
    generalize hP : n - (r + 1) = p at *
    rw [hv_getD hH.len hp]
    by_cases hb : ((ca cs duty).testBit p && !tried.testBit p) = true
    · rw [if_pos hb]
      simp only [Bool.and_eq_true, Bool.not_eq_true', ] at hb
      obtain ⟨hb1, hb2⟩ := hb
      have hu := untried_put hp hb2
      have hg' : ∀ q, t0.testBit q = true → (tried ||| 2 ^ p).testBit q = true := fun q hq => by rw [testBit_put, hg q hq]; rfl
      have hlt' : t0 < 2 ^ n → tried ||| 2 ^ p < 2 ^ n := fun h => Nat.or_lt_two_pow (hlt h) (Nat.pow_lt_pow_right (by omega) hp)
      have ht0 : t0.testBit p = false := by
        cases h : t0.testBit p with
        | false => rfl
        | true => rw [hg p h] at hb2; exact hb2
      by_cases hneg : hv has p < 0
      · rw [if_pos hneg]
        have h1 : hv has p = -1 := (hH.val p hp).resolve_right (by omega)
        refine ⟨hg', hlt', (by simp), (by simp), fun _ => ⟨by simp [hH.len], fun q hq => ?_⟩, fun _ q hq hq2 => ?_, fun _ e => ?_, fun T hT hN => ?_, fun T hT _ q hq hTq => ?_⟩
        · rw [hv_set hH.len hp]
          by_cases h : q = p
          · subst h; rw [if_pos rfl]; exact .inr ⟨by omega, by simpa using hd, by simpa using hb1⟩
          · rw [if_neg h]; exact hH.val q hq
        · rw [hv_set hH.len hp, if_neg]
          intro h; subst h; rw [ht0] at hq2; cases hq2
        · have := hc_set hH.len hp duty e
          rw [h1] at this
          have e1 : ((-1 : Int) == (e : Int)) = false := by rw [beq_eq_false_iff_ne]; omega
          have e2 : ((duty : Int) == (e : Int)) = (duty == e) := by rw [Bool.eq_iff_iff]; simp [Int.natCast_inj]
          rw [e1, e2] at this
          simpa [b2] using this
        · have := (hT p hp (hN p hp hb1)).1; omega
        · rw [hv_set hH.len hp, if_neg]
          intro h; subst h; have := (hT q hq hTq).1; omega
      · rw [if_neg hneg]
        obtain ⟨h0, hdl, hbp⟩ := (hH.val p hp).resolve_left (by omega)
        have M := hrec (hv has p).toNat (tried ||| 2 ^ p) hdl (by omega)
        generalize rec (hv has p).toNat (tried ||| 2 ^ p) = x at M ⊢
        cases hx : x.2.2 with
        | true =>
          simp only [if_true]
          have hX := M.good hx
          have hsp : hv x.1 p = hv has p := M.same hx p hp (by rw [testBit_put]; simp)
          refine ⟨fun q hq => M.grow q (hg' q hq), fun h => M.lt (hlt' h), (by simp), (by simp), fun _ => ⟨by simp [hX.len], fun q hq => ?_⟩, fun _ q hq hq2 => ?_, fun _ e => ?_, fun T hT hN => ?_, fun T hT _ q hq hTq => ?_⟩
          · rw [hv_set hX.len hp]
            by_cases h : q = p
            · subst h; rw [if_pos rfl]; exact .inr ⟨by omega, by simpa using hd, by simpa using hb1⟩
            · rw [if_neg h]; exact hX.val q hq
          · rw [hv_set hX.len hp, if_neg]
            · exact M.same hx q hq (hg' q hq2)
            · intro h; subst h; rw [ht0] at hq2; cases hq2
          · have h3 := hc_set hX.len hp duty e
            rw [hsp] at h3
            have h4 := M.count hx e
            have e2 : ((duty : Int) == (e : Int)) = (duty == e) := by rw [Bool.eq_iff_iff]; simp [Int.natCast_inj]
            have e3 : (hv has p == (e : Int)) = ((hv has p).toNat == e) := by rw [Bool.eq_iff_iff]; simp; omega
            rw [e2, e3] at h3
            show hc n (x.1.set p (duty : Int)) e = _
            omega
          · have hTp := hN p hp hb1
            have hst := M.stuck T hT (fun q hq hb => (hT p hp hTp).2 q hq hb)
            rw [hx] at hst; cases hst
          · rw [hv_set hX.len hp, if_neg]
            · exact M.keeps T hT hx q hq hTq
            · intro h; subst h
              have hst := M.stuck T hT (fun q' hq' hb => (hT q hq hTq).2 q' hq' hb)
              rw [hx] at hst; cases hst
        | false =>
          simp only [Bool.false_eq_true, if_false]
          have hgr : ∀ q, tried.testBit q = true → x.2.1.testBit q = true := fun q hq => M.grow q (by rw [testBit_put, hq]; rfl)
          refine ih x.2.1 (by omega) ?_ (fun q hq => M.grow q (hg' q hq)) (fun h => M.lt (hlt' h)) (fun q hq hbq => ?_) (fun q hq hq2 hq3 => ?_)
          · exact Nat.le_trans (untried_mono hgr) hB
          · by_cases h : q = p
            · subst h; exact M.grow q (by rw [testBit_put]; simp)
            · exact hgr q (hnear q (by omega) hbq)
          · by_cases h1 : tried.testBit q = true
            · obtain ⟨a, b⟩ := hshut q hq h1 hq3
              exact ⟨a, fun q' hq' hb' => hgr q' (b q' hq' hb')⟩
            · by_cases h : q = p
              · subst h
                exact ⟨h0, fun q' hq' hb' => (M.fail hx).2 q' hq' hb'⟩
              · exact M.shut hx q hq hq2 (by rw [testBit_put]; simp [h1]; intro e; exact h e.symm)
    · rw [if_neg hb]
      refine ih tried (by omega) hB hg hlt (fun q hq hbq => ?_) hshut
      by_cases h : q = p
      · subst h
        simp only [Bool.and_eq_true, Bool.not_eq_true', not_and, Bool.not_eq_false] at hb
        exact hb hbq
      · exact hnear q (by omega) hbq

theorem mv_moved {cs : List Nat} {n : Nat} {has : List Int} (hH : Has cs n has) : ∀ (f duty tried : Nat), duty < cs.length → untried n tried ≤ f → Moved cs n has duty tried (mv cs n has f duty tried) := by
  intro f
  induction f with
  | zero =>
    intro duty tried hd hu
    exact mvL_moved hH hd _ 0 (fun d t _ h => absurd h (Nat.not_lt_zero _)) tried n tried (Nat.le_refl _) hu (fun _ h => h) id (fun q hq => by omega) (fun p _ h h2 => by rw [h] at h2; cases h2)
  | succ f ih =>
    intro duty tried hd hu
    exact mvL_moved hH hd _ (f + 1) (fun d t hd' h => ih d t hd' (by omega)) tried n tried (Nat.le_refl _) hu (fun _ h => h) id (fun q hq => by omega) (fun p _ h h2 => by rw [h] at h2; cases h2)

/-- what is known when so many duties are given -/
structure Most (cs : List Nat) (n k : Nat) (x : List Int × Nat) : Prop where
  has : Has cs n x.1
  one : ∀ e, hc n x.1 e ≤ 1
  none : ∀ e, k ≤ e → hc n x.1 e = 0
  sum : x.2 = sm k (fun e => hc n x.1 e)
  shut : ∃ T, Shut cs n x.1 T ∧ ∀ e, e < k → hc n x.1 e = 0 → Near cs n e T

theorem most_most {cs : List Nat} {n : Nat} : ∀ k, k ≤ cs.length → Most cs n k (most cs n k) := by
  intro k
  induction k with
  | zero =>
    intro _
    have hz : ∀ p, hv (List.replicate n (-1 : Int)) p = -1 := fun p => by
      simp only [hv, List.getD, List.getElem?_replicate]; split <;> rfl
    have hc0 : ∀ e, hc n (List.replicate n (-1 : Int)) e = 0 := fun e => by
      refine (sm_congr (g := fun _ => 0) (fun q _ => ?_)).trans (sm_zero n)
      simp only [hz]
      have e1 : ((-1 : Int) == (e : Int)) = false := by rw [beq_eq_false_iff_ne]; omega
      rw [e1]; rfl
    exact ⟨⟨by simp [most], fun p _ => .inl (hz p)⟩, fun e => by simp only [most]; rw [hc0]; omega, fun e _ => hc0 e, rfl, fun _ => False, fun p _ h => h.elim, fun e he => by omega⟩
  | succ k ih =>
    intro hk
    have I := ih (by omega)
    simp only [most]
    have M := mv_moved I.has n k 0 (by omega) untried_le
    generalize hX : mv cs n (most cs n k).1 n k 0 = x at M ⊢
    generalize most cs n k = y at I M ⊢
    obtain ⟨T, hT, hT2⟩ := I.shut
    cases hx : x.2.2 with
    | true =>
      simp only [if_true]
      have hcount := M.count hx
      refine ⟨M.good hx, fun e => ?_, fun e he => ?_, ?_, T, fun p hp hTp => ?_, fun e he h0 => ?_⟩
      · rw [hcount]
        by_cases h : k = e
        · subst h; rw [I.none k (Nat.le_refl _)]; simp [b2]
        · have : (k == e) = false := by simpa using h
          rw [this]; exact I.one e
      · rw [hcount, I.none e (by omega)]
        have : (k == e) = false := by simp; omega
        rw [this]; rfl
      · simp only [sm]
        rw [hcount k, I.none k (Nat.le_refl _), I.sum]
        have : sm k (fun e => hc n y.1 e) = sm k (fun e => hc n x.1 e) := sm_congr (fun e he => by
          rw [hcount]
          have : (k == e) = false := by simp; omega
          rw [this]; rfl)
        rw [this]; simp [b2]
      · rw [M.keeps T hT hx p hp hTp]; exact hT p hp hTp
      · rw [hcount] at h0
        by_cases h : e = k
        · subst h; simp [b2] at h0
        · exact hT2 e (by omega) (by omega)
    | false =>
      simp only [Bool.false_eq_true, if_false]
      refine ⟨I.has, I.one, fun e he => I.none e (by omega), by simp only [sm]; rw [I.none k (Nat.le_refl _)]; exact I.sum, fun p => T p ∨ x.2.1.testBit p = true, fun p hp hTp => ?_, fun e he h0 => ?_⟩
      · rcases hTp with h | h
        · obtain ⟨a, b⟩ := hT p hp h
          exact ⟨a, fun q hq hb => .inl (b q hq hb)⟩
        · obtain ⟨a, b⟩ := M.shut hx p hp h (by simp)
          exact ⟨a, fun q hq hb => .inr (b q hq hb)⟩
      · by_cases h : e = k
        · subst h; exact fun q hq hb => .inr ((M.fail hx).2 q hq hb)
        · exact fun q hq hb => .inl (hT2 e (by omega) h0 q hq hb)

/-! ## what is short -/
/-- who can do some duty of a set -/
def nb (cs : List Nat) (s : Nat → Bool) (p : Nat) : Bool := decide (∃ e, e < cs.length ∧ s e = true ∧ (ca cs e).testBit p = true)
/-- a set of duties is short by so many at most, whatever is given -/
theorem short_le {cs : List Nat} {n : Nat} {has : List Int} (hH : Has cs n has) (h1 : ∀ e, hc n has e ≤ 1) (s : Nat → Bool) :
    cnt cs.length s + sm cs.length (fun e => hc n has e) ≤ cs.length + cnt n (nb cs s) := by
  have hA : sm cs.length (fun e => b2 (s e) * hc n has e) ≤ cnt n (nb cs s) := by
    have e1 : sm cs.length (fun e => b2 (s e) * hc n has e) = sm cs.length (fun e => sm n (fun p => b2 (s e && (hv has p == (e : Int))))) := sm_congr (fun e _ => by
      cases hs : s e with
      | false => simp [b2, sm_zero]
      | true => simp [b2, hc, cnt])
    rw [e1, sm_swap]
    refine sm_le (fun p hp => ?_)
    rcases hH.val p hp with h | ⟨h0, hl, hb⟩
    · rw [sm_congr (g := fun _ => 0) (fun e _ => by
        have : ((-1 : Int) == (e : Int)) = false := by rw [beq_eq_false_iff_ne]; omega
        simp [h, this, b2]), sm_zero]
      omega
    · rw [sm_single cs.length (hv has p).toNat _ hl (fun e _ he => by
        have : (hv has p == (e : Int)) = false := by simp; omega
        simp [this, b2])]
      have : (hv has p == ((hv has p).toNat : Int)) = true := by simp; omega
      rw [this, Bool.and_true]
      cases hs : s (hv has p).toNat with
      | false => simp [b2]
      | true =>
        have : nb cs s p = true := by simp only [nb, decide_eq_true_eq]; exact ⟨_, hl, hs, hb⟩
        rw [this]; exact Nat.le_refl _
  have hB : cnt cs.length s + sm cs.length (fun e => hc n has e) ≤ cs.length + sm cs.length (fun e => b2 (s e) * hc n has e) := by
    conv => rhs; lhs; rw [← sm_one cs.length]
    unfold cnt
    rw [← sm_add, ← sm_add]
    refine sm_le (fun e _ => ?_)
    have := h1 e
    cases hs : s e with
    | false => simp [b2]; omega
    | true => simp [b2]
  omega
/-- and some set is short by just so many -/
theorem short_is {cs : List Nat} {n : Nat} {x : List Int × Nat} (h : Most cs n cs.length x) : ∃ s, s < 2 ^ cs.length ∧ cnt cs.length s.testBit + x.2 ≥ cs.length + cnt n (nb cs s.testBit) := by
  obtain ⟨T, hT, hT2⟩ := h.shut
  classical
  obtain ⟨t, htT⟩ : ∃ t : Nat → Bool, ∀ p, t p = decide (T p) := ⟨fun p => decide (T p), fun _ => rfl⟩
  obtain ⟨s, hs, hse⟩ := set_of cs.length (fun e => decide (hc n x.1 e = 0) || decide (0 < cnt n (fun p => t p && (hv x.1 p == (e : Int)))))
  refine ⟨s, hs, ?_⟩
  have hN : cnt n (nb cs s.testBit) ≤ cnt n t := by
    refine cnt_mono (fun p hp hb => ?_)
    simp only [nb, decide_eq_true_eq] at hb
    obtain ⟨e, he, hb1, hb2⟩ := hb
    rw [hse e he] at hb1
    simp only [Bool.or_eq_true, decide_eq_true_eq] at hb1
    rcases hb1 with h0 | h0
    · rw [htT]; exact decide_eq_true (hT2 e he h0 p hp hb2)
    · obtain ⟨q, hq, hq2⟩ := cnt_pos h0
      simp only [htT, Bool.and_eq_true, decide_eq_true_eq, beq_iff_eq] at hq2
      rw [htT]; exact decide_eq_true ((hT q hq hq2.1).2 p hp (by rw [hq2.2]; simpa using hb2))
  have hS : cnt cs.length s.testBit = sm cs.length (fun e => (1 - hc n x.1 e) + cnt n (fun p => t p && (hv x.1 p == (e : Int)))) := by
    refine sm_congr (fun e he => ?_)
    rw [hse e he]
    have hle : cnt n (fun p => t p && (hv x.1 p == (e : Int))) ≤ hc n x.1 e := cnt_mono (fun p _ h => by simp only [Bool.and_eq_true] at h; exact h.2)
    have h1 := h.one e
    by_cases h0 : hc n x.1 e = 0
    · rw [h0]
      have : cnt n (fun p => t p && (hv x.1 p == (e : Int))) = 0 := by omega
      rw [this]; simp [b2]
    · have h1' : hc n x.1 e = 1 := by omega
      rw [h1']
      by_cases hq : 0 < cnt n (fun p => t p && (hv x.1 p == (e : Int)))
      · have : cnt n (fun p => t p && (hv x.1 p == (e : Int))) = 1 := by omega
        rw [this]; simp [b2]
      · have : cnt n (fun p => t p && (hv x.1 p == (e : Int))) = 0 := by omega
        rw [this]; simp [b2]
  have hT3 : sm cs.length (fun e => cnt n (fun p => t p && (hv x.1 p == (e : Int)))) = cnt n t := by
    unfold cnt
    rw [sm_swap]
    refine sm_congr (fun p hp => ?_)
    cases ht : t p with
    | false => simp [b2, ht, sm_zero]
    | true =>
      have hTp : T p := of_decide_eq_true (by rw [← htT]; exact ht)
      obtain ⟨h0, _⟩ := hT p hp hTp
      obtain ⟨_, hl, hb⟩ := (h.has.val p hp).resolve_left (by omega)
      rw [sm_single cs.length (hv x.1 p).toNat _ hl (fun e _ he => by
        have : (hv x.1 p == (e : Int)) = false := by simp; omega
        simp [this, b2])]
      have : (hv x.1 p == ((hv x.1 p).toNat : Int)) = true := by simp; omega
      simp only [ht, this, Bool.and_true]
  have hsum : sm cs.length (fun e => 1 - hc n x.1 e) + x.2 = cs.length := by
    rw [h.sum]
    conv => rhs; rw [← sm_one cs.length]
    rw [← sm_add]
    refine sm_congr (fun e _ => ?_)
    have := h.one e; omega
  rw [hS, sm_add, hT3]
  omega
end Go.Proofs.Ythihcnlbohhemaa
