/- The reader of terms as a function on bytes, and that it reads the text of every term. No program is named here. No condition. -/
import Derived.Test.YtlfjecaffmfgcabDoorTermMath
namespace Go.Proofs.YtlfjecaffmfgcabDoor

def signKind (b : UInt8) : Int := if b = 42 then 0 else if b = 94 then 1 else if b = 47 then 2 else if b = 60 then 3 else if b = 62 then 4 else -1
/-- the rule that three bytes would tell -/
def ruleOf (a b c : UInt8) : Ru := ⟨signKind b, ⟨#[a]⟩, if b = 47 then ⟨#[c]⟩ else ⟨#[]⟩, if b = 47 then 0 else (c.toNat : Int) - 48⟩
abbrev Part := Option (List Mk × List UInt8)
def pRule : List UInt8 → Part
  | a :: b :: c :: s => if (ruleOf a b c).ok = true then some ([⟨0, ruleOf a b c⟩], s) else none
  | _ => none
def pLoop (part : List UInt8 → Part) (sign : UInt8) (kind : Int) : Nat → List Mk → List UInt8 → Part
  | 0, _, _ => none
  | n + 1, m, b => if b.head? = some sign then (part b.tail).bind fun p => pLoop part sign kind n (m ++ p.1 ++ [markOf kind]) p.2 else some (m, b)
def pBetween (part : List UInt8 → Part) (sign : UInt8) (kind : Int) (n : Nat) (s : List UInt8) : Part := (part s).bind fun p => pLoop part sign kind n p.1 p.2
def pClose : Part → Part
  | some (m, 41 :: b) => some (m, b)
  | _ => none
def pAtom : Nat → List UInt8 → Part
  | 0, _ => none
  | n + 1, s =>
    if s.head? = some 33 then (pAtom n s.tail).map fun p => (p.1 ++ [markOf 3], p.2) else
    if s.head? = some 40 then pClose (pBetween (pBetween (pAtom n) 38 1 n) 124 2 n s.tail) else pRule s
def pAnd (n : Nat) (s : List UInt8) : Part := pBetween (pAtom n) 38 1 n s
def pOr (n : Nat) (s : List UInt8) : Part := pBetween (pAnd n) 124 2 n s

/-- what a reader leaves is no more than it was given -/
def Shrinks (part : List UInt8 → Part) : Prop := ∀ s m b, part s = some (m, b) → b.length ≤ s.length
theorem pLoop_shrinks {part : List UInt8 → Part} (hp : Shrinks part) (sign : UInt8) (kind : Int) : ∀ n m b m' b', pLoop part sign kind n m b = some (m', b') → b'.length ≤ b.length := by
  intro n
  induction n with
  | zero => intro m b m' b' h; simp [pLoop] at h
  | succ n ih =>
    intro m b m' b' h
    unfold pLoop at h
    split at h
    · rw [Option.bind_eq_some_iff] at h
      obtain ⟨⟨m2, b2⟩, h2, h3⟩ := h
      have h4 := hp _ _ _ h2
      have h5 := ih _ _ _ _ h3
      simp only [List.length_tail] at h4 h5
      omega
    · simp only [Option.some.injEq, Prod.mk.injEq] at h
      rw [h.2]; exact Nat.le_refl _
theorem pBetween_shrinks {part : List UInt8 → Part} (hp : Shrinks part) (sign : UInt8) (kind : Int) (n : Nat) : Shrinks (pBetween part sign kind n) := by
  intro s m b h
  unfold pBetween at h
  rw [Option.bind_eq_some_iff] at h
  obtain ⟨⟨m2, b2⟩, h2, h3⟩ := h
  exact Nat.le_trans (pLoop_shrinks hp _ _ _ _ _ _ _ h3) (hp _ _ _ h2)
theorem pRule_shrinks : Shrinks pRule := by
  intro s m b h
  match s, h with
  | a :: b' :: c :: s, h =>
    have h' : (if (ruleOf a b' c).ok = true then some ([(⟨0, ruleOf a b' c⟩ : Mk)], s) else none) = some (m, b) := h
    by_cases hk : (ruleOf a b' c).ok = true
    · rw [if_pos hk] at h'
      simp only [Option.some.injEq, Prod.mk.injEq] at h'
      rw [← h'.2]
      simp only [List.length_cons]
      omega
    · rw [if_neg hk] at h'
      cases h'
  | [], h => simp [pRule] at h
  | [_], h => simp [pRule] at h
  | [_, _], h => simp [pRule] at h
theorem pClose_some {x : Part} {m : List Mk} {b : List UInt8} (h : pClose x = some (m, b)) : x = some (m, 41 :: b) := by
  unfold pClose at h
  split at h
  · simp only [Option.some.injEq, Prod.mk.injEq] at h
    obtain ⟨rfl, rfl⟩ := h
    rfl
  · simp at h
theorem pAtom_shrinks : ∀ n, Shrinks (pAtom n) := by
  intro n
  induction n with
  | zero => intro s m b h; simp [pAtom] at h
  | succ n ih =>
    intro s m b h
    unfold pAtom at h
    split at h
    · simp only [Option.map_eq_some_iff, Prod.mk.injEq] at h
      obtain ⟨⟨m2, b2⟩, h2, -, rfl⟩ := h
      have := ih _ _ _ h2
      simp only [List.length_tail] at this
      show b2.length ≤ _
      omega
    · split at h
      · have h2 := pClose_some h
        have := pBetween_shrinks (pBetween_shrinks ih 38 1 n) 124 2 n _ _ _ h2
        simp only [List.length_tail, List.length_cons] at this
        omega
      · exact pRule_shrinks _ _ _ h

/-- enough rounds are enough -/
theorem pLoop_enough {f g : List UInt8 → Part} (sign : UInt8) (kind : Int) (hf : Shrinks f) : ∀ n k m b, b.length < n → b.length < k → (∀ s, s.length < b.length → f s = g s) → pLoop f sign kind n m b = pLoop g sign kind k m b := by
  intro n
  induction n with
  | zero => intro k m b h; omega
  | succ n ih =>
    intro k m b h h' hfg
    match k, h' with
    | k + 1, h' =>
      unfold pLoop
      split
      · rename_i hh
        have hpos : 0 < b.length := by
          cases b with
          | nil => simp at hh
          | cons c b => simp
        have ht : b.tail.length = b.length - 1 := List.length_tail
        rw [← hfg b.tail (by omega)]
        cases hx : f b.tail with
        | none => rfl
        | some p =>
          obtain ⟨m2, b2⟩ := p
          have := hf _ _ _ hx
          simp only [Option.bind_some]
          exact ih k _ _ (by omega) (by omega) (fun s hs => hfg s (by omega))
      · rfl
theorem pBetween_enough {f g : List UInt8 → Part} (sign : UInt8) (kind : Int) (hf : Shrinks f) {n k : Nat} {s : List UInt8} (hn : s.length < n) (hk : s.length < k) (hfg : ∀ t : List UInt8, t.length ≤ s.length → f t = g t) : pBetween f sign kind n s = pBetween g sign kind k s := by
  unfold pBetween
  rw [← hfg s (Nat.le_refl _)]
  cases hx : f s with
  | none => rfl
  | some p =>
    obtain ⟨m, b⟩ := p
    have := hf _ _ _ hx
    simp only [Option.bind_some]
    exact pLoop_enough sign kind hf _ _ _ _ (by omega) (by omega) (fun t ht => hfg t (by omega))
theorem pAtom_enough : ∀ n k s, s.length < n → s.length < k → pAtom n s = pAtom k s := by
  intro n
  induction n with
  | zero => intro k s h; omega
  | succ n ih =>
    intro k s h h'
    match k, h' with
    | k + 1, h' =>
      unfold pAtom
      by_cases h1 : s.head? = some 33
      · have hpos : 0 < s.length := by cases s <;> simp at h1 ⊢
        have ht : s.tail.length = s.length - 1 := List.length_tail
        rw [if_pos h1, if_pos h1, ih k s.tail (by omega) (by omega)]
      · rw [if_neg h1, if_neg h1]
        by_cases h2 : s.head? = some 40
        · have hpos : 0 < s.length := by cases s <;> simp at h2 ⊢
          have ht : s.tail.length = s.length - 1 := List.length_tail
          rw [if_pos h2, if_pos h2]
          congr 1
          exact pBetween_enough _ _ (pBetween_shrinks (pAtom_shrinks n) _ _ _) (by omega) (by omega) fun t htl =>
            pBetween_enough _ _ (pAtom_shrinks n) (by omega) (by omega) fun u hu => ih k u (by omega) (by omega)
        · rw [if_neg h2, if_neg h2]
theorem pAnd_enough {n k : Nat} {s : List UInt8} (hn : s.length < n) (hk : s.length < k) : pAnd n s = pAnd k s :=
  pBetween_enough _ _ (pAtom_shrinks n) hn hk fun _ ht => pAtom_enough _ _ _ (by omega) (by omega)
theorem pOr_enough {n k : Nat} {s : List UInt8} (hn : s.length < n) (hk : s.length < k) : pOr n s = pOr k s :=
  pBetween_enough _ _ (pBetween_shrinks (pAtom_shrinks n) _ _ _) hn hk fun _ ht => pAnd_enough (by omega) (by omega)

/-- three bytes of a rule -/
theorem Ru.text_cases {r : Ru} (h : r.ok = true) : ∃ a b c : UInt8, r.text = [a, b, c] ∧ (a = 114 ∨ a = 100 ∨ a = 110) ∧ ruleOf a b c = r := by
  obtain ⟨kind, letter, thn, many⟩ := r
  obtain ⟨hl, hr⟩ := Ru.ok_iff.1 h
  simp only at hl hr
  have hlet : ∃ a : UInt8, letter = ⟨#[a]⟩ ∧ (a = 114 ∨ a = 100 ∨ a = 110) := by
    rcases letterOk_cases hl with rfl | rfl | rfl
    · exact ⟨_, rfl, .inl rfl⟩
    · exact ⟨_, rfl, .inr (.inl rfl)⟩
    · exact ⟨_, rfl, .inr (.inr rfl)⟩
  obtain ⟨a, rfl, ha⟩ := hlet
  have dig : ∀ m : Int, 0 ≤ m → m ≤ 5 → ((UInt8.ofNat (48 + m.toNat)).toNat : Int) - 48 = m := by
    intro m h0 h5
    have : m = 0 ∨ m = 1 ∨ m = 2 ∨ m = 3 ∨ m = 4 ∨ m = 5 := by omega
    rcases this with rfl | rfl | rfl | rfl | rfl | rfl <;> rfl
  rcases hr with ⟨rfl, rfl, h0, h1⟩ | ⟨rfl, rfl, h0, h1⟩ | ⟨rfl, ht, rfl⟩ | ⟨rfl, rfl, h0, h1⟩ | ⟨rfl, rfl, h0, h1⟩
  · exact ⟨a, 42, _, rfl, ha, by rw [ruleOf, dig many (by omega) (by omega)]; simp [signKind]⟩
  · exact ⟨a, 94, _, rfl, ha, by rw [ruleOf, dig many (by omega) (by omega)]; simp [signKind]⟩
  · have hthn : ∃ c : UInt8, thn = ⟨#[c]⟩ := by
      rcases letterOk_cases ht with rfl | rfl | rfl <;> exact ⟨_, rfl⟩
    obtain ⟨c, rfl⟩ := hthn
    exact ⟨a, 47, c, rfl, ha, by simp [ruleOf, signKind]⟩
  · exact ⟨a, 60, _, rfl, ha, by rw [ruleOf, dig many (by omega) (by omega)]; simp [signKind]⟩
  · exact ⟨a, 62, _, rfl, ha, by rw [ruleOf, dig many (by omega) (by omega)]; simp [signKind]⟩
theorem pRule_text {r : Ru} (h : r.ok = true) (rest : List UInt8) : pRule (r.text ++ rest) = some ([⟨0, r⟩], rest) := by
  obtain ⟨a, b, c, ht, -, hr⟩ := Ru.text_cases h
  rw [ht]
  show (if (ruleOf a b c).ok = true then _ else _) = _
  rw [hr, if_pos h]
  rfl

theorem inBr_true (s : List UInt8) : inBr true s = [40] ++ s ++ [41] := rfl
theorem inBr_false (s : List UInt8) : inBr false s = s := rfl
theorem inBr_length (b : Bool) (s : List UInt8) : (inBr b s).length ≤ s.length + 2 := by cases b <;> simp [inBr]
/-- which signs go on -/
def NoSign (c : UInt8) (rest : List UInt8) : Prop := rest.head? ≠ some c
theorem pLoop_stop {part : List UInt8 → Part} {sign : UInt8} {kind : Int} {n : Nat} {m : List Mk} {b : List UInt8} (h : NoSign sign b) : pLoop part sign kind (n + 1) m b = some (m, b) := by
  unfold pLoop; rw [if_neg h]
theorem Tm.last_cases (T : Tm) : T.last = 0 ∨ T.last = 1 ∨ T.last = 2 ∨ T.last = 3 := by
  cases T with
  | rule => exact .inl rfl
  | not => exact .inr (.inr (.inr rfl))
  | two o a b => cases o with
    | true => exact .inr (.inr (.inl rfl))
    | false => exact .inr (.inl rfl)
/-- the text of a tree is read as its marks: as what binds most, as parts with ampersands, as parts with bars -/
theorem reads_text (T : Tm) (hg : T.good = true) :
    ((T.last = 0 ∨ T.last = 3) → ∀ rest n, (T.text ++ rest).length < n → pAtom n (T.text ++ rest) = some (T.post, rest)) ∧
    ((T.last = 0 ∨ T.last = 3 ∨ T.last = 1) → ∀ rest n, (T.text ++ rest).length < n → pAnd n (T.text ++ rest) = pLoop (pAtom n) 38 1 n T.post rest) ∧
    (∀ rest n, (T.text ++ rest).length < n → NoSign 38 rest → pOr n (T.text ++ rest) = pLoop (pAnd n) 124 2 n T.post rest) := by
  -- how what binds most is read as more
  have up : ∀ (U : Tm), ((U.last = 0 ∨ U.last = 3) → ∀ rest n, (U.text ++ rest).length < n → pAtom n (U.text ++ rest) = some (U.post, rest)) →
      (U.last = 0 ∨ U.last = 3) → ∀ rest n, (U.text ++ rest).length < n → pAnd n (U.text ++ rest) = pLoop (pAtom n) 38 1 n U.post rest := by
    intro U h hl rest n hn
    unfold pAnd pBetween
    rw [h hl rest n hn]; rfl
  have up2 : ∀ (U : Tm), ((U.last = 0 ∨ U.last = 3 ∨ U.last = 1) → ∀ rest n, (U.text ++ rest).length < n → pAnd n (U.text ++ rest) = pLoop (pAtom n) 38 1 n U.post rest) →
      (U.last = 0 ∨ U.last = 3 ∨ U.last = 1) → ∀ rest n, (U.text ++ rest).length < n → NoSign 38 rest → pOr n (U.text ++ rest) = pLoop (pAnd n) 124 2 n U.post rest := by
    intro U h hl rest n hn hs
    unfold pOr pBetween
    rw [h hl rest n hn]
    match n, hn with
    | n + 1, _ => rw [pLoop_stop hs]; rfl
  -- in brackets
  have br : ∀ (U : Tm), (∀ rest n, (U.text ++ rest).length < n → NoSign 38 rest → pOr n (U.text ++ rest) = pLoop (pAnd n) 124 2 n U.post rest) →
      ∀ rest n, (inBr true U.text ++ rest).length < n → pAtom n (inBr true U.text ++ rest) = some (U.post, rest) := by
    intro U h rest n hn
    match n, hn with
    | n + 1, hn =>
      have hn' : (U.text ++ 41 :: rest).length < n := by simp [inBr] at hn ⊢; omega
      have e : inBr true U.text ++ rest = 40 :: (U.text ++ 41 :: rest) := by simp [inBr]
      rw [e]
      unfold pAtom
      rw [if_neg (by simp), if_pos (by simp)]
      show pClose (pOr n (U.text ++ 41 :: rest)) = _
      rw [h _ n hn' (by simp [NoSign])]
      match n, hn' with
      | n + 1, _ => rw [pLoop_stop (by simp [NoSign])]; rfl
  -- a part, in brackets or not, as what binds most
  have held : ∀ (U : Tm) (b : Bool), ((U.last = 0 ∨ U.last = 3) → ∀ rest n, (U.text ++ rest).length < n → pAtom n (U.text ++ rest) = some (U.post, rest)) →
      (∀ rest n, (U.text ++ rest).length < n → NoSign 38 rest → pOr n (U.text ++ rest) = pLoop (pAnd n) 124 2 n U.post rest) → (b = false → U.last = 0 ∨ U.last = 3) →
      ∀ rest n, (inBr b U.text ++ rest).length < n → pAtom n (inBr b U.text ++ rest) = some (U.post, rest) := by
    intro U b h1 h3 hb rest n hn
    cases b with
    | true => exact br U h3 rest n hn
    | false => exact h1 (hb rfl) rest n hn
  induction T with
  | rule r =>
    have h1 : ∀ rest n, ((Tm.rule r).text ++ rest).length < n → pAtom n ((Tm.rule r).text ++ rest) = some ((Tm.rule r).post, rest) := by
      intro rest n hn
      match n, hn with
      | n + 1, _ =>
        obtain ⟨a, b, c, ht, ha, -⟩ := Ru.text_cases (show r.ok = true from hg)
        have hh : ((Tm.rule r).text ++ rest).head? = some a := by show (r.text ++ rest).head? = _; rw [ht]; rfl
        unfold pAtom
        rw [hh, if_neg (by rcases ha with rfl | rfl | rfl <;> decide), if_neg (by rcases ha with rfl | rfl | rfl <;> decide)]
        exact pRule_text hg rest
    have h2 := up (.rule r) (fun _ => h1) (.inl rfl)
    exact ⟨fun _ => h1, fun _ => h2, up2 (.rule r) (fun _ => h2) (.inl rfl)⟩
  | not a iha =>
    obtain ⟨i1, i2, i3⟩ := iha hg
    have h1 : ∀ rest n, ((Tm.not a).text ++ rest).length < n → pAtom n ((Tm.not a).text ++ rest) = some ((Tm.not a).post, rest) := by
      intro rest n hn
      match n, hn with
      | n + 1, hn =>
        have e : (Tm.not a).text ++ rest = 33 :: (inBr (decide (a.last = 2) || decide (a.last = 1)) a.text ++ rest) := by simp [Tm.text]
        rw [e] at hn ⊢
        unfold pAtom
        rw [if_pos (by simp)]
        show (pAtom n (inBr _ a.text ++ rest)).map _ = _
        rw [held a _ i1 i3 (by intro hb; simp only [Bool.or_eq_false_iff, decide_eq_false_iff_not] at hb; have := a.last_cases; omega) rest n (by simp only [List.length_cons] at hn; omega)]
        rfl
    have h2 := up (.not a) (fun _ => h1) (.inr rfl)
    exact ⟨fun _ => h1, fun _ => h2, up2 (.not a) (fun _ => h2) (.inr (.inl rfl))⟩
  | two o a b iha ihb =>
    have hg' : a.good = true ∧ b.good = true := by simpa [Tm.good] using hg
    obtain ⟨a1, a2, a3⟩ := iha hg'.1
    obtain ⟨b1, b2, b3⟩ := ihb hg'.2
    cases o with
    | false =>
      have h2 : ∀ rest n, ((Tm.two false a b).text ++ rest).length < n → pAnd n ((Tm.two false a b).text ++ rest) = pLoop (pAtom n) 38 1 n (Tm.two false a b).post rest := by
        intro rest n hn
        have e : (Tm.two false a b).text ++ rest = inBr (decide (a.last = 2)) a.text ++ (38 :: (inBr (decide (b.last = 2) || decide (b.last = 1)) b.text ++ rest)) := by simp [Tm.text]
        rw [e] at hn ⊢
        have hb : ∀ k, (inBr (decide (b.last = 2) || decide (b.last = 1)) b.text ++ rest).length < k → pAtom k (inBr (decide (b.last = 2) || decide (b.last = 1)) b.text ++ rest) = some (b.post, rest) := fun k hk =>
          held b _ b1 b3 (by intro hb; simp only [Bool.or_eq_false_iff, decide_eq_false_iff_not] at hb; have := b.last_cases; omega) rest k hk
        -- the first part
        have ha : pAnd n (inBr (decide (a.last = 2)) a.text ++ (38 :: (inBr (decide (b.last = 2) || decide (b.last = 1)) b.text ++ rest))) = pLoop (pAtom n) 38 1 n a.post (38 :: (inBr (decide (b.last = 2) || decide (b.last = 1)) b.text ++ rest)) := by
          by_cases h : a.last = 2
          · rw [decide_eq_true h] at hn ⊢
            unfold pAnd pBetween
            rw [br a a3 _ n hn]; rfl
          · rw [decide_eq_false h, inBr_false] at hn ⊢
            exact a2 (by have := a.last_cases; omega) _ n hn
        rw [ha]
        generalize inBr (decide (b.last = 2) || decide (b.last = 1)) b.text ++ rest = R at *
        have hR : R.length < n := by simp only [List.length_append, List.length_cons] at hn; omega
        have hrest : rest.length ≤ R.length := pAtom_shrinks n _ _ _ (hb n hR)
        match n, hn, hR with
        | n + 1, hn, hR =>
          rw [show pLoop (pAtom (n + 1)) 38 1 (n + 1) a.post (38 :: R) = (pAtom (n + 1) R).bind fun p => pLoop (pAtom (n + 1)) 38 1 n (a.post ++ p.1 ++ [markOf 1]) p.2 from by
            rw [pLoop, if_pos (by simp)]; rfl, hb (n + 1) hR]
          simp only [Option.bind_some]
          exact pLoop_enough 38 1 (pAtom_shrinks _) _ _ _ _ (by simp only [List.length_append, List.length_cons] at hn; omega) (by omega) fun _ _ => rfl
      exact ⟨fun h => by simp [Tm.last] at h, fun _ => h2, up2 _ (fun _ => h2) (.inr (.inr rfl))⟩
    | true =>
      refine ⟨fun h => by simp [Tm.last] at h, fun h => by simp [Tm.last] at h, ?_⟩
      intro rest n hn hs
      have e : (Tm.two true a b).text ++ rest = a.text ++ (124 :: (inBr (decide (b.last = 2)) b.text ++ rest)) := by simp [Tm.text]
      rw [e] at hn ⊢
      have hb : ∀ k, (inBr (decide (b.last = 2)) b.text ++ rest).length < k → pAnd k (inBr (decide (b.last = 2)) b.text ++ rest) = some (b.post, rest) := by
        intro k hk
        have h3 : pAnd k (inBr (decide (b.last = 2)) b.text ++ rest) = pLoop (pAtom k) 38 1 k b.post rest := by
          by_cases h : b.last = 2
          · rw [decide_eq_true h] at hk ⊢
            unfold pAnd pBetween
            rw [br b b3 _ k hk]; rfl
          · rw [decide_eq_false h, inBr_false] at hk ⊢
            exact b2 (by have := b.last_cases; omega) _ k hk
        rw [h3]
        match k, hk with
        | k + 1, _ => exact pLoop_stop hs
      rw [a3 _ n hn (by simp [NoSign])]
      generalize inBr (decide (b.last = 2)) b.text ++ rest = R at *
      have hR : R.length < n := by simp only [List.length_append, List.length_cons] at hn; omega
      have hrest : rest.length ≤ R.length := pBetween_shrinks (pAtom_shrinks n) _ _ _ _ _ _ (hb n hR)
      match n, hn, hR with
      | n + 1, hn, hR =>
        rw [show pLoop (pAnd (n + 1)) 124 2 (n + 1) a.post (124 :: R) = (pAnd (n + 1) R).bind fun p => pLoop (pAnd (n + 1)) 124 2 n (a.post ++ p.1 ++ [markOf 2]) p.2 from by
          rw [pLoop, if_pos (by simp)]; rfl, hb (n + 1) hR]
        simp only [Option.bind_some]
        exact pLoop_enough 124 2 (pBetween_shrinks (pAtom_shrinks _) _ _ _) _ _ _ _ (by simp only [List.length_append, List.length_cons] at hn; omega) (by omega) fun _ _ => rfl
/-- the text of a tree is read as its marks, whole -/
theorem pOr_text {T : Tm} (hg : T.good = true) {n : Nat} (hn : T.text.length < n) : pOr n T.text = some (T.post, []) := by
  have := (reads_text T hg).2.2 [] n (by simpa using hn) (by simp [NoSign])
  rw [List.append_nil] at this
  rw [this]
  match n, hn with
  | n + 1, _ => exact pLoop_stop (by simp [NoSign])
/-- two trees with one text have the same marks -/
theorem post_of_text {T U : Tm} (hT : T.good = true) (hU : U.good = true) (h : T.text = U.text) : T.post = U.post := by
  have h1 := pOr_text hT (Nat.lt_succ_self _)
  have h2 := pOr_text hU (Nat.lt_succ_self _)
  rw [h] at h1
  rw [h1] at h2
  simpa using h2
end Go.Proofs.YtlfjecaffmfgcabDoor
