/- Terms of marks as plain data: which rows of marks are terms, the trees that they stand for, their texts. No program is named here. No condition. -/
import Derived.Test.YtlbblfbiiceofaaRuleMath
namespace Go.Proofs.Ytlbblfbiiceofaa

structure Mk where
  kind : Int
  its : Ru
def Ru.void : Ru := ⟨0, ⟨#[]⟩, ⟨#[]⟩, 0⟩
instance : Inhabited Mk := ⟨⟨0, Ru.void⟩⟩
def Ru.isVoid (r : Ru) : Bool := decide (r.kind = 0) && noThen r.letter && noThen r.thn && decide (r.many = 0)
theorem Ru.isVoid_iff {r : Ru} : r.isVoid = true ↔ r = Ru.void := by
  obtain ⟨a, b, c, d⟩ := r
  simp [Ru.isVoid, Ru.void, noThen, and_assoc]

/-- how many parts a mark makes one of -/
def Mk.under (m : Mk) : Nat := if m.kind = 0 then 0 else if m.kind = 3 then 1 else 2
def Mk.fine (m : Mk) : Bool := if m.kind = 0 then m.its.ok else if m.kind = 1 ∨ m.kind = 2 ∨ m.kind = 3 then m.its.isVoid else false
def stepP (m : Mk) (p : Nat) : Option Nat := if m.fine = true ∧ m.under ≤ p then some (p + 1 - m.under) else none
/-- how many parts are left behind the marks -/
def leftOf : List Mk → Nat → Option Nat
  | [], p => some p
  | m :: ms, p => (stepP m p).bind (leftOf ms)
def termOk (ts : List Mk) : Bool := decide (ts.length ≤ 9) && decide (leftOf ts 0 = some 1)

theorem leftOf_append (a b : List Mk) : ∀ p, leftOf (a ++ b) p = (leftOf a p).bind (leftOf b) := by
  induction a with
  | nil => intro p; rfl
  | cons m a ih =>
    intro p
    simp only [List.cons_append, leftOf]
    cases stepP m p with
    | none => rfl
    | some q => simp [ih]
theorem take_succ' {α : Type} {l : List α} {k : Nat} (h : k < l.length) : l.take (k + 1) = l.take k ++ [l[k]] := by
  rw [List.take_add_one]; simp [h]
theorem leftOf_succ {ts : List Mk} {k p : Nat} (hk : k < ts.length) (h : leftOf (ts.take k) 0 = some p) : leftOf (ts.take (k + 1)) 0 = stepP ts[k] p := by
  rw [take_succ' hk, leftOf_append, h]
  simp only [Option.bind_some, leftOf]
  cases stepP ts[k] p <;> rfl
theorem leftOf_stop {ts : List Mk} {k : Nat} (h : leftOf (ts.take k) 0 = none) : leftOf ts 0 = none := by
  rw [← List.take_append_drop k ts, leftOf_append, h]; rfl
theorem termOk_stop {ts : List Mk} {k : Nat} (h : leftOf (ts.take k) 0 = none) : termOk ts = false := by
  simp [termOk, leftOf_stop h]
theorem leftOf_le (ts : List Mk) : ∀ p q, leftOf ts p = some q → q ≤ p + ts.length := by
  induction ts with
  | nil => intro p q h; simp only [leftOf, Option.some.injEq] at h; subst h; simp
  | cons m ts ih =>
    intro p q h
    simp only [leftOf, Option.bind_eq_some_iff] at h
    obtain ⟨r, hr, h⟩ := h
    have := ih _ _ h
    unfold stepP at hr
    split at hr
    · simp only [Option.some.injEq] at hr
      subst hr
      simp only [List.length_cons]
      omega
    · simp at hr

inductive Tm where
  | rule (r : Ru)
  | not (a : Tm)
  | two (or : Bool) (a b : Tm)
def markOf (k : Int) : Mk := ⟨k, Ru.void⟩
def Tm.post : Tm → List Mk
  | .rule r => [⟨0, r⟩]
  | .not a => a.post ++ [markOf 3]
  | .two o a b => a.post ++ b.post ++ [markOf (if o = true then 2 else 1)]
def Tm.good : Tm → Bool
  | .rule r => r.ok
  | .not a => a.good
  | .two _ a b => a.good && b.good
/-- the kind of the last mark -/
def Tm.last : Tm → Int
  | .rule _ => 0
  | .not _ => 3
  | .two o _ _ => if o = true then 2 else 1
def ruleSign (k : Int) : UInt8 := if k = 0 then 42 else if k = 1 then 94 else if k = 2 then 47 else if k = 3 then 60 else 62
def Ru.text (r : Ru) : List UInt8 := r.letter.data.toList ++ [ruleSign r.kind] ++ (if r.kind = 2 then r.thn.data.toList else [UInt8.ofNat (48 + r.many.toNat)])
def inBr (b : Bool) (s : List UInt8) : List UInt8 := if b = true then [40] ++ s ++ [41] else s
def Tm.text : Tm → List UInt8
  | .rule r => r.text
  | .not a => [33] ++ inBr (decide (a.last = 2) || decide (a.last = 1)) a.text
  | .two true a b => a.text ++ [124] ++ inBr (decide (b.last = 2)) b.text
  | .two false a b => inBr (decide (a.last = 2)) a.text ++ [38] ++ inBr (decide (b.last = 2) || decide (b.last = 1)) b.text

theorem Tm.post_pos (T : Tm) : 1 ≤ T.post.length := by
  cases T <;> simp [Tm.post]
  omega
theorem Tm.post_ne (T : Tm) : T.post ≠ [] := fun h => by have := T.post_pos; rw [h] at this; exact absurd this (by decide)
theorem Tm.post_last (T : Tm) : ∃ m, T.post.getLast? = some m ∧ m.kind = T.last := by
  cases T with
  | rule r => exact ⟨_, rfl, rfl⟩
  | not a => exact ⟨markOf 3, by simp [Tm.post], rfl⟩
  | two o a b => exact ⟨markOf (if o = true then 2 else 1), by simp [Tm.post], rfl⟩
theorem markOf_fine {k : Int} (h : k = 1 ∨ k = 2 ∨ k = 3) : (markOf k).fine = true := by
  have : Ru.void.isVoid = true := Ru.isVoid_iff.2 rfl
  rcases h with rfl | rfl | rfl <;> simp [Mk.fine, markOf, this]
/-- a tree's marks make one part more -/
theorem Tm.leftOf_post (T : Tm) (hg : T.good = true) : ∀ p, leftOf T.post p = some (p + 1) := by
  induction T with
  | rule r => intro p; have : r.ok = true := hg; simp [Tm.post, leftOf, stepP, Mk.fine, Mk.under, this]
  | not a ih =>
    intro p
    have hf : (markOf 3).fine = true := markOf_fine (.inr (.inr rfl))
    have hu : (markOf 3).under = 1 := by simp [Mk.under, markOf]
    simp only [Tm.post, leftOf_append, ih hg p, Option.bind_some, leftOf, stepP, hf, hu]
    simp
  | two o a b iha ihb =>
    intro p
    simp only [Tm.good, Bool.and_eq_true] at hg
    have hf : (markOf (if o = true then 2 else 1)).fine = true := markOf_fine (by cases o <;> simp)
    have hu : (markOf (if o = true then 2 else 1)).under = 2 := by cases o <;> simp [Mk.under, markOf]
    simp only [Tm.post, leftOf_append, iha hg.1 p, ihb hg.2, Option.bind_some, leftOf, stepP, hf, hu]
    simp
/-- the marks of a stack of trees, the last one first -/
def posts : List Tm → List Mk
  | [] => []
  | T :: st => posts st ++ T.post
theorem mk_eta (m : Mk) : m = ⟨m.kind, m.its⟩ := rfl
/-- whatever marks can be put together are those of so many trees -/
theorem trees_of (ts : List Mk) : ∀ p, leftOf ts 0 = some p → ∃ st : List Tm, st.length = p ∧ (∀ T ∈ st, T.good = true) ∧ posts st = ts := by
  generalize hn : ts.length = n
  induction n generalizing ts with
  | zero =>
    intro p h
    obtain rfl := List.eq_nil_of_length_eq_zero hn
    simp only [leftOf, Option.some.injEq] at h
    exact ⟨[], by simpa using h, by simp, rfl⟩
  | succ n ih =>
    intro p h
    have hk : n < ts.length := by omega
    have hts : ts = ts.take n ++ [ts[n]] := by
      rw [← take_succ' hk, List.take_of_length_le (by omega)]
    rw [hts, leftOf_append, Option.bind_eq_some_iff] at h
    obtain ⟨q, hq, h⟩ := h
    obtain ⟨st, hl, hgood, hp⟩ := ih (ts.take n) (by simp; omega) q hq
    generalize ts[n] = m at *
    have h' : stepP m q = some p := by
      simp only [leftOf] at h
      cases hs : stepP m q with
      | none => rw [hs] at h; cases h
      | some r => rw [hs] at h; exact h
    unfold stepP at h'
    split at h'
    · rename_i hm
      obtain ⟨hf, hu⟩ := hm
      simp only [Option.some.injEq] at h'
      obtain ⟨mk, mi⟩ := m
      by_cases h0 : mk = 0
      · subst h0
        have hu0 : (⟨0, mi⟩ : Mk).under = 0 := by simp [Mk.under]
        have hok : mi.ok = true := by simpa [Mk.fine] using hf
        refine ⟨.rule mi :: st, by simp; omega, ?_, ?_⟩
        · intro T hT
          rcases List.mem_cons.1 hT with rfl | hT
          · exact hok
          · exact hgood T hT
        · rw [posts, hp, Tm.post]; exact hts.symm
      · have hkind : mk = 1 ∨ mk = 2 ∨ mk = 3 := by
          by_cases hk : mk = 1 ∨ mk = 2 ∨ mk = 3
          · exact hk
          · simp [Mk.fine, h0, hk] at hf
        have hvoid : mi = Ru.void := by
          have : mi.isVoid = true := by simpa [Mk.fine, h0, hkind] using hf
          exact Ru.isVoid_iff.1 this
        subst hvoid
        by_cases h3 : mk = 3
        · subst h3
          have hu1 : (⟨3, Ru.void⟩ : Mk).under = 1 := by simp [Mk.under]
          rw [hu1] at hu h'
          match st, hl, hgood, hp with
          | [], hl, _, _ => simp at hl; omega
          | T :: st, hl, hgood, hp =>
            refine ⟨.not T :: st, by simp at hl ⊢; omega, ?_, ?_⟩
            · intro U hU
              rcases List.mem_cons.1 hU with rfl | hU
              · exact hgood T (by simp)
              · exact hgood U (by simp [hU])
            · rw [hts, ← hp]
              simp [posts, Tm.post, markOf]
        · have h12 : mk = 1 ∨ mk = 2 := by omega
          have hu2 : (⟨mk, Ru.void⟩ : Mk).under = 2 := by simp [Mk.under, h0, h3]
          rw [hu2] at hu h'
          match st, hl, hgood, hp with
          | [], hl, _, _ => simp at hl; omega
          | [T], hl, _, _ => simp at hl; omega
          | U :: T :: st, hl, hgood, hp =>
            refine ⟨.two (decide (mk = 2)) T U :: st, by simp at hl ⊢; omega, ?_, ?_⟩
            · intro V hV
              rcases List.mem_cons.1 hV with rfl | hV
              · simp [Tm.good, hgood T (by simp), hgood U (by simp)]
              · exact hgood V (by simp [hV])
            · rw [hts, ← hp]
              rcases h12 with rfl | rfl <;> simp [posts, Tm.post, markOf]
    · simp at h'
/-- a term is the marks of one tree -/
theorem tree_of {ts : List Mk} (h : termOk ts = true) : ∃ T : Tm, T.good = true ∧ T.post = ts ∧ ts.length ≤ 9 := by
  simp only [termOk, Bool.and_eq_true, decide_eq_true_eq] at h
  obtain ⟨st, hl, hg, hp⟩ := trees_of ts 1 h.2
  match st, hl, hg, hp with
  | [T], _, hg, hp => exact ⟨T, hg T (by simp), by simpa [posts] using hp, h.1⟩
theorem Tm.termOk_post {T : Tm} (hg : T.good = true) (hl : T.post.length ≤ 9) : termOk T.post = true := by
  simp [termOk, hl, T.leftOf_post hg 0]
end Go.Proofs.Ytlbblfbiiceofaa
