/- What terms mean, by their trees; how marks are read with a stack, and backwards. No program is named here. No condition. -/
import Derived.Test.YtlbblfbiiceofaaTermMath
namespace Go.Proofs.Ytlbblfbiiceofaa

/-- the marks of trees, one behind the other -/
def postL (ts : List Tm) : List Mk := ts.flatMap Tm.post
theorem postL_append (a b : List Tm) : postL (a ++ b) = postL a ++ postL b := by simp [postL]
theorem postL_one (T : Tm) : postL [T] = T.post := by simp [postL]
theorem postL_nil : postL [] = [] := rfl
theorem postL_good {ts : List Tm} (h : ∀ T ∈ ts, T.good = true) (p : Nat) : leftOf (postL ts) p = some (p + ts.length) := by
  induction ts generalizing p with
  | nil => rfl
  | cons T ts ih =>
    have e : postL (T :: ts) = T.post ++ postL ts := by simp [postL]
    rw [e, leftOf_append, T.leftOf_post (h T (by simp)), Option.bind_some, ih (fun U hU => h U (by simp [hU]))]
    simp; omega
/-- what a word keeps -/
def Tm.keeps (s : ByteArray) : Tm → Bool
  | .rule r => r.keeps s
  | .not a => !a.keeps s
  | .two true a b => a.keeps s || b.keeps s
  | .two false a b => a.keeps s && b.keeps s
theorem Tm.post_inj {T U : Tm} (hT : T.good = true) (hU : U.good = true) (h : T.post = U.post) : T = U := by
  have key : ∀ (T : Tm), ∀ (ts us : List Tm), (∀ x ∈ ts, x.good = true) → (∀ x ∈ us, x.good = true) → T.good = true → ∀ U : Tm, U.good = true → postL ts ++ T.post = postL us ++ U.post → T = U ∧ postL ts = postL us := by
    intro T
    induction T with
    | rule r =>
      intro ts us hts hus hT U hU h
      cases U with
      | rule q =>
        simp only [Tm.post] at h
        have := List.append_inj' h rfl
        have h2 : (⟨0, r⟩ : Mk) = ⟨0, q⟩ := by simpa using this.2
        have h3 : r = q := by injection h2
        exact ⟨by rw [h3], this.1⟩
      | not b =>
        simp only [Tm.post] at h
        rw [← List.append_assoc] at h
        have := (List.append_inj' h rfl).2
        have h2 : (⟨0, r⟩ : Mk) = markOf 3 := by simpa using this
        have h3 : (0 : Int) = 3 := by injection h2
        omega
      | two o b c =>
        simp only [Tm.post] at h
        rw [← List.append_assoc] at h
        have := (List.append_inj' h rfl).2
        have h2 : (⟨0, r⟩ : Mk) = markOf (if o = true then 2 else 1) := by simpa using this
        have h3 : (0 : Int) = (if o = true then 2 else 1) := by injection h2
        split at h3 <;> omega
    | not a ih =>
      intro ts us hts hus hT U hU h
      cases U with
      | rule q =>
        simp only [Tm.post] at h
        rw [← List.append_assoc] at h
        have := (List.append_inj' h rfl).2
        have h2 : markOf 3 = (⟨0, q⟩ : Mk) := by simpa using this
        have h3 : (3 : Int) = 0 := by injection h2
        omega
      | not b =>
        simp only [Tm.post] at h
        rw [← List.append_assoc (postL ts), ← List.append_assoc (postL us)] at h
        have := (List.append_inj' h rfl).1
        obtain ⟨h1, h2⟩ := ih ts us hts hus hT b hU this
        exact ⟨by rw [h1], h2⟩
      | two o b c =>
        simp only [Tm.post] at h
        rw [← List.append_assoc (postL ts), ← List.append_assoc (postL us)] at h
        have := (List.append_inj' h rfl).2
        have h2 : markOf 3 = markOf (if o = true then 2 else 1) := by simpa using this
        have h3 : (3 : Int) = (if o = true then 2 else 1) := by injection h2
        split at h3 <;> omega
    | two o a b iha ihb =>
      intro ts us hts hus hT U hU h
      simp only [Tm.good, Bool.and_eq_true] at hT
      cases U with
      | rule q =>
        simp only [Tm.post] at h
        rw [← List.append_assoc] at h
        have := (List.append_inj' h rfl).2
        have h2 : markOf (if o = true then 2 else 1) = (⟨0, q⟩ : Mk) := by simpa using this
        have h3 : (if o = true then 2 else 1) = (0 : Int) := by injection h2
        split at h3 <;> omega
      | not c =>
        simp only [Tm.post] at h
        rw [← List.append_assoc (postL ts), ← List.append_assoc (postL us)] at h
        have := (List.append_inj' h rfl).2
        have h2 : markOf (if o = true then 2 else 1) = markOf 3 := by simpa using this
        have h3 : (if o = true then 2 else 1) = (3 : Int) := by injection h2
        split at h3 <;> omega
      | two o' c d =>
        simp only [Tm.good, Bool.and_eq_true] at hU
        simp only [Tm.post] at h
        rw [← List.append_assoc (postL ts), ← List.append_assoc (postL us)] at h
        have hl := List.append_inj' h rfl
        have ho : o = o' := by
          have h2 : markOf (if o = true then 2 else 1) = markOf (if o' = true then 2 else 1) := by simpa using hl.2
          have h3 : (if o = true then (2 : Int) else 1) = (if o' = true then 2 else 1) := by injection h2
          cases o <;> cases o' <;> simp at h3 ⊢
        subst ho
        have h1 := hl.1
        rw [← List.append_assoc (postL ts), ← List.append_assoc (postL us), ← postL_one a, ← postL_one c, ← postL_append, ← postL_append] at h1
        obtain ⟨hb, hr⟩ := ihb (ts ++ [a]) (us ++ [c]) (fun x hx => by
          rcases List.mem_append.1 hx with hx | hx
          · exact hts x hx
          · rw [List.mem_singleton.1 hx]; exact hT.1) (fun x hx => by
          rcases List.mem_append.1 hx with hx | hx
          · exact hus x hx
          · rw [List.mem_singleton.1 hx]; exact hU.1) hT.2 d hU.2 h1
        rw [postL_append, postL_append, postL_one, postL_one] at hr
        obtain ⟨ha, hr2⟩ := iha ts us hts hus hT.1 c hU.1 hr
        exact ⟨by rw [ha, hb], hr2⟩
  exact (key T [] [] (by simp) (by simp) hT U hU (by simpa [postL] using h)).1

theorem Tm.eq_of_post {T U : Tm} (hT : T.good = true) (hU : U.good = true) (h : T.post = U.post) (s : ByteArray) : T.keeps s = U.keeps s := by rw [Tm.post_inj hT hU h]

/-- one mark more: the trees that it puts together -/
inductive Puts : Mk → List Tm → Tm → Prop
  | rule (r : Ru) : Puts ⟨0, r⟩ [] (.rule r)
  | not (a : Tm) : Puts (markOf 3) [a] (.not a)
  | two (o : Bool) (a b : Tm) : Puts (markOf (if o = true then 2 else 1)) [a, b] (.two o a b)
theorem Puts.len {m : Mk} {subs : List Tm} {T : Tm} (h : Puts m subs T) : subs.length = m.under := by
  cases h with
  | rule r => simp [Mk.under]
  | not a => simp [Mk.under, markOf]
  | two o a b => cases o <;> simp [Mk.under, markOf]
theorem step_trees {ms : List Mk} (hok : termOk ms = true) {k : Nat} (hk : k < ms.length) {sts : List Tm} (hg : ∀ T ∈ sts, T.good = true) (hp : postL sts = ms.take k) :
    ∃ pre subs T, sts = pre ++ subs ∧ Puts ms[k] subs T ∧ (∀ x ∈ pre ++ [T], x.good = true) ∧ postL (pre ++ [T]) = ms.take (k + 1) := by
  have hl : leftOf (ms.take k) 0 = some sts.length := by rw [← hp, postL_good hg, Nat.zero_add]
  have hs := leftOf_succ hk hl
  have hne : leftOf (ms.take (k + 1)) 0 ≠ none := fun h => by rw [termOk_stop h] at hok; cases hok
  rw [hs, stepP] at hne
  have hfu : ms[k].fine = true ∧ ms[k].under ≤ sts.length := by
    by_cases h : ms[k].fine = true ∧ ms[k].under ≤ sts.length
    · exact h
    · rw [if_neg h] at hne; exact absurd rfl hne
  rw [take_succ' hk, ← hp]
  generalize ms[k] = m at *
  obtain ⟨hf, hu⟩ := hfu
  obtain ⟨kd, its⟩ := m
  by_cases h0 : kd = 0
  · subst h0
    have hr : its.ok = true := by simpa [Mk.fine] using hf
    refine ⟨sts, [], .rule its, by simp, .rule its, ?_, by rw [postL_append, postL_one]; rfl⟩
    simp only [List.mem_append, List.mem_singleton]
    rintro x (hx | rfl)
    · exact hg x hx
    · exact hr
  · have hkind : kd = 1 ∨ kd = 2 ∨ kd = 3 := by
      by_cases h : kd = 1 ∨ kd = 2 ∨ kd = 3
      · exact h
      · simp [Mk.fine, h0, h] at hf
    have hv : its = Ru.void := by
      have : its.isVoid = true := by simpa [Mk.fine, h0, hkind] using hf
      exact Ru.isVoid_iff.1 this
    subst hv
    by_cases h3 : kd = 3
    · subst h3
      have hu1 : (⟨3, Ru.void⟩ : Mk).under = 1 := by simp [Mk.under]
      rw [hu1] at hu
      rcases List.eq_nil_or_concat sts with rfl | ⟨pre, a, rfl⟩
      · simp at hu
      · rw [List.concat_eq_append] at *
        refine ⟨pre, [a], .not a, rfl, .not a, ?_, by rw [postL_append, postL_append, postL_one, postL_one, List.append_assoc]; rfl⟩
        simp only [List.mem_append, List.mem_singleton] at hg ⊢
        rintro x (hx | rfl)
        · exact hg x (.inl hx)
        · exact hg a (.inr rfl)
    · have h12 : kd = 1 ∨ kd = 2 := by omega
      have hu2 : (⟨kd, Ru.void⟩ : Mk).under = 2 := by simp [Mk.under, h0, h3]
      rw [hu2] at hu
      rcases List.eq_nil_or_concat sts with rfl | ⟨q, b, rfl⟩
      · simp at hu
      · rw [List.concat_eq_append] at *
        rcases List.eq_nil_or_concat q with rfl | ⟨pre, a, rfl⟩
        · simp at hu
        · rw [List.concat_eq_append] at *
          have hkd : (⟨kd, Ru.void⟩ : Mk) = markOf (if decide (kd = 2) = true then 2 else 1) := by
            rcases h12 with rfl | rfl <;> simp [markOf]
          refine ⟨pre, [a, b], .two (decide (kd = 2)) a b, by simp, by rw [hkd]; exact .two _ a b, ?_, ?_⟩
          · simp only [List.mem_append, List.mem_singleton] at hg ⊢
            rintro x (hx | rfl)
            · exact hg x (.inl (.inl hx))
            · simp [Tm.good, hg a (.inl (.inr rfl)), hg b (.inr rfl)]
          · rw [hkd, postL_append, postL_append, postL_append, postL_one, postL_one, postL_one]
            simp [Tm.post]
theorem last_tree {ms : List Mk} (hok : termOk ms = true) {sts : List Tm} (hg : ∀ T ∈ sts, T.good = true) (hp : postL sts = ms) : ∃ T, sts = [T] := by
  have h1 : leftOf ms 0 = some 1 := by
    simp only [termOk, Bool.and_eq_true, decide_eq_true_eq] at hok
    exact hok.2
  rw [← hp, postL_good hg, Nat.zero_add, Option.some.injEq] at h1
  match sts, h1 with
  | [T], _ => exact ⟨T, rfl⟩
/-- KeepsTerm -/
def IsKept (ms : List Mk) (s : ByteArray) (b : Bool) : Prop := (termOk ms = true ∧ wordOk s = true ∧ ∃ T : Tm, T.good = true ∧ T.post = ms ∧ b = T.keeps s) ∨ ((termOk ms = false ∨ wordOk s = false) ∧ b = false)
theorem IsKept.one {ms : List Mk} {s : ByteArray} {b c : Bool} (h : IsKept ms s b) (g : IsKept ms s c) : b = c := by
  rcases h with ⟨h1, h2, T, h3, h4, rfl⟩ | ⟨h1, rfl⟩ <;> rcases g with ⟨g1, g2, U, g3, g4, rfl⟩ | ⟨g1, rfl⟩
  · exact Tm.eq_of_post h3 g3 (h4.trans g4.symm) s
  · rcases g1 with g1 | g1 <;> simp_all
  · rcases h1 with h1 | h1 <;> simp_all
  · rfl
/-- the last mark of trees that are read backwards -/
theorem back_one (ts : List Tm) (T : Tm) : ∃ m, (postL (ts ++ [T])) = (postL (ts ++ [T])).dropLast ++ [m] ∧ ((m.kind = 0 ∧ (postL (ts ++ [T])).dropLast = postL ts) ∨ (m.kind = 3 ∧ ∃ a, (postL (ts ++ [T])).dropLast = postL (ts ++ [a])) ∨ ((m.kind = 1 ∨ m.kind = 2) ∧ ∃ a b, (postL (ts ++ [T])).dropLast = postL (ts ++ [a, b]))) := by
  cases T with
  | rule r =>
    refine ⟨⟨0, r⟩, ?_, .inl ⟨rfl, ?_⟩⟩ <;> rw [postL_append, postL_one] <;> simp [Tm.post]
  | not a =>
    refine ⟨markOf 3, ?_, .inr (.inl ⟨rfl, a, ?_⟩)⟩
    · rw [postL_append, postL_one]; simp [Tm.post, ← List.append_assoc]
    · rw [postL_append, postL_one, postL_append, postL_one]; simp [Tm.post, ← List.append_assoc]
  | two o a b =>
    refine ⟨markOf (if o = true then 2 else 1), ?_, .inr (.inr ⟨by cases o <;> simp [markOf], a, b, ?_⟩)⟩
    · rw [postL_append, postL_one]; simp [Tm.post, ← List.append_assoc]
    · rw [postL_append, postL_one, postL_append]; simp [Tm.post, postL, ← List.append_assoc]
end Go.Proofs.Ytlbblfbiiceofaa
