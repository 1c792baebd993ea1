/- What the model's ReadRule makes of three bytes, and when the text of that is the text. No program is named here. No condition. -/
import Derived.Test.YtlfjecaffmfgcabDoorTermRead
namespace Go.Proofs.YtlfjecaffmfgcabDoor

/-- the text of a rule, or none -/
def rText (r : Ru) : ByteArray := if r.ok = true then ⟨r.text.toArray⟩ else ⟨#[]⟩
theorem rText_no {r : Ru} (h : r.ok = false) : rText r = ⟨#[]⟩ := by simp [rText, h]
/-- one digit -/
def dg (c : UInt8) : Int := if 48 ≤ c.toNat ∧ c.toNat ≤ 57 then (c.toNat : Int) - 48 else -1
def spKind (b : UInt8) : Int := if b = 94 then 1 else if b = 47 then 2 else if b = 60 then 3 else if b = 62 then 4 else 0
def spRule (a b c : UInt8) : Ru := ⟨spKind b, ⟨#[a]⟩, if b = 47 then ⟨#[c]⟩ else ⟨#[]⟩, if b = 47 then 0 else dg c⟩
theorem sign_cases {a b c : UInt8} (h : (ruleOf a b c).ok = true) : b = 42 ∨ b = 94 ∨ b = 47 ∨ b = 60 ∨ b = 62 := by
  have hr := (Ru.ok_iff.1 h).2
  by_cases h0 : b = 42
  · exact .inl h0
  by_cases h1 : b = 94
  · exact .inr (.inl h1)
  by_cases h2 : b = 47
  · exact .inr (.inr (.inl h2))
  by_cases h3 : b = 60
  · exact .inr (.inr (.inr (.inl h3)))
  by_cases h4 : b = 62
  · exact .inr (.inr (.inr (.inr h4)))
  exfalso
  have hk : (ruleOf a b c).kind = -1 := by simp [ruleOf, signKind, h0, h1, h2, h3, h4]
  rw [hk] at hr
  rcases hr with h | h | h | h | h <;> exact absurd h.1 (by decide)
theorem digit_bd {a b c : UInt8} (h : (ruleOf a b c).ok = true) (hb : b ≠ 47) : 48 ≤ c.toNat ∧ c.toNat ≤ 53 := by
  have hr := (Ru.ok_iff.1 h).2
  have hm : (ruleOf a b c).many = (c.toNat : Int) - 48 := by simp [ruleOf, hb]
  have hk : (ruleOf a b c).kind ≠ 2 := by
    show signKind b ≠ 2
    unfold signKind
    rw [if_neg hb]
    repeat' split
    all_goals decide
  rw [hm] at hr
  rcases hr with h | h | h | h | h
  · omega
  · omega
  · exact absurd h.1 hk
  · omega
  · omega
theorem dg_eq {c : UInt8} (h : 48 ≤ c.toNat ∧ c.toNat ≤ 53) : dg c = (c.toNat : Int) - 48 := by
  unfold dg; rw [if_pos ⟨h.1, by omega⟩]
theorem spRule_eq {a b c : UInt8} (h : (ruleOf a b c).ok = true) : spRule a b c = ruleOf a b c := by
  by_cases hb : b = 47
  · subst hb
    simp [spRule, ruleOf, spKind, signKind]
  · have hd := dg_eq (digit_bd h hb)
    have hk : spKind b = signKind b := by
      rcases sign_cases h with rfl | rfl | rfl | rfl | rfl <;> rfl
    simp only [spRule, ruleOf, if_neg hb, hd, hk]
theorem ruleOf_text {a b c : UInt8} (h : (ruleOf a b c).ok = true) : (ruleOf a b c).text = [a, b, c] := by
  by_cases hb : b = 47
  · subst hb
    simp [Ru.text, ruleOf, signKind, ruleSign]
  · obtain ⟨d1, d2⟩ := digit_bd h hb
    have hc : UInt8.ofNat (48 + ((c.toNat : Int) - 48).toNat) = c := by
      have e : 48 + ((c.toNat : Int) - 48).toNat = c.toNat := by omega
      rw [e]; simp
    rcases sign_cases h with rfl | rfl | rfl | rfl | rfl
    · simp [Ru.text, ruleOf, signKind, ruleSign, hc]
    · simp [Ru.text, ruleOf, signKind, ruleSign, hc]
    · exact absurd rfl hb
    · simp [Ru.text, ruleOf, signKind, ruleSign, hc]
    · simp [Ru.text, ruleOf, signKind, ruleSign, hc]
theorem spText_yes {a b c : UInt8} (h : (ruleOf a b c).ok = true) : rText (spRule a b c) = ⟨#[a, b, c]⟩ := by
  rw [spRule_eq h, rText, if_pos h, ruleOf_text h]
theorem spText_no {a b c : UInt8} (h : (ruleOf a b c).ok = false) : rText (spRule a b c) ≠ ⟨#[a, b, c]⟩ := by
  intro e
  unfold rText at e
  split at e
  · rename_i hk
    obtain ⟨a', b', c', ht, -, hr⟩ := Ru.text_cases hk
    rw [ht] at e
    have e2 : [a', b', c'] = [a, b, c] := congrArg (fun t : ByteArray => t.data.toList) e
    simp only [List.cons.injEq, and_true] at e2
    obtain ⟨rfl, rfl, rfl⟩ := e2
    rw [← hr, h] at hk
    cases hk
  · exact absurd (congrArg ByteArray.size e) (by show ¬ (0 = 3); decide)
end Go.Proofs.YtlfjecaffmfgcabDoor
