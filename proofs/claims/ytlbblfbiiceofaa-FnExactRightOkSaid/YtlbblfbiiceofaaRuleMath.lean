/- Rules as plain data: which are rules, what they ask of a word, how their machines go on. No program is named here. No condition. -/
import Derived.Test.YtlbblfbiiceofaaMathR
import Derived.Test.YtlbblfbiiceofaaBfs
namespace Go.Proofs.Ytlbblfbiiceofaa

structure Ru where
  kind : Int
  letter : ByteArray
  thn : ByteArray
  many : Int
def inB (lo hi n : Int) : Bool := decide (lo ≤ n) && decide (n ≤ hi)
def noThen (t : ByteArray) : Bool := decide (t = ⟨#[]⟩)
/-- RuleOk -/
def Ru.ok (r : Ru) : Bool := letterOk r.letter && (
  if r.kind = 0 then noThen r.thn && inB 0 4 r.many else
  if r.kind = 1 then noThen r.thn && inB 2 4 r.many else
  if r.kind = 2 then letterOk r.thn && decide (r.many = 0) else
  if r.kind = 3 then noThen r.thn && inB 0 5 r.many else
  if r.kind = 4 then noThen r.thn && inB 1 5 r.many else false)

theorem letterOk_cases {t : ByteArray} (h : letterOk t = true) : t = ⟨#[114]⟩ ∨ t = ⟨#[100]⟩ ∨ t = ⟨#[110]⟩ := by
  have hs : t.size = 1 := by simp [letterOk] at h; exact h.1
  rw [letterOk_one t hs (by omega)] at h
  have e : t.data.toList = [t[0]] := by
    apply List.ext_getElem
    · simpa using hs
    · intro i h1 h2
      have : i = 0 := by simp at h2; exact h2
      subst this; rfl
  simp only [isL, Bool.or_eq_true, beq_iff_eq] at h
  rcases h with (h | h) | h
  · exact .inl (bytes_ext (by rw [e, h]))
  · exact .inr (.inl (bytes_ext (by rw [e, h])))
  · exact .inr (.inr (bytes_ext (by rw [e, h])))
theorem Ru.ok_letter {r : Ru} (h : r.ok = true) : letterOk r.letter = true := by
  simp only [Ru.ok, Bool.and_eq_true] at h; exact h.1
theorem inB_iff {lo hi n : Int} : inB lo hi n = true ↔ lo ≤ n ∧ n ≤ hi := by simp [inB]
/-- which rules there are -/
theorem Ru.ok_iff {r : Ru} : r.ok = true ↔ letterOk r.letter = true ∧
    ((r.kind = 0 ∧ r.thn = ⟨#[]⟩ ∧ 0 ≤ r.many ∧ r.many ≤ 4) ∨ (r.kind = 1 ∧ r.thn = ⟨#[]⟩ ∧ 2 ≤ r.many ∧ r.many ≤ 4) ∨ (r.kind = 2 ∧ letterOk r.thn = true ∧ r.many = 0) ∨
      (r.kind = 3 ∧ r.thn = ⟨#[]⟩ ∧ 0 ≤ r.many ∧ r.many ≤ 5) ∨ (r.kind = 4 ∧ r.thn = ⟨#[]⟩ ∧ 1 ≤ r.many ∧ r.many ≤ 5)) := by
  unfold Ru.ok
  rw [Bool.and_eq_true]
  refine and_congr Iff.rfl ?_
  by_cases h0 : r.kind = 0
  · simp [h0, noThen, inB_iff]
  by_cases h1 : r.kind = 1
  · simp [h1, noThen, inB_iff]
  by_cases h2 : r.kind = 2
  · simp [h2]
  by_cases h3 : r.kind = 3
  · simp [h3, noThen, inB_iff]
  by_cases h4 : r.kind = 4
  · simp [h4, noThen, inB_iff]
  simp [h0, h1, h2, h3, h4]

/-- a letter right behind another one, among the first k pairs -/
def pairTo (l : List UInt8) (c d : UInt8) (k : Nat) : Bool := (List.range k).any fun i => l.getD i 0 == c && l.getD (i + 1) 0 == d
theorem pairTo_succ (l : List UInt8) (c d : UInt8) (k : Nat) : pairTo l c d (k + 1) = (pairTo l c d k || (l.getD k 0 == c && l.getD (k + 1) 0 == d)) := by
  simp [pairTo, List.range_succ]
theorem pairTo_hit {l : List UInt8} {c d : UInt8} {k n : Nat} (hk : k < n) (h : (l.getD k 0 == c && l.getD (k + 1) 0 == d) = true) : pairTo l c d n = true :=
  List.any_eq_true.2 ⟨k, List.mem_range.2 hk, h⟩
/-- each run of a letter is long enough, among the runs of a list -/
def longAll (xs : List (UInt8 × Nat)) (c : UInt8) (n : Int) : Bool := xs.all fun p => !(p.1 == c) || decide (n ≤ (p.2 : Int))
theorem longAll_snoc (xs : List (UInt8 × Nat)) (p : UInt8 × Nat) (c : UInt8) (n : Int) : longAll (xs ++ [p]) c n = (longAll xs c n && (!(p.1 == c) || decide (n ≤ (p.2 : Int)))) := by
  simp [longAll, List.all_append]
/-- KeepsRule of a rule and a word -/
def Ru.holds (r : Ru) (s : ByteArray) : Bool :=
  if r.kind = 0 then decide ((longestIn (runsL s.data.toList) (byteAt r.letter 0) : Int) ≤ r.many) else
  if r.kind = 1 then longAll (runsL s.data.toList) (byteAt r.letter 0) r.many else
  if r.kind = 2 then !pairTo s.data.toList (byteAt r.letter 0) (byteAt r.thn 0) (s.size - 1) else
  if r.kind = 3 then decide (cntEq s.data.toList (byteAt r.letter 0) s.size ≤ r.many) else
  decide (r.many ≤ cntEq s.data.toList (byteAt r.letter 0) s.size)
def Ru.keeps (r : Ru) (s : ByteArray) : Bool := r.ok && wordOk s && r.holds s

/-- how the machine of a rule goes on: 'its' tells that the letter is the rule's, 'th' that it is the other one -/
def nxR (kind many : Int) (its th : Bool) (s : Int) : Int :=
  if kind = 0 then (if its = true then (if s = many then -1 else s + 1) else 0) else
  if kind = 1 then (if its = true then min (s + 1) many else if 0 < s ∧ s < many then -1 else 0) else
  if kind = 2 then (if s = 1 ∧ th = true then -1 else if its = true then 1 else 0) else
  if its = true then (if kind = 3 ∧ s = many then -1 else min (s + 1) many) else s
def endR (kind many : Int) (s : Int) : Bool :=
  if kind = 1 then (decide (s = 0) || decide (s = many)) else if kind = 4 then decide (s = many) else true
/-- the byte of a letter's number -/
def byteOf (l : Nat) : UInt8 := if l = 0 then 114 else if l = 1 then 100 else 110
def Ru.nx (r : Ru) (s : Int) (l : Nat) : Int := nxR r.kind r.many (byteAt r.letter 0 == byteOf l) (byteAt r.thn 0 == byteOf l) s
def Ru.endAt (r : Ru) (s : Int) : Bool := endR r.kind r.many s
/-- how many states -/
def Ru.st (r : Ru) : Nat := if r.kind = 2 then 2 else r.many.toNat + 1
def Ru.on (r : Ru) (s : Int) (l : Nat) : Option Int := if r.nx s l = -1 then none else some (r.nx s l)
/-- the table -/
def tabTo (f : Int → Nat → Int) : Nat → List Int
  | 0 => []
  | k + 1 => tabTo f k ++ [f k 0, f k 1, f k 2]
def endsTo (f : Int → Bool) (n : Nat) : List Bool := (List.range n).map fun (k : Nat) => f (k : Int)
theorem tabTo_length (f : Int → Nat → Int) (k : Nat) : (tabTo f k).length = 3 * k := by
  induction k with
  | zero => rfl
  | succ k ih => simp only [tabTo, List.length_append, ih, List.length_cons, List.length_nil]; omega
theorem endsTo_length (f : Int → Bool) (n : Nat) : (endsTo f n).length = n := by simp [endsTo]
theorem endsTo_succ (f : Int → Bool) (n : Nat) : endsTo f (n + 1) = endsTo f n ++ [f n] := by simp [endsTo, List.range_succ]

/-- over all rules -/
def onN (kind many : Int) (li : UInt8) (ti : UInt8) (s : Int) (l : Nat) : Int := nxR kind many (li == byteOf l) (ti == byteOf l) s
def bfsN (kind many : Int) (li ti : UInt8) (n : Nat) : List Int × List Int := bfsTo (fun s l => if onN kind many li ti s l = -1 then none else some (onN kind many li ti s l)) (0 : Int) n
def fineN (kind many : Int) (li ti : UInt8) : Bool :=
  let n := if kind = 2 then 2 else many.toNat + 1
  decide ((bfsN kind many li ti n).1 = (List.range n).map (fun (k : Nat) => (k : Int))) && decide ((bfsN kind many li ti n).2 = tabTo (onN kind many li ti) n)
theorem fineN_0 : ∀ m : Nat, m < 5 → ∀ li ∈ [(114 : UInt8), 100, 110], fineN 0 (m : Int) li 0 = true := by decide +kernel
theorem fineN_1 : ∀ m : Nat, m < 5 → 2 ≤ m → ∀ li ∈ [(114 : UInt8), 100, 110], fineN 1 (m : Int) li 0 = true := by decide +kernel
theorem fineN_2 : ∀ li ∈ [(114 : UInt8), 100, 110], ∀ ti ∈ [(114 : UInt8), 100, 110], fineN 2 0 li ti = true := by decide +kernel
theorem fineN_3 : ∀ m : Nat, m < 6 → ∀ li ∈ [(114 : UInt8), 100, 110], fineN 3 (m : Int) li 0 = true := by decide +kernel
theorem fineN_4 : ∀ m : Nat, m < 6 → 1 ≤ m → ∀ li ∈ [(114 : UInt8), 100, 110], fineN 4 (m : Int) li 0 = true := by decide +kernel

theorem letter_byte {t : ByteArray} (h : letterOk t = true) : byteAt t 0 ∈ [(114 : UInt8), 100, 110] := by
  rcases letterOk_cases h with rfl | rfl | rfl <;> decide
/-- the machine of a rule, found by a search, is the table -/
theorem Ru.fine {r : Ru} (h : r.ok = true) : (bfsTo r.on 0 r.st).1 = (List.range r.st).map (fun (k : Nat) => (k : Int)) ∧ (bfsTo r.on 0 r.st).2 = tabTo r.nx r.st := by
  obtain ⟨kind, letter, thn, many⟩ := r
  have key : fineN kind many (byteAt letter 0) (byteAt thn 0) = true := by
    obtain ⟨hl, hr⟩ := Ru.ok_iff.1 h
    have hb := letter_byte hl
    simp only at hr hb
    rcases hr with ⟨rfl, rfl, h0, h1⟩ | ⟨rfl, rfl, h0, h1⟩ | ⟨rfl, ht, rfl⟩ | ⟨rfl, rfl, h0, h1⟩ | ⟨rfl, rfl, h0, h1⟩
    · obtain ⟨m, rfl⟩ := Int.eq_ofNat_of_zero_le h0
      exact fineN_0 m (by omega) _ hb
    · obtain ⟨m, rfl⟩ := Int.eq_ofNat_of_zero_le (show 0 ≤ many by omega)
      exact fineN_1 m (by omega) (by omega) _ hb
    · exact fineN_2 _ hb _ (letter_byte ht)
    · obtain ⟨m, rfl⟩ := Int.eq_ofNat_of_zero_le h0
      exact fineN_3 m (by omega) _ hb
    · obtain ⟨m, rfl⟩ := Int.eq_ofNat_of_zero_le (show 0 ≤ many by omega)
      exact fineN_4 m (by omega) (by omega) _ hb
  simp only [fineN, Bool.and_eq_true, decide_eq_true_eq] at key
  exact key
theorem Ru.st_bd {r : Ru} (h : r.ok = true) : 1 ≤ r.st ∧ r.st ≤ 6 := by
  obtain ⟨kind, letter, thn, many⟩ := r
  obtain ⟨hl, hr⟩ := Ru.ok_iff.1 h
  simp only at hr
  unfold Ru.st
  simp only
  split <;> omega
end Go.Proofs.Ytlbblfbiiceofaa
