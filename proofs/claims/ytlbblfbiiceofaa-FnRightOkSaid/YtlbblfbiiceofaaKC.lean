/- Plain mathematics of words: back, rolled, counted, differing. No program, no condition. Plain mathematics of runs. No program, no condition. Rules as plain data: which are rules, what they ask of a word, how their machines go on. No program is named here. No condition. The search for the shortest word that a machine takes, as plain data. No program is named here. No condition. How many words lead from a state to an end, and words by their places, as plain functions. No program, no condition. Tables of rows that a call owns. No program, no condition. spec.l6Many counts the words that lead from  -/
import Derived.Test.YtlbblfbiiceofaaMath
import Derived.Test.YtlbblfbiiceofaaBfs
import Derived.Test.YtlbblfbiiceofaaStep
import Derived.Test.YtlbblfbiiceofaaBack2
import Derived.Test.YtlbblfbiiceofaaKA
import Derived.Deep.AppendLies
import Derived.Deep.CutBlock
import Derived.RangeFuncNested
import Derived.RangeFuncBound
import Derived.RangeFuncCalls
import Derived.RangeFuncLeaves
import Derived.Shelf.Abstract
import Derived.Shelf.RegionOpen
import Derived.WalkKit
import Derived.OwnWalkIn
import Derived.TacticsInMore
import Derived.LoopNIn
import Derived.LoopIn
import Derived.Maps.AppendAt
import Derived.Sort.BigQuietIn
import Derived.Test.YtlbblfbiiceofaaWords
import Derived.Test.YtlbblfbiiceofaaFrame
import Derived.Test.YtlbblfbiiceofaaRolled
import Derived.Shelf.Strings.Search3
import Derived.Shelf.Vars
import Derived.Test.YtlbblfbiiceofaaProg
import Derived.Deep.RegionWith
import Derived.Laws.EntriesVeiled
import Derived.Test.YtlbblfbiiceofaaReads
import Derived.Outline
import Derived.RegionTactic

namespace Go.Proofs.Ytlbblfbiiceofaa

/-- how often a byte is in a list -/
theorem cntTo_shift (p : Nat → Bool) (k : Nat) : cntTo p (k + 1) = (if p 0 = true then 1 else 0) + cntTo (fun i => p (i + 1)) k := by
  induction k with
  | zero => simp [cntTo]
  | succ k ih => rw [cntTo, ih, cntTo]; omega
theorem cntEq_count (l : List UInt8) (c : UInt8) : cntEq l c l.length = (l.countP (· == c) : Int) := by
  induction l with
  | nil => rfl
  | cons a l ih =>
    simp only [cntEq, List.length_cons] at ih ⊢
    rw [cntTo_shift]
    have e : (fun i => (a :: l).getD (i + 1) 0 == c) = fun i => l.getD i 0 == c := by funext i; simp [List.getD]
    rw [e, ih, List.countP_cons]
    simp only [List.getD_cons_zero]
    split <;> omega
theorem countOf_list {s t : ByteArray} (h : wordOk s = true) (g : letterOk t = true) : countOf s t = (s.data.toList.countP (· == byteAt t 0) : Int) := by
  have e : countOf s t = cntEq s.data.toList (byteAt t 0) s.size := by simp [countOf, h, g]
  rw [e, ← len_data, cntEq_count]
theorem countOf_bd {s t : ByteArray} (h : wordOk s = true) (g : letterOk t = true) : 0 ≤ countOf s t ∧ countOf s t ≤ s.size := by
  rw [countOf_list h g]
  have := List.countP_le_length (l := s.data.toList) (p := (· == byteAt t 0))
  rw [len_data] at this
  omega

end Go.Proofs.Ytlbblfbiiceofaa

namespace Go.Proofs.Ytlbblfbiiceofaa

theorem snoc_cases {α : Type} (l : List α) : l = [] ∨ ∃ ys p, l = ys ++ [p] := by
  match h : l.reverse with
  | [] => exact .inl (List.reverse_eq_nil_iff.1 h)
  | p :: r => exact .inr ⟨r.reverse, p, by rw [← List.reverse_reverse l, h, List.reverse_cons]⟩
theorem snoc_indR {α : Type} {P : List α → Prop} (h0 : P []) (h1 : ∀ l c, P l → P (l ++ [c])) (l : List α) : P l := by
  have : ∀ l : List α, P l.reverse := by
    intro l
    induction l with
    | nil => exact h0
    | cons c l ih => rw [List.reverse_cons]; exact h1 _ _ ih
  rw [← List.reverse_reverse l]; exact this _

/-- a letter put behind a row of runs -/
def snocRun (xs : List (UInt8 × Nat)) (c : UInt8) : List (UInt8 × Nat) :=
  match xs.getLast? with
  | some (d, n) => if d = c then xs.dropLast ++ [(d, n + 1)] else xs ++ [(c, 1)]
  | none => [(c, 1)]
/-- the runs of a list, from the first on -/
def runsL (l : List UInt8) : List (UInt8 × Nat) := l.foldl snocRun []
theorem runsL_snoc (l : List UInt8) (c : UInt8) : runsL (l ++ [c]) = snocRun (runsL l) c := by
  simp [runsL, List.foldl_append]
theorem snocRun_new (xs : List (UInt8 × Nat)) (c : UInt8) (h : ∀ d n, xs.getLast? = some (d, n) → d ≠ c) : snocRun xs c = xs ++ [(c, 1)] := by
  unfold snocRun
  cases e : xs.getLast? with
  | none => rw [List.getLast?_eq_none_iff] at e; rw [e]; rfl
  | some p =>
    obtain ⟨d, n⟩ := p
    simp only
    rw [if_neg (h d n e)]
theorem snocRun_same (xs : List (UInt8 × Nat)) (c : UInt8) (n : Nat) : snocRun (xs ++ [(c, n)]) c = xs ++ [(c, n + 1)] := by
  simp [snocRun]
theorem snocRun_cases (xs : List (UInt8 × Nat)) (c : UInt8) : (∃ ys n, xs = ys ++ [(c, n)] ∧ snocRun xs c = ys ++ [(c, n + 1)]) ∨ (snocRun xs c = xs ++ [(c, 1)] ∧ ∀ d n, xs.getLast? = some (d, n) → d ≠ c) := by
  rcases snoc_cases xs with rfl | ⟨ys, ⟨d, n⟩, rfl⟩
  · exact .inr ⟨rfl, fun d n h => by cases h⟩
  · by_cases hd : d = c
    · subst hd
      exact .inl ⟨ys, n, rfl, snocRun_same _ _ _⟩
    · have hh : ∀ d' n', (ys ++ [(d, n)]).getLast? = some (d', n') → d' ≠ c := fun d' n' h => by
        simp at h
        rw [← h.1]; exact hd
      exact .inr ⟨snocRun_new _ c hh, hh⟩

/-- what holds of all runs -/
theorem runsL_pos (l : List UInt8) : ∀ p ∈ runsL l, 1 ≤ p.2 := by
  refine snoc_indR (P := fun l => ∀ p ∈ runsL l, 1 ≤ p.2) ?_ ?_ l
  · intro p h; cases h
  · intro l c ih
    rw [runsL_snoc]
    rcases snocRun_cases (runsL l) c with ⟨ys, n, h1, h2⟩ | ⟨h2, _⟩
    · rw [h2]
      rw [h1] at ih
      intro p hp
      rcases List.mem_append.1 hp with h | h
      · exact ih p (List.mem_append.2 (.inl h))
      · simp at h; subst h; simp
    · rw [h2]
      intro p hp
      rcases List.mem_append.1 hp with h | h
      · exact ih p h
      · simp at h; subst h; simp
theorem runsL_sum (l : List UInt8) : ((runsL l).map (·.2)).sum = l.length := by
  refine snoc_indR (P := fun l => ((runsL l).map (·.2)).sum = l.length) ?_ ?_ l
  · rfl
  · intro l c ih
    rw [runsL_snoc]
    rcases snocRun_cases (runsL l) c with ⟨ys, n, h1, h2⟩ | ⟨h2, _⟩
    · rw [h1] at ih
      rw [h2]; simp at ih ⊢; omega
    · rw [h2]; simp at ih ⊢; omega
theorem runsL_length (l : List UInt8) : (runsL l).length ≤ l.length := by
  have h1 := runsL_sum l
  have h2 := runsL_pos l
  rw [← h1]
  generalize runsL l = xs at h2
  induction xs with
  | nil => simp
  | cons a xs ih =>
    have := h2 a (List.mem_cons_self ..)
    have := ih (fun p hp => h2 p (List.mem_cons_of_mem _ hp))
    simp; omega

/-- a letter put before a row of runs -/
def consRun (c : UInt8) (xs : List (UInt8 × Nat)) : List (UInt8 × Nat) := (snocRun xs.reverse c).reverse
theorem snocRun_eq (d e : UInt8) (n : Nat) (zs : List (UInt8 × Nat)) : snocRun (zs ++ [(e, n)]) d = (if e = d then zs ++ [(e, n + 1)] else zs ++ [(e, n), (d, 1)]) := by
  unfold snocRun
  simp
/-- the longest run of a letter -/
def longestIn (xs : List (UInt8 × Nat)) (c : UInt8) : Nat := xs.foldl (fun m p => if p.1 = c then max m p.2 else m) 0
theorem longestIn_snoc (xs : List (UInt8 × Nat)) (p : UInt8 × Nat) (c : UInt8) : longestIn (xs ++ [p]) c = if p.1 = c then max (longestIn xs c) p.2 else longestIn xs c := by
  simp [longestIn, List.foldl_append]
/-- how long the run at the end is, if it is of the letter -/
def nowIn (xs : List (UInt8 × Nat)) (c : UInt8) : Nat :=
  match xs.getLast? with
  | some (d, n) => if d = c then n else 0
  | none => 0
theorem now_le (xs : List (UInt8 × Nat)) (c : UInt8) : nowIn xs c ≤ longestIn xs c := by
  rcases snoc_cases xs with rfl | ⟨ys, ⟨d, n⟩, rfl⟩
  · simp [nowIn]
  · rw [longestIn_snoc]
    simp only [nowIn, List.getLast?_append, List.getLast?_singleton]
    simp
    split <;> omega
theorem snoc_hit (xs : List (UInt8 × Nat)) (c : UInt8) : nowIn (snocRun xs c) c = nowIn xs c + 1 ∧ longestIn (snocRun xs c) c = max (longestIn xs c) (nowIn xs c + 1) := by
  rcases snocRun_cases xs c with ⟨ys, n, h1, h2⟩ | ⟨h2, h3⟩
  · rw [h2, h1, longestIn_snoc, longestIn_snoc]
    simp [nowIn]
  · have h0 : nowIn xs c = 0 := by
      unfold nowIn
      split
      · rename_i d n e; rw [if_neg (h3 d n e)]
      · rfl
    rw [h2, longestIn_snoc, h0]
    simp [nowIn]
theorem snoc_miss (xs : List (UInt8 × Nat)) (c d : UInt8) (h : d ≠ c) : nowIn (snocRun xs d) c = 0 ∧ longestIn (snocRun xs d) c = longestIn xs c := by
  rcases snocRun_cases xs d with ⟨ys, n, h1, h2⟩ | ⟨h2, h3⟩
  · rw [h2, h1, longestIn_snoc, longestIn_snoc]
    simp [nowIn, h]
  · rw [h2, longestIn_snoc]
    simp [nowIn, h]
theorem longestIn_le (xs : List (UInt8 × Nat)) (c : UInt8) : longestIn xs c ≤ (xs.map (·.2)).sum := by
  refine snoc_indR (P := fun xs => longestIn xs c ≤ (xs.map (·.2)).sum) ?_ ?_ xs
  · simp [longestIn]
  · intro xs p ih
    rw [longestIn_snoc]; simp; split <;> omega
/-- LongestOf's number -/
def longestOf (s t : ByteArray) : Int := if (wordOk s && letterOk t) = true then (longestIn (runsL s.data.toList) (byteAt t 0) : Int) else -1
/-- RunsOf's numbers -/
def runsOf (s : ByteArray) : List Int := if wordOk s = true then (runsL s.data.toList).map (fun p => (p.2 : Int)) else []
end Go.Proofs.Ytlbblfbiiceofaa

namespace Go.Proofs.Ytlbblfbiiceofaa

structure Ru where
  kind : Int
  letter : ByteArray
  thn : ByteArray
  many : Int
def inB (lo hi n : Int) : Bool := decide (lo ≤ n) && decide (n ≤ hi)
def noThen (t : ByteArray) : Bool := decide (t = ⟨#[]⟩)
/-- RuleOk -/
def Ru.ok (r : Ru) : Bool := letterOk r.letter && (
  if r.kind = 0 then noThen r.thn && inB 0 4 r.many else
  if r.kind = 1 then noThen r.thn && inB 2 4 r.many else
  if r.kind = 2 then letterOk r.thn && decide (r.many = 0) else
  if r.kind = 3 then noThen r.thn && inB 0 5 r.many else
  if r.kind = 4 then noThen r.thn && inB 1 5 r.many else false)

theorem letterOk_cases {t : ByteArray} (h : letterOk t = true) : t = ⟨#[114]⟩ ∨ t = ⟨#[100]⟩ ∨ t = ⟨#[110]⟩ := by
  have hs : t.size = 1 := by simp [letterOk] at h; exact h.1
  rw [letterOk_one t hs (by omega)] at h
  have e : t.data.toList = [t[0]] := by
    apply List.ext_getElem
    · simpa using hs
    · intro i h1 h2
      have : i = 0 := by simp at h2; exact h2
      subst this; rfl
  simp only [isL, Bool.or_eq_true, beq_iff_eq] at h
  rcases h with (h | h) | h
  · exact .inl (bytes_ext (by rw [e, h]))
  · exact .inr (.inl (bytes_ext (by rw [e, h])))
  · exact .inr (.inr (bytes_ext (by rw [e, h])))
theorem inB_iff {lo hi n : Int} : inB lo hi n = true ↔ lo ≤ n ∧ n ≤ hi := by simp [inB]
/-- which rules there are -/
theorem Ru.ok_iff {r : Ru} : r.ok = true ↔ letterOk r.letter = true ∧
    ((r.kind = 0 ∧ r.thn = ⟨#[]⟩ ∧ 0 ≤ r.many ∧ r.many ≤ 4) ∨ (r.kind = 1 ∧ r.thn = ⟨#[]⟩ ∧ 2 ≤ r.many ∧ r.many ≤ 4) ∨ (r.kind = 2 ∧ letterOk r.thn = true ∧ r.many = 0) ∨
      (r.kind = 3 ∧ r.thn = ⟨#[]⟩ ∧ 0 ≤ r.many ∧ r.many ≤ 5) ∨ (r.kind = 4 ∧ r.thn = ⟨#[]⟩ ∧ 1 ≤ r.many ∧ r.many ≤ 5)) := by
  unfold Ru.ok
  rw [Bool.and_eq_true]
  refine and_congr Iff.rfl ?_
  by_cases h0 : r.kind = 0
  · simp [h0, noThen, inB_iff]
  by_cases h1 : r.kind = 1
  · simp [h1, noThen, inB_iff]
  by_cases h2 : r.kind = 2
  · simp [h2]
  by_cases h3 : r.kind = 3
  · simp [h3, noThen, inB_iff]
  by_cases h4 : r.kind = 4
  · simp [h4, noThen, inB_iff]
  simp [h0, h1, h2, h3, h4]

/-- a letter right behind another one, among the first k pairs -/
def pairTo (l : List UInt8) (c d : UInt8) (k : Nat) : Bool := (List.range k).any fun i => l.getD i 0 == c && l.getD (i + 1) 0 == d
theorem pairTo_succ (l : List UInt8) (c d : UInt8) (k : Nat) : pairTo l c d (k + 1) = (pairTo l c d k || (l.getD k 0 == c && l.getD (k + 1) 0 == d)) := by
  simp [pairTo, List.range_succ]
/-- each run of a letter is long enough, among the runs of a list -/
def longAll (xs : List (UInt8 × Nat)) (c : UInt8) (n : Int) : Bool := xs.all fun p => !(p.1 == c) || decide (n ≤ (p.2 : Int))
theorem longAll_snoc (xs : List (UInt8 × Nat)) (p : UInt8 × Nat) (c : UInt8) (n : Int) : longAll (xs ++ [p]) c n = (longAll xs c n && (!(p.1 == c) || decide (n ≤ (p.2 : Int)))) := by
  simp [longAll, List.all_append]
/-- KeepsRule of a rule and a word -/
def Ru.holds (r : Ru) (s : ByteArray) : Bool :=
  if r.kind = 0 then decide ((longestIn (runsL s.data.toList) (byteAt r.letter 0) : Int) ≤ r.many) else
  if r.kind = 1 then longAll (runsL s.data.toList) (byteAt r.letter 0) r.many else
  if r.kind = 2 then !pairTo s.data.toList (byteAt r.letter 0) (byteAt r.thn 0) (s.size - 1) else
  if r.kind = 3 then decide (cntEq s.data.toList (byteAt r.letter 0) s.size ≤ r.many) else
  decide (r.many ≤ cntEq s.data.toList (byteAt r.letter 0) s.size)
def Ru.keeps (r : Ru) (s : ByteArray) : Bool := r.ok && wordOk s && r.holds s

/-- how the machine of a rule goes on: 'its' tells that the letter is the rule's, 'th' that it is the other one -/
def nxR (kind many : Int) (its th : Bool) (s : Int) : Int :=
  if kind = 0 then (if its = true then (if s = many then -1 else s + 1) else 0) else
  if kind = 1 then (if its = true then min (s + 1) many else if 0 < s ∧ s < many then -1 else 0) else
  if kind = 2 then (if s = 1 ∧ th = true then -1 else if its = true then 1 else 0) else
  if its = true then (if kind = 3 ∧ s = many then -1 else min (s + 1) many) else s
def endR (kind many : Int) (s : Int) : Bool :=
  if kind = 1 then (decide (s = 0) || decide (s = many)) else if kind = 4 then decide (s = many) else true
/-- the byte of a letter's number -/
def byteOf (l : Nat) : UInt8 := if l = 0 then 114 else if l = 1 then 100 else 110
def Ru.nx (r : Ru) (s : Int) (l : Nat) : Int := nxR r.kind r.many (byteAt r.letter 0 == byteOf l) (byteAt r.thn 0 == byteOf l) s
def Ru.endAt (r : Ru) (s : Int) : Bool := endR r.kind r.many s
/-- how many states -/
def Ru.st (r : Ru) : Nat := if r.kind = 2 then 2 else r.many.toNat + 1
def Ru.on (r : Ru) (s : Int) (l : Nat) : Option Int := if r.nx s l = -1 then none else some (r.nx s l)
/-- the table -/
def tabTo (f : Int → Nat → Int) : Nat → List Int
  | 0 => []
  | k + 1 => tabTo f k ++ [f k 0, f k 1, f k 2]
def endsTo (f : Int → Bool) (n : Nat) : List Bool := (List.range n).map fun (k : Nat) => f (k : Int)
theorem tabTo_length (f : Int → Nat → Int) (k : Nat) : (tabTo f k).length = 3 * k := by
  induction k with
  | zero => rfl
  | succ k ih => simp only [tabTo, List.length_append, ih, List.length_cons, List.length_nil]; omega
theorem endsTo_length (f : Int → Bool) (n : Nat) : (endsTo f n).length = n := by simp [endsTo]
theorem endsTo_succ (f : Int → Bool) (n : Nat) : endsTo f (n + 1) = endsTo f n ++ [f n] := by simp [endsTo, List.range_succ]

/-- over all rules -/
def onN (kind many : Int) (li : UInt8) (ti : UInt8) (s : Int) (l : Nat) : Int := nxR kind many (li == byteOf l) (ti == byteOf l) s
def bfsN (kind many : Int) (li ti : UInt8) (n : Nat) : List Int × List Int := bfsTo (fun s l => if onN kind many li ti s l = -1 then none else some (onN kind many li ti s l)) (0 : Int) n
def fineN (kind many : Int) (li ti : UInt8) : Bool :=
  let n := if kind = 2 then 2 else many.toNat + 1
  decide ((bfsN kind many li ti n).1 = (List.range n).map (fun (k : Nat) => (k : Int))) && decide ((bfsN kind many li ti n).2 = tabTo (onN kind many li ti) n)
theorem Ru.st_bd {r : Ru} (h : r.ok = true) : 1 ≤ r.st ∧ r.st ≤ 6 := by
  obtain ⟨kind, letter, thn, many⟩ := r
  obtain ⟨hl, hr⟩ := Ru.ok_iff.1 h
  simp only at hr
  unfold Ru.st
  simp only
  split <;> omega
end Go.Proofs.Ytlbblfbiiceofaa

namespace Go.Proofs.Ytlbblfbiiceofaa

/-- a state, and the word that led to it -/
abbrev SW := Int × ByteArray
def letS (l : Nat) : ByteArray := ⟨#[byteOf l]⟩
def sh1 (m : M) (x : SW) (q : List SW) (l : Nat) : List SW := if x.2.size < 14 ∧ 0 ≤ m.nx x.1 l ∧ m.nx x.1 l ∉ q.map Prod.fst then q ++ [(m.nx x.1 l, x.2 ++ letS l)] else q
def shL (m : M) (x : SW) (q : List SW) : Nat → List SW
  | 0 => q
  | l + 1 => sh1 m x (shL m x q l) l
def shTo (m : M) : Nat → List SW
  | 0 => [(0, ⟨#[]⟩)]
  | n + 1 => match (shTo m n)[n]? with
    | some x => shL m x (shTo m n) 3
    | none => shTo m n
/-- what every element of the search keeps -/
structure SGood (m : M) (x : SW) : Prop where
  s0 : 0 ≤ x.1
  s1 : x.1 < m.st
  ok : wordOk x.2 = true
  go : m.goes 0 x.2.data.toList = x.1
structure Sh (m : M) (q : List SW) : Prop where
  all : ∀ x ∈ q, SGood m x
  nd : (q.map Prod.fst).Nodup
  pos : 0 < q.length
  fst : 0 ∈ q.map Prod.fst
/-- the word found at the n-th element -/
def hitAt (m : M) (n : Nat) : Option ByteArray := match (shTo m n)[n]? with
  | some x => if m.endAt x.1 = true then some x.2 else none
  | none => none
def IsShort (m : M) (r : Option ByteArray) : Prop :=
  ∃ n, (∀ j, j < n → j < (shTo m j).length ∧ hitAt m j = none) ∧ ((∃ w, hitAt m n = some w ∧ r = some w) ∨ ((shTo m n).length ≤ n ∧ r = none))
end Go.Proofs.Ytlbblfbiiceofaa

namespace Go.Proofs.Ytlbblfbiiceofaa

/-- how many words of so many letters lead from a state to an end -/
def M.ways (m : M) : Nat → Int → Int
  | 0, s => if m.endAt s = true then 1 else 0
  | k + 1, s => m.ways k (m.nx s 0) + m.ways k (m.nx s 1) + m.ways k (m.nx s 2)
/-- those that begin with one of the first letters -/
def M.waysTo (m : M) (k : Nat) (s : Int) : Nat → Int
  | 0 => 0
  | l + 1 => m.waysTo k s l + m.ways k (m.nx s (l : Int))
theorem M.ways_end (m : M) (s : Int) : m.ways 0 s = if m.endAt s = true then 1 else 0 := rfl
theorem M.waysTo_zero (m : M) (k : Nat) (s : Int) : m.waysTo k s 0 = 0 := rfl
theorem M.waysTo_succ (m : M) (k : Nat) (s : Int) (l : Nat) : m.waysTo k s (l + 1) = m.waysTo k s l + m.ways k (m.nx s (l : Int)) := rfl
theorem M.ways_succ (m : M) (k : Nat) (s : Int) : m.ways (k + 1) s = m.waysTo k s 3 := by
  show m.ways k (m.nx s 0) + m.ways k (m.nx s 1) + m.ways k (m.nx s 2) = ((0 + m.ways k (m.nx s ((0 : Nat) : Int))) + m.ways k (m.nx s ((1 : Nat) : Int))) + m.ways k (m.nx s ((2 : Nat) : Int))
  rw [Int.zero_add]; rfl
theorem M.ways_lt (m : M) (k : Nat) (s : Int) (h : s < 0) : m.ways k s = 0 := by
  induction k generalizing s with
  | zero => rw [M.ways_end, M.endAt, if_pos h]; rfl
  | succ k ih =>
    show m.ways k (m.nx s 0) + m.ways k (m.nx s 1) + m.ways k (m.nx s 2) = 0
    rw [M.nx_neg _ _ _ h, M.nx_neg _ _ _ h, M.nx_neg _ _ _ h, ih (-1) (by omega)]; rfl
theorem M.ways_pow (m : M) (k : Nat) (s : Int) : 0 ≤ m.ways k s ∧ m.ways k s ≤ (3 : Int) ^ k := by
  induction k generalizing s with
  | zero => rw [M.ways_end]; split <;> simp
  | succ k ih =>
    have h0 := ih (m.nx s 0)
    have h1 := ih (m.nx s 1)
    have h2 := ih (m.nx s 2)
    have e : (3 : Int) ^ (k + 1) = (3 : Int) ^ k * 3 := Int.pow_succ _ _
    have : m.ways (k + 1) s = m.ways k (m.nx s 0) + m.ways k (m.nx s 1) + m.ways k (m.nx s 2) := rfl
    omega
theorem three_bd : ∀ k : Nat, k < 11 → (3 : Int) ^ k ≤ 59049 := by decide
theorem M.ways_bd (m : M) (k : Nat) (s : Int) (h : k ≤ 10) : 0 ≤ m.ways k s ∧ m.ways k s ≤ 59049 := by
  have h1 := m.ways_pow k s
  have h2 := three_bd k (by omega)
  omega
theorem M.waysTo_bd (m : M) (k : Nat) (s : Int) (l : Nat) (hl : l ≤ 3) (h : k ≤ 10) : 0 ≤ m.waysTo k s l ∧ m.waysTo k s l ≤ 177147 := by
  have a := m.ways_bd k (m.nx s ((0 : Nat) : Int)) h
  have b := m.ways_bd k (m.nx s ((1 : Nat) : Int)) h
  have c := m.ways_bd k (m.nx s ((2 : Nat) : Int)) h
  match l, hl with
  | 0, _ => rw [M.waysTo_zero]; omega
  | 1, _ => rw [M.waysTo_succ, M.waysTo_zero]; omega
  | 2, _ => rw [M.waysTo_succ, M.waysTo_succ, M.waysTo_zero]; omega
  | 3, _ => rw [M.waysTo_succ, M.waysTo_succ, M.waysTo_succ, M.waysTo_zero]; omega
/-- a row of the table -/
def M.waysRow (m : M) (k : Nat) : List Int := (List.range m.ends.length).map (fun (s : Nat) => m.ways k (s : Int))
theorem M.waysRow_length (m : M) (k : Nat) : (m.waysRow k).length = m.ends.length := by simp [M.waysRow]
theorem M.waysRow_at (m : M) (k s : Nat) (h : s < (m.waysRow k).length) : (m.waysRow k)[s] = m.ways k (s : Int) := by simp [M.waysRow]

/-- the letter of a place -/
def M.pick (m : M) (k : Nat) (s a : Int) : Nat := if a < m.waysTo k s 1 then 0 else if a < m.waysTo k s 2 then 1 else 2
/-- the word of a place -/
def M.wordOn (m : M) : Nat → Int → Int → List UInt8
  | 0, _, _ => []
  | k + 1, s, a => byteOf (m.pick k s a) :: m.wordOn k (m.nx s (m.pick k s a : Nat)) (a - m.waysTo k s (m.pick k s a))
/-- how many taken words are before a word -/
def M.rank (m : M) : Int → List UInt8 → Int
  | _, [] => 0
  | s, c :: cs => m.waysTo cs.length s (letterOf (c.toNat : Int)).toNat + m.rank (m.nx s (letterOf (c.toNat : Int))) cs
/-- 1 if a word is taken -/
def M.took (m : M) (s : Int) (l : List UInt8) : Int := if m.endAt (m.goes s l) = true then 1 else 0
/-- the first letter from one on by which something is taken -/
def M.upFrom (m : M) (k : Nat) (s : Int) (j : Nat) : Option Nat :=
  if j ≤ 0 ∧ 0 < m.ways k (m.nx s ((0 : Nat) : Int)) then some 0 else if j ≤ 1 ∧ 0 < m.ways k (m.nx s ((1 : Nat) : Int)) then some 1 else if j ≤ 2 ∧ 0 < m.ways k (m.nx s ((2 : Nat) : Int)) then some 2 else none
/-- the next taken word -/
def M.nextUp (m : M) : Int → List UInt8 → Option (List UInt8)
  | _, [] => none
  | s, c :: cs => match m.nextUp (m.nx s (letterOf (c.toNat : Int))) cs with
    | some u => some (c :: u)
    | none => match m.upFrom cs.length s ((letterOf (c.toNat : Int)).toNat + 1) with
      | some l => some (byteOf l :: m.wordOn cs.length (m.nx s (l : Int)) 0)
      | none => none
end Go.Proofs.Ytlbblfbiiceofaa

namespace Go.Proofs.Ytlbblfbiiceofaa
open Go.RowKit

/-- a table of rows, the ways with so many letters left in each -/
def IsTab (w : World) (v : Value) (m : M) (N : Nat) : Prop :=
  ∃ (g off cap : Nat), v = .slice (some ⟨g, off, none⟩) (N + 1) cap ∧ N + 1 ≤ cap ∧ cap ≤ maxLen ∧ g < w.heap.size ∧ ∀ k, k ≤ N → ∃ rv, w.cell? ⟨g, off + k, none⟩ = some rv ∧ IsInts w rv (m.waysRow k)
end Go.Proofs.Ytlbblfbiiceofaa

namespace Go.Proofs.Ytlbblfbiiceofaa
open Go.RowKit

theorem infoIntW : (Try.prog.info? 3).map (fun i => (i.zero, i.size, i.bytes)) = some (some (.int .i64 0), 1, 8) := by kernel_rfl
theorem cellW (w : World) (u : Value) (t : TypeId) : ∀ j x, [u][j]? = some x → (w.alloc (.cells #[u] t)).cell? ((⟨w.heap.size, 0, none⟩ : Addr).add j) = some x := by
  intro j x hx
  rw [show (⟨w.heap.size, 0, none⟩ : Addr).add j = ⟨w.heap.size, j, none⟩ by unfold Addr.add; split <;> simp_all, World.cell?_alloc_new]
  simpa using hx
theorem M.waysRow_take (m : M) (r k : Nat) (h : k < m.ends.length) : (m.waysRow r).take (k + 1) = (m.waysRow r).take k ++ [m.ways r (k : Int)] := by
  rw [List.take_succ_eq_append_getElem (by rw [m.waysRow_length]; exact h), m.waysRow_at]
theorem M.waysRow_cell (m : M) (r t : Nat) (h : t < m.ends.length) : ((m.waysRow r).map (Value.int .i64))[t]? = some (.int .i64 (m.ways r (t : Int))) := by
  rw [List.getElem?_map, List.getElem?_eq_getElem (by rw [m.waysRow_length]; exact h), m.waysRow_at]; rfl
/-- a row of the first ways -/
def wT (m : M) (v : Value) (r k : Nat) : Thing := rowT 3 1 v k (((m.waysRow r).take k).map (Value.int .i64))
theorem wT_next (m : M) (v : Value) (r k : Nat) (h : k < m.ends.length) : wT m v r (k + 1) = rowT 3 1 v (k + 1) (((m.waysRow r).take k).map (Value.int .i64) ++ [.int .i64 (m.ways r (k : Int))]) := by
  rw [wT, m.waysRow_take r k h, List.map_append]; rfl
theorem wT_all (m : M) (v : Value) (r : Nat) : wT m v r m.ends.length = rowT 3 1 v m.ends.length ((m.waysRow r).map (Value.int .i64)) := by
  rw [wT, List.take_of_length_le (by rw [m.waysRow_length]; exact Nat.le_refl _)]

set_option maxHeartbeats 3200000 in
theorem l6Many_core (xs : List Int) (bs : List Bool) (nv ev : Value) (w : World) (h1 : IsInts w nv xs) (h2 : IsBools w ev bs) (hg : M.good ⟨(bs.length : Int), xs, bs⟩) (s r : Nat) (hs : s < bs.length) (hr : r ≤ 10) :
    Calls Try.prog 100 #[.agg #[.int .i64 (bs.length : Int), nv, ev], .int .i64 (s : Int), .int .i64 (r : Int)] w fun e w' => e = .returned (.int .i64 (M.ways ⟨(bs.length : Int), xs, bs⟩ r (s : Int))) ∧ Below w.heap.size w w' := by
  obtain ⟨i0, hi, hz0, hz1, hz2⟩ := info_parts infoIntW
  have HI := Lib.hid (And.intro hi (And.intro hz0 (And.intro hz1 hz2)))
  clear hi hz0 hz1 hz2
  have hsh := M.good_shape hg
  simp only at hsh
  obtain ⟨an, nn, cn, rfl⟩ := h1.slice
  obtain ⟨g1, off1, rfl, rfl, hcn, hcnm, hg1, hcellN⟩ := ints_cells h1 (by omega)
  obtain ⟨ae, ne, ce, rfl⟩ := h2.slice
  obtain ⟨g2, off2, rfl, rfl, hg2, hcellE⟩ := bools_cells3 h2 (by omega)
  unfold maxLen at hcnm
  have M0 := Lib.hid (MachBox.new (st := (bs.length : Int)) 115 h1 h2)
  have K0 := Lib.hid ((Below.refl w.heap.size w).alloc (Nat.le_refl _) (.cells #[.int .i64 (bs.length : Int), .slice (some ⟨g1, off1, none⟩) xs.length cn, .slice (some ⟨g2, off2, none⟩) bs.length ce] 115))
  have hx4 : xs.length ≤ 12000 := by omega
  have hb4 : bs.length ≤ 4000 := by omega
  have HL3 := Lib.hid hsh.2.2.1
  have HG := Lib.hid hg
  clear h1 h2 hcellN hcellE hsh hg
  go_enter Try.func100, Try.ntmps100
  go_upto_region 1 with fail
  generalize hW0 : (w.alloc (.cells #[.int .i64 (bs.length : Int), .slice (some ⟨g1, off1, none⟩) xs.length cn, .slice (some ⟨g2, off2, none⟩) bs.length ce] 115)) = W0 at *
  have HSZ : Hid (W0.heap.size = w.heap.size + 1) := by rw [← hW0]; exact Lib.hid (by simp)
  clear hW0
  generalize hR : w.heap.size = R at *
  have HR := Lib.hid hR
  clear hR
  generalize hm : (⟨(bs.length : Int), xs, bs⟩ : M) = m at *
  have HME : Hid (m.ends = bs) := by rw [← hm]; exact Lib.hid rfl
  have HMN : Hid (m.next = xs) := by rw [← hm]; exact Lib.hid rfl
  have HMS : Hid (m.st = (bs.length : Int)) := by rw [← hm]; exact Lib.hid rfl
  have HM := Lib.hid hm
  clear hm
  have AT : Hid (∀ W, Below W0.heap.size W0 W → W.cell? ⟨R, 0, none⟩ = some (.int .i64 (bs.length : Int)) ∧ W.cell? ⟨R, 1, none⟩ = some (.slice (some ⟨g1, off1, none⟩) xs.length cn) ∧ W.cell? ⟨R, 2, none⟩ = some (.slice (some ⟨g2, off2, none⟩) bs.length ce) ∧
      (∀ k (h : k < xs.length), W.cell? ⟨g1, off1 + k, none⟩ = some (.int .i64 xs[k])) ∧ (∀ k (h : k < bs.length), W.cell? ⟨g2, off2 + k, none⟩ = some (.bool bs[k]))) := Lib.hid (by
    intro W hW
    have M1 := M0.out.below hW
    obtain ⟨g, o, he, _, _, _, _, hc⟩ := ints_cells M1.ints (by have := HL3.out; omega)
    simp only [Option.some.injEq, Addr.mk.injEq, and_true] at he
    obtain ⟨rfl, rfl⟩ := he
    obtain ⟨g, o, he, _, _, hc2⟩ := bools_cells3 M1.bools (by omega)
    simp only [Option.some.injEq, Addr.mk.injEq, and_true] at he
    obtain ⟨rfl, rfl⟩ := he
    exact ⟨M1.c0, M1.c1, M1.c2, hc, hc2⟩)
  clear M0
  have O0 := Lib.hid ((Own.nil W0).lit 3 #[] 0 rfl (Nat.zero_le _))
  have HZ : Hid (W0.heap.size = W0.heap.size) := Lib.hid rfl
  go_wp2_with fail
  go_loopw [7, 8] (fun qv i wr => ∃ (k g c : Nat), k ≤ bs.length ∧ i = .int .i64 (k : Int) ∧ qv = .slice (some ⟨g, 0, none⟩) k c ∧ Own W0 [wT m (.slice (some ⟨g, 0, none⟩) k c) 0 k] wr) (fun _ i _ => bs.length - (intOf i).toNat)
  case atStart => exact ⟨0, _, 0, Nat.zero_le _, rfl, rfl, O0.out⟩
  case round =>
    obtain ⟨k, g, c, hk, rfl, rfl, hO⟩ := hrel
    have O1 := Lib.hid hO
    clear hO
    obtain ⟨m0, m1, m2, hcx, hcb⟩ := AT.out _ O1.out.keep
    by_cases hlt : k < bs.length
    · have hcell := hcb k hlt
      have hltI : (k : Int) < (bs.length : Int) := by omega
      have HW : Hid (m.ways 0 (k : Int) = if bs[k] = true then 1 else 0) := Lib.hid (by
        have h : m.endAt (k : Int) = bs[k] := by
          rw [M.endAt, if_neg (by omega), HME.out, Int.toNat_natCast, List.getD_eq_getElem?_getD, List.getElem?_eq_getElem hlt]; rfl
        rw [M.ways_end, h])
      have HNX := Lib.hid (fun v => wT_next m v 0 k (by rw [HME.out]; exact hlt))
      clear hcb hcx m1
      generalize bs[k] = b at *
      cases b with
      | true =>
        have HW2 : Hid (m.ways 0 (k : Int) = 1) := Lib.hid (by rw [HW.out]; rfl)
        go_wp2_with (at_builtin; refine wpList_append_lies _ rfl _ _ 113 rfl 0 3 i0 (.int .i64 0) 1 8 Try.underlying113 HI.out.1 HI.out.2.1 HI.out.2.2.1 HI.out.2.2.2 rfl (by decide) (.slice (some ⟨g, 0, none⟩) k c) k (((m.waysRow 0).take k).map (Value.int .i64)) rfl ((O1.out.row 0 (by simp) rfl).alloc _) ⟨wr.heap.size, 0, none⟩ 1 1 [.int .i64 1] rfl rfl (cellW _ _ _) (by simp [Value.oneCell']) (by omega) (by unfold maxLen; omega) (by omega) (Nat.zero_le _) _ rfl ?_; intro g9 cp w4 hown hgrow hat hlt3; have O2 := Lib.hid (O1.out.push (i := 0) (by simp) rfl hgrow hown hat); clear hown hgrow hat hlt3)
        go_roundw
        case rel => exact ⟨k + 1, g9, cp, by omega, by go_num, rfl, by rw [HNX.out, HW2.out]; exact O2.out⟩
        case measure => simp [intOf]; omega
      | false =>
        have HW2 : Hid (m.ways 0 (k : Int) = 0) := Lib.hid (by rw [HW.out]; rfl)
        go_wp2_with (at_builtin; refine wpList_append_lies _ rfl _ _ 113 rfl 0 3 i0 (.int .i64 0) 1 8 Try.underlying113 HI.out.1 HI.out.2.1 HI.out.2.2.1 HI.out.2.2.2 rfl (by decide) (.slice (some ⟨g, 0, none⟩) k c) k (((m.waysRow 0).take k).map (Value.int .i64)) rfl ((O1.out.row 0 (by simp) rfl).alloc _) ⟨wr.heap.size, 0, none⟩ 1 1 [.int .i64 0] rfl rfl (cellW _ _ _) (by simp [Value.oneCell']) (by omega) (by unfold maxLen; omega) (by omega) (Nat.zero_le _) _ rfl ?_; intro g9 cp w4 hown hgrow hat hlt3; have O2 := Lib.hid (O1.out.push (i := 0) (by simp) rfl hgrow hown hat); clear hown hgrow hat hlt3)
        go_roundw
        case rel => exact ⟨k + 1, g9, cp, by omega, by go_num, rfl, by rw [HNX.out, HW2.out]; exact O2.out⟩
        case measure => simp [intOf]; omega
    · obtain rfl : k = bs.length := by omega
      clear hcx hcb m1 m2
      go_wp2_with fail
      clear m0
      go_loopw [7, 10] (fun qv i wr => ∃ (n g c : Nat), n ≤ r ∧ i = .int .i64 (n : Int) ∧ qv = .slice (some ⟨g, 0, none⟩) bs.length c ∧ Own W0 [wT m (.slice (some ⟨g, 0, none⟩) bs.length c) n bs.length] wr) (fun _ i _ => r - (intOf i).toNat)
      case atStart => exact ⟨0, g, c, Nat.zero_le _, rfl, rfl, O1.out⟩
      case round =>
        obtain ⟨n, g5, c5, hn, rfl, rfl, hO⟩ := hrel
        have O3 := Lib.hid hO
        clear hO O1
        by_cases hlt2 : n < r
        · have hlt2I : (n : Int) < (r : Int) := by omega
          have O4 := Lib.hid (O3.out.lit 3 #[] 0 rfl (Nat.zero_le _))
          go_wp2_with fail
          go_loopw [11, 12] (fun qv i wr2 => ∃ (k g7 c7 : Nat), k ≤ bs.length ∧ i = .int .i64 (k : Int) ∧ qv = .slice (some ⟨g7, 0, none⟩) k c7 ∧ Own W0 [wT m (.slice (some ⟨g7, 0, none⟩) k c7) (n + 1) k, wT m (.slice (some ⟨g5, 0, none⟩) bs.length c5) n bs.length] wr2) (fun _ i _ => bs.length - (intOf i).toNat)
          case atStart => exact ⟨0, _, 0, Nat.zero_le _, rfl, rfl, O4.out⟩
          case round =>
            obtain ⟨k, g7, c7, hk7, rfl, rfl, hO⟩ := hrel
            have O5 := Lib.hid hO
            clear hO
            obtain ⟨m0, m1, m2, hcx, hcb⟩ := AT.out _ O5.out.keep
            by_cases hlt7 : k < bs.length
            · have hltI : (k : Int) < (bs.length : Int) := by omega
              have HNX := Lib.hid (fun v => wT_next m v (n + 1) k (by rw [HME.out]; exact hlt7))
              have HWS := Lib.hid (m.ways_succ n (k : Int))
              have hbw := m.waysTo_bd n (k : Int) 3 (by omega) (by omega)
              clear hcx hcb m1 m2
              go_wp2_with fail
              clear m0
              go_loopw [13, 14] (fun sv i wr3 => ∃ (l : Nat), l ≤ 3 ∧ i = .int .i64 (l : Int) ∧ sv = .int .i64 (m.waysTo n (k : Int) l) ∧ wr3 = wr) (fun _ i _ => 3 - (intOf i).toNat)
              case atStart => exact ⟨0, Nat.zero_le _, rfl, rfl, rfl⟩
              case round =>
                obtain ⟨l, hl, rfl, rfl, rfl⟩ := hrel
                by_cases hl3 : l < 3
                · obtain ⟨m0, m1, m2, hcx, hcb⟩ := AT.out _ O5.out.keep
                  have hx3 := HL3.out
                  have hil : 3 * k + l < xs.length := by omega
                  have hcell := hcx (3 * k + l) hil
                  have hnx : m.nx (k : Int) (l : Int) = xs[3 * k + l] := by
                    rw [M.nx, if_neg (by omega), show (3 * (k : Int) + (l : Int)).toNat = 3 * k + l by omega, HMN.out, List.getD_eq_getElem?_getD, List.getElem?_eq_getElem hil]; rfl
                  have hnb : -1 ≤ xs[3 * k + l] ∧ xs[3 * k + l] ≤ (bs.length : Int) - 1 := by
                    have h := HG.out.nxt (3 * k + l) (by rw [HMN.out]; exact hil)
                    rw [HMS.out] at h
                    simp only [HMN.out] at h
                    exact h
                  have HST := Lib.hid (m.waysTo_succ n (k : Int) l)
                  have hb1 := m.waysTo_bd n (k : Int) l hl (by omega)
                  have hq1 : IntKind.i64.wrap (3 * (k : Int)) = 3 * (k : Int) := IntWalk.i64_in _ (by omega)
                  have hq2 : IntKind.i64.wrap (3 * (k : Int) + (l : Int)) = 3 * (k : Int) + (l : Int) := IntWalk.i64_in _ (by omega)
                  have hq3 : 3 * (k : Int) + (l : Int) = ((3 * k + l : Nat) : Int) := by omega
                  rw [hnx] at HST
                  clear hcx hcb m2 hnx hx3
                  generalize 3 * k + l = i at *
                  generalize xs[i] = y at *
                  by_cases hy : y < 0
                  · have hz := m.ways_lt n y hy
                    have HS2 : Hid (m.waysTo n (k : Int) (l + 1) = m.waysTo n (k : Int) l) := Lib.hid (by rw [HST.out, hz]; omega)
                    clear hz HST
                    generalize m.waysTo n (k : Int) l = S at *
                    go_wp2_with fail
                    go_roundw
                    case rel => exact ⟨l + 1, by omega, by go_num, by rw [HS2.out], by trivial⟩
                    case measure => simp [intOf]; omega
                  · obtain ⟨t, rfl⟩ := Int.eq_ofNat_of_zero_le (show 0 ≤ y by omega)
                    have htl : t < bs.length := by omega
                    have hrow := O5.out.row 1 (by simp) (show _ = rowT 3 1 (.slice (some ⟨g5, 0, none⟩) bs.length c5) bs.length ((m.waysRow n).map (Value.int .i64)) from by
                      have := wT_all m (.slice (some ⟨g5, 0, none⟩) bs.length c5) n
                      rw [HME.out] at this; exact this)
                    have hnow := (World.ownsRow.cellAt hrow t (by omega)).trans (m.waysRow_cell n t (by rw [HME.out]; exact htl))
                    have hb3 := m.ways_bd n (t : Int) (by omega)
                    have hsum : IntKind.i64.wrap (m.waysTo n (k : Int) l + m.ways n (t : Int)) = m.waysTo n (k : Int) l + m.ways n (t : Int) := IntWalk.i64_in _ (by omega)
                    clear hrow
                    generalize m.waysTo n (k : Int) l = S at *
                    generalize m.ways n (t : Int) = x at *
                    go_wp2_with fail
                    go_roundw
                    case rel => exact ⟨l + 1, by omega, by go_num, by rw [HST.out], by trivial⟩
                    case measure => simp [intOf]; omega
                · obtain rfl : l = 3 := by omega
                  generalize hS : m.waysTo n (k : Int) 3 = S at *
                  go_wp2_with (at_builtin; refine wpList_append_lies _ rfl _ _ 113 rfl 0 3 i0 (.int .i64 0) 1 8 Try.underlying113 HI.out.1 HI.out.2.1 HI.out.2.2.1 HI.out.2.2.2 rfl (by decide) (.slice (some ⟨g7, 0, none⟩) k c7) k (((m.waysRow (n + 1)).take k).map (Value.int .i64)) rfl ((O5.out.row 0 (by simp) rfl).alloc _) ⟨wr.heap.size, 0, none⟩ 1 1 [.int .i64 S] rfl rfl (cellW _ _ _) (by simp [Value.oneCell']) (by omega) (by unfold maxLen; omega) (by omega) (Nat.zero_le _) _ rfl ?_; intro g9 cp w4 hown hgrow hat hlt3; have O6 := Lib.hid (O5.out.push (i := 0) (by simp) rfl hgrow hown hat); clear hown hgrow hat hlt3)
                  go_roundw
                  case rel => exact ⟨k + 1, g9, cp, by omega, by go_num, rfl, by rw [HNX.out, HWS.out]; exact O6.out⟩
                  case measure => simp [intOf]; omega
            · obtain rfl : k = bs.length := by omega
              clear hcx hcb m1 m2
              go_wp2_with fail
              go_roundw
              case rel => exact ⟨n + 1, g7, c7, by omega, by go_num, rfl, O5.out.sub (List.Sublist.cons_cons _ (List.nil_sublist _))⟩
              case measure => simp [intOf]; omega
        · obtain rfl : n = r := by omega
          have hrow := O3.out.row 0 (by simp) (show _ = rowT 3 1 (.slice (some ⟨g5, 0, none⟩) bs.length c5) bs.length ((m.waysRow n).map (Value.int .i64)) from by
            have := wT_all m (.slice (some ⟨g5, 0, none⟩) bs.length c5) n
            rw [HME.out] at this; exact this)
          have hnow := (World.ownsRow.cellAt hrow s (by omega)).trans (m.waysRow_cell n s (by rw [HME.out]; exact hs))
          have Q := Lib.hid (K0.out.trans (O3.out.keep.mono (by rw [HSZ.out]; omega)))
          clear hrow
          generalize hx : m.ways n (s : Int) = x at *
          have HX := Lib.hid hx
          clear hx
          go_wp2_with fail
          go_ret
          exact ⟨ret_int (by rw [HM.out]; exact HX.out.symm), by rw [HR.out]; exact Q.out⟩
theorem l6Many_any (m : M) (s : Int) (r : Nat) (nv ev : Value) (w : World) (h1 : IsInts w nv m.next) (h2 : IsBools w ev m.ends) (hg : m.good) (s0 : 0 ≤ s) (s1 : s < m.st) (hr : r ≤ 10) :
    Calls Try.prog 100 #[.agg #[.int .i64 m.st, nv, ev], .int .i64 s, .int .i64 (r : Int)] w fun e w' => e = .returned (.int .i64 (m.ways r s)) ∧ Below w.heap.size w w' := by
  obtain ⟨st, xs, bs⟩ := m
  obtain ⟨j, rfl⟩ := Int.eq_ofNat_of_zero_le s0
  obtain rfl : st = (bs.length : Int) := hg.le.symm
  exact l6Many_core xs bs nv ev w h1 h2 hg j r (by simp only at s1; omega) hr
end Go.Proofs.Ytlbblfbiiceofaa

namespace Go.Proofs.Ytlbblfbiiceofaa

structure Mk where
  kind : Int
  its : Ru
def Ru.void : Ru := ⟨0, ⟨#[]⟩, ⟨#[]⟩, 0⟩
instance : Inhabited Mk := ⟨⟨0, Ru.void⟩⟩
def Ru.isVoid (r : Ru) : Bool := decide (r.kind = 0) && noThen r.letter && noThen r.thn && decide (r.many = 0)
theorem Ru.isVoid_iff {r : Ru} : r.isVoid = true ↔ r = Ru.void := by
  obtain ⟨a, b, c, d⟩ := r
  simp [Ru.isVoid, Ru.void, noThen, and_assoc]

/-- how many parts a mark makes one of -/
def Mk.under (m : Mk) : Nat := if m.kind = 0 then 0 else if m.kind = 3 then 1 else 2
def Mk.fine (m : Mk) : Bool := if m.kind = 0 then m.its.ok else if m.kind = 1 ∨ m.kind = 2 ∨ m.kind = 3 then m.its.isVoid else false
def stepP (m : Mk) (p : Nat) : Option Nat := if m.fine = true ∧ m.under ≤ p then some (p + 1 - m.under) else none
/-- how many parts are left behind the marks -/
def leftOf : List Mk → Nat → Option Nat
  | [], p => some p
  | m :: ms, p => (stepP m p).bind (leftOf ms)
def termOk (ts : List Mk) : Bool := decide (ts.length ≤ 9) && decide (leftOf ts 0 = some 1)

theorem leftOf_append (a b : List Mk) : ∀ p, leftOf (a ++ b) p = (leftOf a p).bind (leftOf b) := by
  induction a with
  | nil => intro p; rfl
  | cons m a ih =>
    intro p
    simp only [List.cons_append, leftOf]
    cases stepP m p with
    | none => rfl
    | some q => simp [ih]
theorem take_succ' {α : Type} {l : List α} {k : Nat} (h : k < l.length) : l.take (k + 1) = l.take k ++ [l[k]] := by
  rw [List.take_add_one]; simp [h]
theorem leftOf_succ {ts : List Mk} {k p : Nat} (hk : k < ts.length) (h : leftOf (ts.take k) 0 = some p) : leftOf (ts.take (k + 1)) 0 = stepP ts[k] p := by
  rw [take_succ' hk, leftOf_append, h]
  simp only [Option.bind_some, leftOf]
  cases stepP ts[k] p <;> rfl
theorem leftOf_stop {ts : List Mk} {k : Nat} (h : leftOf (ts.take k) 0 = none) : leftOf ts 0 = none := by
  rw [← List.take_append_drop k ts, leftOf_append, h]; rfl
theorem termOk_stop {ts : List Mk} {k : Nat} (h : leftOf (ts.take k) 0 = none) : termOk ts = false := by
  simp [termOk, leftOf_stop h]
theorem leftOf_le (ts : List Mk) : ∀ p q, leftOf ts p = some q → q ≤ p + ts.length := by
  induction ts with
  | nil => intro p q h; simp only [leftOf, Option.some.injEq] at h; subst h; simp
  | cons m ts ih =>
    intro p q h
    simp only [leftOf, Option.bind_eq_some_iff] at h
    obtain ⟨r, hr, h⟩ := h
    have := ih _ _ h
    unfold stepP at hr
    split at hr
    · simp only [Option.some.injEq] at hr
      subst hr
      simp only [List.length_cons]
      omega
    · simp at hr

inductive Tm where
  | rule (r : Ru)
  | not (a : Tm)
  | two (or : Bool) (a b : Tm)
def markOf (k : Int) : Mk := ⟨k, Ru.void⟩
def Tm.post : Tm → List Mk
  | .rule r => [⟨0, r⟩]
  | .not a => a.post ++ [markOf 3]
  | .two o a b => a.post ++ b.post ++ [markOf (if o = true then 2 else 1)]
def Tm.good : Tm → Bool
  | .rule r => r.ok
  | .not a => a.good
  | .two _ a b => a.good && b.good
/-- the kind of the last mark -/
def Tm.last : Tm → Int
  | .rule _ => 0
  | .not _ => 3
  | .two o _ _ => if o = true then 2 else 1
def ruleSign (k : Int) : UInt8 := if k = 0 then 42 else if k = 1 then 94 else if k = 2 then 47 else if k = 3 then 60 else 62
def Ru.text (r : Ru) : List UInt8 := r.letter.data.toList ++ [ruleSign r.kind] ++ (if r.kind = 2 then r.thn.data.toList else [UInt8.ofNat (48 + r.many.toNat)])
def inBr (b : Bool) (s : List UInt8) : List UInt8 := if b = true then [40] ++ s ++ [41] else s
def Tm.text : Tm → List UInt8
  | .rule r => r.text
  | .not a => [33] ++ inBr (decide (a.last = 2) || decide (a.last = 1)) a.text
  | .two true a b => a.text ++ [124] ++ inBr (decide (b.last = 2)) b.text
  | .two false a b => inBr (decide (a.last = 2)) a.text ++ [38] ++ inBr (decide (b.last = 2) || decide (b.last = 1)) b.text

theorem Tm.post_pos (T : Tm) : 1 ≤ T.post.length := by
  cases T <;> simp [Tm.post]
  omega
theorem markOf_fine {k : Int} (h : k = 1 ∨ k = 2 ∨ k = 3) : (markOf k).fine = true := by
  have : Ru.void.isVoid = true := Ru.isVoid_iff.2 rfl
  rcases h with rfl | rfl | rfl <;> simp [Mk.fine, markOf, this]
/-- a tree's marks make one part more -/
theorem Tm.leftOf_post (T : Tm) (hg : T.good = true) : ∀ p, leftOf T.post p = some (p + 1) := by
  induction T with
  | rule r => intro p; have : r.ok = true := hg; simp [Tm.post, leftOf, stepP, Mk.fine, Mk.under, this]
  | not a ih =>
    intro p
    have hf : (markOf 3).fine = true := markOf_fine (.inr (.inr rfl))
    have hu : (markOf 3).under = 1 := by simp [Mk.under, markOf]
    simp only [Tm.post, leftOf_append, ih hg p, Option.bind_some, leftOf, stepP, hf, hu]
    simp
  | two o a b iha ihb =>
    intro p
    simp only [Tm.good, Bool.and_eq_true] at hg
    have hf : (markOf (if o = true then 2 else 1)).fine = true := markOf_fine (by cases o <;> simp)
    have hu : (markOf (if o = true then 2 else 1)).under = 2 := by cases o <;> simp [Mk.under, markOf]
    simp only [Tm.post, leftOf_append, iha hg.1 p, ihb hg.2, Option.bind_some, leftOf, stepP, hf, hu]
    simp
/-- the marks of a stack of trees, the last one first -/
def posts : List Tm → List Mk
  | [] => []
  | T :: st => posts st ++ T.post
/-- whatever marks can be put together are those of so many trees -/
theorem trees_of (ts : List Mk) : ∀ p, leftOf ts 0 = some p → ∃ st : List Tm, st.length = p ∧ (∀ T ∈ st, T.good = true) ∧ posts st = ts := by
  generalize hn : ts.length = n
  induction n generalizing ts with
  | zero =>
    intro p h
    obtain rfl := List.eq_nil_of_length_eq_zero hn
    simp only [leftOf, Option.some.injEq] at h
    exact ⟨[], by simpa using h, by simp, rfl⟩
  | succ n ih =>
    intro p h
    have hk : n < ts.length := by omega
    have hts : ts = ts.take n ++ [ts[n]] := by
      rw [← take_succ' hk, List.take_of_length_le (by omega)]
    rw [hts, leftOf_append, Option.bind_eq_some_iff] at h
    obtain ⟨q, hq, h⟩ := h
    obtain ⟨st, hl, hgood, hp⟩ := ih (ts.take n) (by simp; omega) q hq
    generalize ts[n] = m at *
    have h' : stepP m q = some p := by
      simp only [leftOf] at h
      cases hs : stepP m q with
      | none => rw [hs] at h; cases h
      | some r => rw [hs] at h; exact h
    unfold stepP at h'
    split at h'
    · rename_i hm
      obtain ⟨hf, hu⟩ := hm
      simp only [Option.some.injEq] at h'
      obtain ⟨mk, mi⟩ := m
      by_cases h0 : mk = 0
      · subst h0
        have hu0 : (⟨0, mi⟩ : Mk).under = 0 := by simp [Mk.under]
        have hok : mi.ok = true := by simpa [Mk.fine] using hf
        refine ⟨.rule mi :: st, by simp; omega, ?_, ?_⟩
        · intro T hT
          rcases List.mem_cons.1 hT with rfl | hT
          · exact hok
          · exact hgood T hT
        · rw [posts, hp, Tm.post]; exact hts.symm
      · have hkind : mk = 1 ∨ mk = 2 ∨ mk = 3 := by
          by_cases hk : mk = 1 ∨ mk = 2 ∨ mk = 3
          · exact hk
          · simp [Mk.fine, h0, hk] at hf
        have hvoid : mi = Ru.void := by
          have : mi.isVoid = true := by simpa [Mk.fine, h0, hkind] using hf
          exact Ru.isVoid_iff.1 this
        subst hvoid
        by_cases h3 : mk = 3
        · subst h3
          have hu1 : (⟨3, Ru.void⟩ : Mk).under = 1 := by simp [Mk.under]
          rw [hu1] at hu h'
          match st, hl, hgood, hp with
          | [], hl, _, _ => simp at hl; omega
          | T :: st, hl, hgood, hp =>
            refine ⟨.not T :: st, by simp at hl ⊢; omega, ?_, ?_⟩
            · intro U hU
              rcases List.mem_cons.1 hU with rfl | hU
              · exact hgood T (by simp)
              · exact hgood U (by simp [hU])
            · rw [hts, ← hp]
              simp [posts, Tm.post, markOf]
        · have h12 : mk = 1 ∨ mk = 2 := by omega
          have hu2 : (⟨mk, Ru.void⟩ : Mk).under = 2 := by simp [Mk.under, h0, h3]
          rw [hu2] at hu h'
          match st, hl, hgood, hp with
          | [], hl, _, _ => simp at hl; omega
          | [T], hl, _, _ => simp at hl; omega
          | U :: T :: st, hl, hgood, hp =>
            refine ⟨.two (decide (mk = 2)) T U :: st, by simp at hl ⊢; omega, ?_, ?_⟩
            · intro V hV
              rcases List.mem_cons.1 hV with rfl | hV
              · simp [Tm.good, hgood T (by simp), hgood U (by simp)]
              · exact hgood V (by simp [hV])
            · rw [hts, ← hp]
              rcases h12 with rfl | rfl <;> simp [posts, Tm.post, markOf]
    · simp at h'
/-- a term is the marks of one tree -/
theorem tree_of {ts : List Mk} (h : termOk ts = true) : ∃ T : Tm, T.good = true ∧ T.post = ts ∧ ts.length ≤ 9 := by
  simp only [termOk, Bool.and_eq_true, decide_eq_true_eq] at h
  obtain ⟨st, hl, hg, hp⟩ := trees_of ts 1 h.2
  match st, hl, hg, hp with
  | [T], _, hg, hp => exact ⟨T, hg T (by simp), by simpa [posts] using hp, h.1⟩
end Go.Proofs.Ytlbblfbiiceofaa

namespace Go.Proofs.Ytlbblfbiiceofaa

/-- the marks of trees, one behind the other -/
def postL (ts : List Tm) : List Mk := ts.flatMap Tm.post
theorem postL_append (a b : List Tm) : postL (a ++ b) = postL a ++ postL b := by simp [postL]
theorem postL_one (T : Tm) : postL [T] = T.post := by simp [postL]
theorem postL_nil : postL [] = [] := rfl
theorem postL_good {ts : List Tm} (h : ∀ T ∈ ts, T.good = true) (p : Nat) : leftOf (postL ts) p = some (p + ts.length) := by
  induction ts generalizing p with
  | nil => rfl
  | cons T ts ih =>
    have e : postL (T :: ts) = T.post ++ postL ts := by simp [postL]
    rw [e, leftOf_append, T.leftOf_post (h T (by simp)), Option.bind_some, ih (fun U hU => h U (by simp [hU]))]
    simp; omega
/-- what a word keeps -/
def Tm.keeps (s : ByteArray) : Tm → Bool
  | .rule r => r.keeps s
  | .not a => !a.keeps s
  | .two true a b => a.keeps s || b.keeps s
  | .two false a b => a.keeps s && b.keeps s
theorem Tm.post_inj {T U : Tm} (hT : T.good = true) (hU : U.good = true) (h : T.post = U.post) : T = U := by
  have key : ∀ (T : Tm), ∀ (ts us : List Tm), (∀ x ∈ ts, x.good = true) → (∀ x ∈ us, x.good = true) → T.good = true → ∀ U : Tm, U.good = true → postL ts ++ T.post = postL us ++ U.post → T = U ∧ postL ts = postL us := by
    intro T
    induction T with
    | rule r =>
      intro ts us hts hus hT U hU h
      cases U with
      | rule q =>
        simp only [Tm.post] at h
        have := List.append_inj' h rfl
        have h2 : (⟨0, r⟩ : Mk) = ⟨0, q⟩ := by simpa using this.2
        have h3 : r = q := by injection h2
        exact ⟨by rw [h3], this.1⟩
      | not b =>
        simp only [Tm.post] at h
        rw [← List.append_assoc] at h
        have := (List.append_inj' h rfl).2
        have h2 : (⟨0, r⟩ : Mk) = markOf 3 := by simpa using this
        have h3 : (0 : Int) = 3 := by injection h2
        omega
      | two o b c =>
        simp only [Tm.post] at h
        rw [← List.append_assoc] at h
        have := (List.append_inj' h rfl).2
        have h2 : (⟨0, r⟩ : Mk) = markOf (if o = true then 2 else 1) := by simpa using this
        have h3 : (0 : Int) = (if o = true then 2 else 1) := by injection h2
        split at h3 <;> omega
    | not a ih =>
      intro ts us hts hus hT U hU h
      cases U with
      | rule q =>
        simp only [Tm.post] at h
        rw [← List.append_assoc] at h
        have := (List.append_inj' h rfl).2
        have h2 : markOf 3 = (⟨0, q⟩ : Mk) := by simpa using this
        have h3 : (3 : Int) = 0 := by injection h2
        omega
      | not b =>
        simp only [Tm.post] at h
        rw [← List.append_assoc (postL ts), ← List.append_assoc (postL us)] at h
        have := (List.append_inj' h rfl).1
        obtain ⟨h1, h2⟩ := ih ts us hts hus hT b hU this
        exact ⟨by rw [h1], h2⟩
      | two o b c =>
        simp only [Tm.post] at h
        rw [← List.append_assoc (postL ts), ← List.append_assoc (postL us)] at h
        have := (List.append_inj' h rfl).2
        have h2 : markOf 3 = markOf (if o = true then 2 else 1) := by simpa using this
        have h3 : (3 : Int) = (if o = true then 2 else 1) := by injection h2
        split at h3 <;> omega
    | two o a b iha ihb =>
      intro ts us hts hus hT U hU h
      simp only [Tm.good, Bool.and_eq_true] at hT
      cases U with
      | rule q =>
        simp only [Tm.post] at h
        rw [← List.append_assoc] at h
        have := (List.append_inj' h rfl).2
        have h2 : markOf (if o = true then 2 else 1) = (⟨0, q⟩ : Mk) := by simpa using this
        have h3 : (if o = true then 2 else 1) = (0 : Int) := by injection h2
        split at h3 <;> omega
      | not c =>
        simp only [Tm.post] at h
        rw [← List.append_assoc (postL ts), ← List.append_assoc (postL us)] at h
        have := (List.append_inj' h rfl).2
        have h2 : markOf (if o = true then 2 else 1) = markOf 3 := by simpa using this
        have h3 : (if o = true then 2 else 1) = (3 : Int) := by injection h2
        split at h3 <;> omega
      | two o' c d =>
        simp only [Tm.good, Bool.and_eq_true] at hU
        simp only [Tm.post] at h
        rw [← List.append_assoc (postL ts), ← List.append_assoc (postL us)] at h
        have hl := List.append_inj' h rfl
        have ho : o = o' := by
          have h2 : markOf (if o = true then 2 else 1) = markOf (if o' = true then 2 else 1) := by simpa using hl.2
          have h3 : (if o = true then (2 : Int) else 1) = (if o' = true then 2 else 1) := by injection h2
          cases o <;> cases o' <;> simp at h3 ⊢
        subst ho
        have h1 := hl.1
        rw [← List.append_assoc (postL ts), ← List.append_assoc (postL us), ← postL_one a, ← postL_one c, ← postL_append, ← postL_append] at h1
        obtain ⟨hb, hr⟩ := ihb (ts ++ [a]) (us ++ [c]) (fun x hx => by
          rcases List.mem_append.1 hx with hx | hx
          · exact hts x hx
          · rw [List.mem_singleton.1 hx]; exact hT.1) (fun x hx => by
          rcases List.mem_append.1 hx with hx | hx
          · exact hus x hx
          · rw [List.mem_singleton.1 hx]; exact hU.1) hT.2 d hU.2 h1
        rw [postL_append, postL_append, postL_one, postL_one] at hr
        obtain ⟨ha, hr2⟩ := iha ts us hts hus hT.1 c hU.1 hr
        exact ⟨by rw [ha, hb], hr2⟩
  exact (key T [] [] (by simp) (by simp) hT U hU (by simpa [postL] using h)).1

theorem Tm.eq_of_post {T U : Tm} (hT : T.good = true) (hU : U.good = true) (h : T.post = U.post) (s : ByteArray) : T.keeps s = U.keeps s := by rw [Tm.post_inj hT hU h]

/-- one mark more: the trees that it puts together -/
inductive Puts : Mk → List Tm → Tm → Prop
  | rule (r : Ru) : Puts ⟨0, r⟩ [] (.rule r)
  | not (a : Tm) : Puts (markOf 3) [a] (.not a)
  | two (o : Bool) (a b : Tm) : Puts (markOf (if o = true then 2 else 1)) [a, b] (.two o a b)
theorem Puts.len {m : Mk} {subs : List Tm} {T : Tm} (h : Puts m subs T) : subs.length = m.under := by
  cases h with
  | rule r => simp [Mk.under]
  | not a => simp [Mk.under, markOf]
  | two o a b => cases o <;> simp [Mk.under, markOf]
theorem step_trees {ms : List Mk} (hok : termOk ms = true) {k : Nat} (hk : k < ms.length) {sts : List Tm} (hg : ∀ T ∈ sts, T.good = true) (hp : postL sts = ms.take k) :
    ∃ pre subs T, sts = pre ++ subs ∧ Puts ms[k] subs T ∧ (∀ x ∈ pre ++ [T], x.good = true) ∧ postL (pre ++ [T]) = ms.take (k + 1) := by
  have hl : leftOf (ms.take k) 0 = some sts.length := by rw [← hp, postL_good hg, Nat.zero_add]
  have hs := leftOf_succ hk hl
  have hne : leftOf (ms.take (k + 1)) 0 ≠ none := fun h => by rw [termOk_stop h] at hok; cases hok
  rw [hs, stepP] at hne
  have hfu : ms[k].fine = true ∧ ms[k].under ≤ sts.length := by
    by_cases h : ms[k].fine = true ∧ ms[k].under ≤ sts.length
    · exact h
    · rw [if_neg h] at hne; exact absurd rfl hne
  rw [take_succ' hk, ← hp]
  generalize ms[k] = m at *
  obtain ⟨hf, hu⟩ := hfu
  obtain ⟨kd, its⟩ := m
  by_cases h0 : kd = 0
  · subst h0
    have hr : its.ok = true := by simpa [Mk.fine] using hf
    refine ⟨sts, [], .rule its, by simp, .rule its, ?_, by rw [postL_append, postL_one]; rfl⟩
    simp only [List.mem_append, List.mem_singleton]
    rintro x (hx | rfl)
    · exact hg x hx
    · exact hr
  · have hkind : kd = 1 ∨ kd = 2 ∨ kd = 3 := by
      by_cases h : kd = 1 ∨ kd = 2 ∨ kd = 3
      · exact h
      · simp [Mk.fine, h0, h] at hf
    have hv : its = Ru.void := by
      have : its.isVoid = true := by simpa [Mk.fine, h0, hkind] using hf
      exact Ru.isVoid_iff.1 this
    subst hv
    by_cases h3 : kd = 3
    · subst h3
      have hu1 : (⟨3, Ru.void⟩ : Mk).under = 1 := by simp [Mk.under]
      rw [hu1] at hu
      rcases List.eq_nil_or_concat sts with rfl | ⟨pre, a, rfl⟩
      · simp at hu
      · rw [List.concat_eq_append] at *
        refine ⟨pre, [a], .not a, rfl, .not a, ?_, by rw [postL_append, postL_append, postL_one, postL_one, List.append_assoc]; rfl⟩
        simp only [List.mem_append, List.mem_singleton] at hg ⊢
        rintro x (hx | rfl)
        · exact hg x (.inl hx)
        · exact hg a (.inr rfl)
    · have h12 : kd = 1 ∨ kd = 2 := by omega
      have hu2 : (⟨kd, Ru.void⟩ : Mk).under = 2 := by simp [Mk.under, h0, h3]
      rw [hu2] at hu
      rcases List.eq_nil_or_concat sts with rfl | ⟨q, b, rfl⟩
      · simp at hu
      · rw [List.concat_eq_append] at *
        rcases List.eq_nil_or_concat q with rfl | ⟨pre, a, rfl⟩
        · simp at hu
        · rw [List.concat_eq_append] at *
          have hkd : (⟨kd, Ru.void⟩ : Mk) = markOf (if decide (kd = 2) = true then 2 else 1) := by
            rcases h12 with rfl | rfl <;> simp [markOf]
          refine ⟨pre, [a, b], .two (decide (kd = 2)) a b, by simp, by rw [hkd]; exact .two _ a b, ?_, ?_⟩
          · simp only [List.mem_append, List.mem_singleton] at hg ⊢
            rintro x (hx | rfl)
            · exact hg x (.inl (.inl hx))
            · simp [Tm.good, hg a (.inl (.inr rfl)), hg b (.inr rfl)]
          · rw [hkd, postL_append, postL_append, postL_append, postL_one, postL_one, postL_one]
            simp [Tm.post]
theorem last_tree {ms : List Mk} (hok : termOk ms = true) {sts : List Tm} (hg : ∀ T ∈ sts, T.good = true) (hp : postL sts = ms) : ∃ T, sts = [T] := by
  have h1 : leftOf ms 0 = some 1 := by
    simp only [termOk, Bool.and_eq_true, decide_eq_true_eq] at hok
    exact hok.2
  rw [← hp, postL_good hg, Nat.zero_add, Option.some.injEq] at h1
  match sts, h1 with
  | [T], _ => exact ⟨T, rfl⟩
/-- KeepsTerm -/
def IsKept (ms : List Mk) (s : ByteArray) (b : Bool) : Prop := (termOk ms = true ∧ wordOk s = true ∧ ∃ T : Tm, T.good = true ∧ T.post = ms ∧ b = T.keeps s) ∨ ((termOk ms = false ∨ wordOk s = false) ∧ b = false)
theorem IsKept.one {ms : List Mk} {s : ByteArray} {b c : Bool} (h : IsKept ms s b) (g : IsKept ms s c) : b = c := by
  rcases h with ⟨h1, h2, T, h3, h4, rfl⟩ | ⟨h1, rfl⟩ <;> rcases g with ⟨g1, g2, U, g3, g4, rfl⟩ | ⟨g1, rfl⟩
  · exact Tm.eq_of_post h3 g3 (h4.trans g4.symm) s
  · rcases g1 with g1 | g1 <;> simp_all
  · rcases h1 with h1 | h1 <;> simp_all
  · rfl
/-- the last mark of trees that are read backwards -/
theorem back_one (ts : List Tm) (T : Tm) : ∃ m, (postL (ts ++ [T])) = (postL (ts ++ [T])).dropLast ++ [m] ∧ ((m.kind = 0 ∧ (postL (ts ++ [T])).dropLast = postL ts) ∨ (m.kind = 3 ∧ ∃ a, (postL (ts ++ [T])).dropLast = postL (ts ++ [a])) ∨ ((m.kind = 1 ∨ m.kind = 2) ∧ ∃ a b, (postL (ts ++ [T])).dropLast = postL (ts ++ [a, b]))) := by
  cases T with
  | rule r =>
    refine ⟨⟨0, r⟩, ?_, .inl ⟨rfl, ?_⟩⟩ <;> rw [postL_append, postL_one] <;> simp [Tm.post]
  | not a =>
    refine ⟨markOf 3, ?_, .inr (.inl ⟨rfl, a, ?_⟩)⟩
    · rw [postL_append, postL_one]; simp [Tm.post, ← List.append_assoc]
    · rw [postL_append, postL_one, postL_append, postL_one]; simp [Tm.post, ← List.append_assoc]
  | two o a b =>
    refine ⟨markOf (if o = true then 2 else 1), ?_, .inr (.inr ⟨by cases o <;> simp [markOf], a, b, ?_⟩)⟩
    · rw [postL_append, postL_one]; simp [Tm.post, ← List.append_assoc]
    · rw [postL_append, postL_one, postL_append]; simp [Tm.post, postL, ← List.append_assoc]
end Go.Proofs.Ytlbblfbiiceofaa

namespace Go.Proofs.Ytlbblfbiiceofaa
open Go.RowKit Go.Shelf
attribute [local go_sem] Oper.semAt_some

/-- the box of a text is as it was -/
def BoxKept (Bs : Nat) (W W' : World) : Prop := W'.cell? ⟨Bs, 0, none⟩ = W.cell? ⟨Bs, 0, none⟩
theorem BoxKept.refl (Bs : Nat) (W : World) : BoxKept Bs W W := rfl
theorem BoxKept.trans {Bs : Nat} {A B C : World} (h : BoxKept Bs A B) (k : BoxKept Bs B C) : BoxKept Bs A C := Eq.trans k h

theorem runs_grow (l : List UInt8) (e : Nat) (pre : List (UInt8 × Nat)) (c : UInt8) (he : e < l.length) (hc : l.getD e 0 = c) (j : Nat) (hj : runsL (l.take e) = pre ++ [(c, j)]) :
    runsL (l.take (e + 1)) = pre ++ [(c, j + 1)] := by
  have e1 : l.take (e + 1) = l.take e ++ [l[e]] := List.take_succ_eq_append_getElem he
  have e2 : l[e] = c := by rw [← hc]; simp [List.getD, he]
  rw [e1, runsL_snoc, e2, hj, snocRun_same]
theorem runs_begin (l : List UInt8) (k : Nat) (pre : List (UInt8 × Nat)) (hk : runsL (l.take k) = pre) (hlt : k < l.length) (hb : ∀ d n, pre.getLast? = some (d, n) → d ≠ l.getD k 0) :
    runsL (l.take (k + 1)) = pre ++ [(l.getD k 0, 1)] := by
  have e1 : l.take (k + 1) = l.take k ++ [l[k]] := List.take_succ_eq_append_getElem hlt
  have e2 : l[k] = l.getD k 0 := by simp [List.getD, hlt]
  rw [e1, runsL_snoc, hk, e2, snocRun_new pre _ hb]

theorem runs_keep (rest : List UInt8) : ∀ (ys : List (UInt8 × Nat)) (p : UInt8 × Nat), ys <+: rest.foldl snocRun (ys ++ [p]) := by
  induction rest with
  | nil => exact fun ys p => List.prefix_append _ _
  | cons c rest ih =>
    intro ys p
    obtain ⟨d, n⟩ := p
    rw [List.foldl_cons, snocRun_eq]
    split
    · exact ih ys _
    · have := ih (ys ++ [(d, n)]) (c, 1)
      rw [List.append_assoc] at this
      exact (List.prefix_append _ _).trans this
theorem runs_prefix (l : List UInt8) (e : Nat) (pre : List (UInt8 × Nat)) (c : UInt8) (j : Nat) (h : runsL (l.take e) = pre ++ [(c, j)]) (hb : e < l.length → c ≠ l.getD e 0) : (pre ++ [(c, j)]) <+: runsL l := by
  have hl : runsL l = (l.drop e).foldl snocRun (pre ++ [(c, j)]) := by
    rw [← h, runsL, runsL, ← List.foldl_append, List.take_append_drop]
  by_cases he : e < l.length
  · have h2 : l.drop e = l[e] :: l.drop (e + 1) := List.drop_eq_getElem_cons he
    have h3 : l.getD e 0 = l[e] := by simp [List.getD, he]
    have h4 := hb he
    rw [h3] at h4
    rw [hl, h2, List.foldl_cons, snocRun_eq, if_neg h4]
    have := runs_keep (l.drop (e + 1)) (pre ++ [(c, j)]) (l[e], 1)
    rw [List.append_assoc] at this
    exact this
  · rw [hl, List.drop_of_length_le (by omega)]
    exact List.prefix_refl _

set_option maxRecDepth 100000 in
set_option maxHeartbeats 2000000 in
theorem runsIn1_in (n : Nat) (hn : 1 ≤ n) (l Bs : Nat) (s : ByteArray) (hs : s.size ≤ 14) (J Jx : List (UInt8 × Nat) → World → Prop)
    (hY : ∀ pre x W, J pre W → pre.length < 15 → YieldAt Fence.wide (n - 1) Try.prog l #[.int .u8 (x.1.toNat : Int), .int .i64 (x.2 : Int)] W fun e W' =>
      (e = .returned (.bool true) ∧ J (pre ++ [x]) W' ∧ BoxKept Bs W W') ∨ (e = .returned (.bool false) ∧ Jx (pre ++ [x]) W'))
    (hJd : ∀ pre A n, J pre A → J pre (World.drewN A n)) (W : World) (hBs : W.cell? ⟨Bs, 0, none⟩ = some (.string s)) (h0 : J [] W) :
    CallsIn Fence.wide n Try.prog 113 #[.func (.yield l) #[] #[], .pointer (some ⟨Bs, 0, none⟩)] W fun e W' => (∃ v, e = .returned v) ∧
      ((∃ ys, ys = runsL s.data.toList ∧ J ys W') ∨ (∃ pre, pre <+: runsL s.data.toList ∧ Jx pre W')) := by
  refine callsIn_of_wp Try.func113 rfl trivial ?_ rfl
  simp only [Try.ntmps113, List.size_toArray, List.length_cons, List.length_nil, Nat.reduceAdd, Nat.reduceSub, Array.replicate_succ, Array.replicate_zero, List.push_toArray, List.append_toArray, List.nil_append, List.cons_append]
  gi_wp2
  gi_loopw [3, 4] (fun i _ wr => ∃ (k : Nat) (pre : List (UInt8 × Nat)), k ≤ s.size ∧ i = .int .i64 k ∧ runsL (s.data.toList.take k) = pre ∧ (k < s.size → ∀ d m, pre.getLast? = some (d, m) → d ≠ s.data.toList.getD k 0) ∧ J pre wr ∧ BoxKept Bs W wr)
    (fun i _ _ => s.size - (intOf i).toNat)
  case atStart => exact ⟨0, [], Nat.zero_le _, rfl, rfl, (fun _ d m h => by cases h), h0, BoxKept.refl _ _⟩
  case round =>
    obtain ⟨k, pre, hk, rfl, hpre, hbd, hJs, hkept⟩ := hrel
    have hbox : wr.cell? ⟨Bs, 0, none⟩ = some (.string s) := Eq.trans hkept hBs
    have HP := Lib.hid hpre
    have HB := Lib.hid hbd
    clear hpre hbd
    by_cases hlt : k < s.size
    · have HN := Lib.hid (runs_begin s.data.toList k pre HP.out (by rw [len_data]; exact hlt) (HB.out hlt))
      have hkb : s.data.toList.getD k 0 = s[k] := (byteAt_eq s k hlt).symm
      rw [hkb] at HN
      clear hkb
      obtain ⟨wo, rfl⟩ : ∃ wo : World, wo = wr := ⟨_, rfl⟩
      gi_wp2
      gi_loopw [4] (fun i wq => ∃ (e : Nat), k + 1 ≤ e ∧ e ≤ s.size ∧ i = .int .i64 e ∧ runsL (s.data.toList.take e) = pre ++ [(s[k], e - k)] ∧ J pre wq ∧ BoxKept Bs W wq)
        (fun i _ => s.size - (intOf i).toNat)
      case atStart => exact ⟨k + 1, Nat.le_refl _, by omega, by go_num, by rw [HN.out, Nat.add_sub_cancel_left], hJs, hkept⟩
      case round =>
        obtain ⟨e, he1, he2, rfl, hre, hJq, hkq⟩ := hrel
        have hboxq : wr.cell? ⟨Bs, 0, none⟩ = some (.string s) := Eq.trans hkq hBs
        have hlen : pre.length < 15 := by rw [← HP.out]; exact Nat.lt_of_le_of_lt (runsL_length _) (by rw [List.length_take, len_data]; omega)
        have HR := Lib.hid hre
        clear hre hbox
        by_cases hel : e < s.size
        · by_cases heq : (s[e] == s[k]) = true
          · have heq' : ((s[e].toNat : Int) == (s[k].toNat : Int)) = true := by rw [u8_beq]; exact heq
            have HQ := Lib.hid (beq_iff_eq.1 heq)
            clear heq
            gi_wp2
            gi_big_quiet_th (fail)
            gi_wp2
            go_roundw
            case rel => exact ⟨e + 1, by omega, by omega, by go_num, by rw [runs_grow s.data.toList e pre s[k] (by rw [len_data]; exact hel) (by rw [← HQ.out]; exact (byteAt_eq s e hel).symm) (e - k) HR.out, show e - k + 1 = e + 1 - k from by omega], hJd _ _ _ hJq, hkq⟩
            case measure => simp [intOf]; omega
          · have heqf : (s[e] == s[k]) = false := by simpa using heq
            have heq' : ((s[e].toNat : Int) == (s[k].toNat : Int)) = false := by rw [u8_beq]; exact heqf
            have HQ : Hid (s[k] ≠ s[e]) := by have : s[k] ≠ s[e] := fun h => heq (by rw [h]; simp)
                                              exact Lib.hid this
            clear heq heqf
            gi_wp2
            gi_big_quiet_th (fail)
            have hJ2 := hJd _ _ nq hJq
            obtain ⟨fn, tmps, assign, body, hy, hR⟩ := hY pre (s[k], e - k) (wr.drewN nq) hJ2 hlen
            dsimp only at hy
            rw [show ((e - k : Nat) : Int) = (e : Int) - k from by omega] at hy
            have hk2 : BoxKept Bs W (wr.drewN nq) := hkq
            clear hJ2
            gi_wp2
            refine hR.mono ?_
            clear hR
            rintro e' W3 (⟨rfl, hJ3, hk3⟩ | ⟨rfl, hJx3⟩)
            · gi_wp2
              go_roundw
              case rel => exact ⟨e, _, he2, rfl, HR.out, (fun h d m hd => by simp at hd; rw [← hd.1]; exact fun h' => HQ.out (h'.trans (byteAt_eq s e hel).symm)), hJ3, hk2.trans hk3⟩
              case measure => simp [intOf]; omega
            · gi_wp2
              refine bodyPost_ret (results_none rfl _ _ _) rfl ?_
              exact ⟨⟨_, rfl⟩, .inr ⟨_, runs_prefix _ e _ _ _ HR.out (fun _ h' => HQ.out (h'.trans (byteAt_eq s e hel).symm)), hJx3⟩⟩
        · gi_wp2
          gi_big_quiet_th (fail)
          have hJ2 := hJd _ _ nq hJq
          obtain ⟨fn, tmps, assign, body, hy, hR⟩ := hY pre (s[k], e - k) (wr.drewN nq) hJ2 hlen
          dsimp only at hy
          rw [show ((e - k : Nat) : Int) = (e : Int) - k from by omega] at hy
          have hk2 : BoxKept Bs W (wr.drewN nq) := hkq
          clear hJ2
          gi_wp2
          refine hR.mono ?_
          clear hR
          rintro e' W3 (⟨rfl, hJ3, hk3⟩ | ⟨rfl, hJx3⟩)
          · gi_wp2
            go_roundw
            case rel => exact ⟨e, _, he2, rfl, HR.out, (fun h => absurd h hel), hJ3, hk2.trans hk3⟩
            case measure => simp [intOf]; omega
          · gi_wp2
            refine bodyPost_ret (results_none rfl _ _ _) rfl ?_
            exact ⟨⟨_, rfl⟩, .inr ⟨_, runs_prefix _ e _ _ _ HR.out (fun h => by rw [len_data] at h; exact absurd h hel), hJx3⟩⟩
    · obtain rfl : k = s.size := by omega
      gi_wp2
      go_end0
      exact ⟨⟨_, rfl⟩, .inl ⟨_, by rw [← HP.out, List.take_of_length_le (Nat.le_of_eq (len_data s))], hJs⟩⟩

/-- what runsIn makes: a box for the text, and the function value over it -/
theorem runsIn_any (s : ByteArray) (w : World) :
    Calls Try.prog 106 #[.string s] w fun e w' => e = .returned (.func (.func 113) #[] #[.pointer (some ⟨w.heap.size, 0, none⟩)]) ∧ w.alloc (.cells #[.string s] 9) = w' := by
  go_enter Try.func106, Try.ntmps106
  go_wp2
  go_ret
  exact ⟨rfl, rfl⟩

theorem runsIn_stops (n : Nat) (hn : 1 ≤ n) (Bs : Nat) (s : ByteArray) (hs : s.size ≤ 14) (w : World) (hB : Bs < w.heap.size) (hc : w.cell? ⟨Bs, 0, none⟩ = some (.string s)) :
    SeqStopsK Fence.wide n Try.prog 113 #[.pointer (some ⟨Bs, 0, none⟩)] (fun x : UInt8 × Nat => #[Value.int .u8 (x.1.toNat : Int), .int .i64 (x.2 : Int)]) (BoxKept Bs) (fun ys => ys = runsL s.data.toList) (fun ys => ys <+: runsL s.data.toList) 15 w := fun l J Jx W hW hJ _ hY h0 => by
  have hc' := (hW.cell (p := ⟨Bs, 0, none⟩) hB).trans hc
  have hJd : ∀ pre A n, J pre A → J pre (World.drewN A n) := fun pre A n h => hJ pre A _ none h ⟨rfl, rfl, rfl, Nat.le_refl _, fun _ _ _ => rfl⟩ (fun r e => by cases e)
  exact runsIn1_in n hn l Bs s hs J Jx hY hJd W hc' h0
end Go.Proofs.Ytlbblfbiiceofaa

namespace Go.Proofs.Ytlbblfbiiceofaa
open Go.RowKit Go.Shelf
attribute [local go_sem] Oper.semAt_some

theorem longestOf_no1 {s t : ByteArray} (h : wordOk s = false) : longestOf s t = -1 := by simp [longestOf, h]
theorem longestOf_no2 {s t : ByteArray} (h : letterOk t = false) : longestOf s t = -1 := by simp [longestOf, h]
theorem longestOf_yes {s t : ByteArray} (h : wordOk s = true) (g : letterOk t = true) : longestOf s t = (longestIn (runsL s.data.toList) (byteAt t 0) : Int) := by simp [longestOf, h, g]

theorem new_cell (W : World) (v : Value) (t : TypeId) : (W.alloc (.cells #[v] t)).cell? ⟨W.heap.size, 0, none⟩ = some v ∧ (W.alloc (.cells #[v] t)).frozen? ⟨W.heap.size, 0, none⟩ = false :=
  ⟨World.cell?_alloc_new W _ t 0, World.frozen?_alloc_new W _ t 0⟩
theorem kept_cell {W : World} {a : Addr} {v : Value} (o : Obj) (h : W.cell? a = some v) : (W.alloc o).cell? a = some v := cell_kept h (World.grownBy_alloc W o none) (fun r e => by cases e)
theorem kept_frozen {W : World} {a : Addr} {v : Value} (o : Obj) (h : W.cell? a = some v) (hf : W.frozen? a = false) : (W.alloc o).frozen? a = false := (frozen_kept h (World.grownBy_alloc W o none) (fun r e => by cases e)).trans hf
theorem boxKept_b {w : World} {Bs : Nat} (hB : Bs < w.heap.size) (W : World) (l : Nat) (o o' : Obj) (hl : w.heap.size ≤ l) (_h : W.heap[l]? = some o) (_hc : o.isCells = false) (_hw : o.isWalk = false) : BoxKept Bs W (W.putObj l o') :=
  World.cell?_of_block (w := W) (World.putObj_heap_other (by show Bs ≠ l; omega))

set_option maxRecDepth 100000 in
set_option maxHeartbeats 2000000 in
theorem implLongestOf_yes (s t : ByteArray) (w : World) (hs : s.size ≤ 14) (ht : t.size = 1) (hw : wordOk s = true) (hg : letterOk t = true) :
    Calls Try.prog 90 #[.string s, .string t] w fun e w' => e = .returned (.int .i64 (longestIn (runsL s.data.toList) (byteAt t 0) : Int)) ∧ Below w.heap.size w w' := by
  have hsm : s.size ≤ maxLen := by unfold maxLen; omega
  have htm : t.size ≤ maxLen := by unfold maxLen; omega
  have h0 : 0 < t.size := by omega
  have HT := Lib.hid (byteAt_eq t 0 h0)
  refine (callsIn_wide (n := 3)).1 ?_
  refine callsIn_of_wp_marks Try.func90 rfl trivial ?_ rfl
  simp only [Try.ntmps90, List.size_toArray, List.length_cons, List.length_nil, Nat.reduceAdd, Nat.reduceSub, Array.replicate_succ, Array.replicate_zero, List.push_toArray, List.append_toArray, List.nil_append, List.cons_append]
  gi_wp2_with (first | (refine ⟨trivial, ?_⟩; gi_at_call 56; refine (callsIn_wide.2 (implWordOk_any _ _ hsm)).mono ?_; rintro e w' ⟨rfl, rfl⟩) | (refine ⟨trivial, ?_⟩; gi_at_call 62; refine (callsIn_wide.2 (implLetterOk_any _ _ htm)).mono ?_; rintro e w' ⟨rfl, rfl⟩) | (refine ⟨trivial, ?_⟩; gi_at_call 106; refine (callsIn_wide.2 (runsIn_any _ _)).mono ?_; rintro e w' ⟨rfl, rfl⟩))
  have c0 := new_cell w (.string t) 9
  have c1 := new_cell (w.alloc (.cells #[.string t] 9)) (.int .i64 0) 3
  have c2 := new_cell ((w.alloc (.cells #[.string t] 9)).alloc (.cells #[.int .i64 0] 3)) (.string s) 9
  simp only [World.size_alloc] at c1 c2
  have hB0 : Below w.heap.size w (((w.alloc (.cells #[.string t] 9)).alloc (.cells #[.int .i64 0] 3)).alloc (.cells #[.string s] 9)) := (((Below.refl _ w).alloc (Nat.le_refl _) _).alloc (by simp) _).alloc (by simp; omega) _
  refine wpIn_rangeFunc_ownF rfl (by omega) (gf := 113) (lb := #[.pointer (some ⟨w.heap.size + 1 + 1, 0, none⟩)]) rfl trivial (enters_of Try.func113 (by kernel_rfl) rfl)
    (runsIn_stops (3 - 1) (by omega) (w.heap.size + 1 + 1) s hs _ (by simp) c2.1) (fun h k => BoxKept.trans h k) (boxKept_b (by simp)) (Below.refl _ _) (fun _ => rfl)
    (fun pre W => (W.cell? ⟨w.heap.size, 0, none⟩ = some (.string t) ∧ W.cell? ⟨w.heap.size + 1, 0, none⟩ = some (.int .i64 (longestIn pre t[0] : Int)) ∧ W.frozen? ⟨w.heap.size + 1, 0, none⟩ = false) ∧ Below w.heap.size w W)
    (fun _ _ _ => False)
    (OwnFrom.and (Own.from (fun z A B row hs hg hr => ⟨cell_kept hs.1 hg hr, cell_kept hs.2.1 hg hr, (frozen_kept hs.2.1 hg hr).trans hs.2.2⟩) _) (ownFrom_below (Nat.le_refl _) (by simp; omega)))
    (fun _ _ _ _ _ hs _ _ => hs)
    ⟨⟨kept_cell _ (kept_cell _ c0.1), kept_cell _ c1.1, kept_frozen _ c1.1 c1.2⟩, hB0⟩
    (fun x => { tmps := #[.string s, .string t, undef, .pointer (some ⟨w.heap.size, 0, none⟩), .int .i64 0, .pointer (some ⟨w.heap.size + 1, 0, none⟩), .int .u8 (x.1.toNat : Int), .int .i64 (x.2 : Int), .string s, .bool true, .bool false, .bool false, .string t, .bool true, .bool false, .bool false, .string s, .func (.func 113) #[] #[.pointer (some ⟨w.heap.size + 1 + 1, 0, none⟩)], .int .u8 (x.1.toNat : Int), .int .i64 (x.2 : Int), undef, undef, undef, undef, undef, undef, undef, undef], defers := [] }) ?assign ?body ?done ?stop
  case assign =>
    intro l x W K hK
    gi_wp2
    exact hK
  case body =>
    rintro l pre x W ⟨⟨hc, hm, hf⟩, hB⟩ _
    have HS := Lib.hid (longestIn_snoc pre x t[0])
    by_cases heq : x.1 = t[0]
    · have heq' : ((x.1.toNat : Int) == (t[0].toNat : Int)) = true := by rw [heq]; simp
      have HQ := Lib.hid heq
      clear heq
      gi_wp2
      refine ⟨KeepsOthers.setCell _ _ _, ?_, ⟨?_, ?_, ?_⟩, hB.setCell (p := ⟨w.heap.size + 1, 0, none⟩) (by simp) _⟩
      · exact World.cell?_setCell_other _ _ _ _ (by simp)
      · rw [World.cell?_setCell_other _ _ _ _ (by simp)]; exact hc
      · rw [HS.out, if_pos HQ.out, World.cell?_setCell_same' _ _ _ (by rw [hm]; rfl)]
        congr 2
        omega
      · rw [World.frozen?_setCell]; exact hf
    · have heq' : ((x.1.toNat : Int) == (t[0].toNat : Int)) = false := by rw [u8_beq]; simpa using heq
      have HQ := Lib.hid heq
      clear heq
      gi_wp2
      exact ⟨KeepsOthers.refl _, BoxKept.refl _ _, ⟨hc, by rw [HS.out, if_neg HQ.out]; exact hm, hf⟩, hB⟩
  case done =>
    rintro D ys W hD rfl ⟨⟨hc, hm, hf⟩, hB⟩ hK
    gi_wp2
    refine ⟨by simp, .inl ⟨_, _, rfl, run_takeDeferred hK, ?_⟩⟩
    refine ⟨_, results_tmp rfl _ _ _, ?_, ?_⟩
    · show Ending.returned (.int .i64 (longestIn (runsL s.data.toList) t[0] : Int)) = _
      rw [HT.out]
    · exact hB.trans (belowK_b (w := w) (Nat.le_refl _) W D _ _ (by simp at hD; omega) hK rfl rfl)
  case stop =>
    rintro D c pre W _ _ h _
    exact h.elim

theorem implLongestOf_any (s t : ByteArray) (w : World) (hs : s.size ≤ maxLen) (ht : t.size ≤ maxLen) :
    Calls Try.prog 90 #[.string s, .string t] w fun e w' => e = .returned (.int .i64 (longestOf s t)) ∧ Below w.heap.size w w' := by
  by_cases hw : wordOk s = true
  · by_cases hg : letterOk t = true
    · rw [longestOf_yes hw hg]
      exact implLongestOf_yes s t w (wordOk_size hw) (letterOk_size hg) hw hg
    · have hg' : letterOk t = false := by simpa using hg
      have HE := Lib.hid (longestOf_no2 (s := s) hg')
      clear hg
      go_enter Try.func90, Try.ntmps90
      go_wp2_with (first | (go_at_call 56; refine (implWordOk_any _ _ hs).mono ?_; rintro e w' ⟨rfl, rfl⟩) | (go_at_call 62; refine (implLetterOk_any _ _ ht).mono ?_; rintro e w' ⟨rfl, rfl⟩))
      go_ret
      exact ⟨ret_int HE.out.symm, (Below.refl _ _).alloc (Nat.le_refl _) _⟩
  · have hw' : wordOk s = false := by simpa using hw
    have HE := Lib.hid (longestOf_no1 (t := t) hw')
    clear hw
    go_enter Try.func90, Try.ntmps90
    go_wp2_with (first | (go_at_call 56; refine (implWordOk_any _ _ hs).mono ?_; rintro e w' ⟨rfl, rfl⟩) | (go_at_call 62; refine (implLetterOk_any _ _ ht).mono ?_; rintro e w' ⟨rfl, rfl⟩))
    go_ret
    exact ⟨ret_int HE.out.symm, (Below.refl _ _).alloc (Nat.le_refl _) _⟩

/-- the runs of the first letters -/
def runsTo (s : ByteArray) (k : Nat) : List (UInt8 × Nat) := runsL (s.data.toList.take k)
theorem runsTo_succ (s : ByteArray) (k : Nat) (h : k < s.size) : runsTo s (k + 1) = snocRun (runsTo s k) s[k] := by
  unfold runsTo; rw [take_snoc s k h, runsL_snoc]
theorem runsTo_all (s : ByteArray) : runsTo s s.size = runsL s.data.toList := by
  unfold runsTo; rw [List.take_of_length_le (Nat.le_of_eq (len_data s))]
theorem runsTo_bd (s : ByteArray) (k : Nat) (c : UInt8) : nowIn (runsTo s k) c ≤ k ∧ longestIn (runsTo s k) c ≤ k := by
  have h1 := now_le (runsTo s k) c
  have h2 := longestIn_le (runsTo s k) c
  have h3 := runsL_sum (s.data.toList.take k)
  have h4 : (s.data.toList.take k).length ≤ k := List.length_take_le _ _
  unfold runsTo at *
  omega

set_option maxHeartbeats 800000 in
theorem specLongestOf_any (s t : ByteArray) (w : World) (hs : s.size ≤ maxLen) :
    Calls Try.prog 111 #[.string s, .string t] w fun e w' => e = .returned (.int .i64 (longestOf s t)) ∧ Below w.heap.size w w' := by
  by_cases hw : wordOk s = true
  · by_cases hg : letterOk t = true
    · have h14 := wordOk_size hw
      have h1 : 0 < t.size := by rw [letterOk_size hg]; omega
      have HE := Lib.hid (longestOf_yes hw hg)
      go_enter Try.func111, Try.ntmps111
      go_wp2_with (first | (go_at_call 58; refine (specWordOk_any _ _ hs).mono ?_; rintro e w' ⟨rfl, rfl⟩) | (go_at_call 87; refine (specLetterOk_any _ _).mono ?_; rintro e w' ⟨rfl, rfl⟩))
      go_loopw [5, 6, 7] (fun b n i w' => ∃ k : Nat, k ≤ s.size ∧ i = .int .i64 k ∧ b = .int .i64 (longestIn (runsTo s k) t[0] : Int) ∧ n = .int .i64 (nowIn (runsTo s k) t[0] : Int) ∧ Below w.heap.size w w') (fun _ _ i _ => s.size - (intOf i).toNat)
      case atStart => exact ⟨0, Nat.zero_le _, rfl, rfl, rfl, Below.refl _ _⟩
      case round =>
        obtain ⟨k, hk, rfl, rfl, rfl, hbel⟩ := hrel
        obtain ⟨hbd1, hbd2⟩ := runsTo_bd s k t[0]
        by_cases hlt : k < s.size
        · have HS := Lib.hid (runsTo_succ s k hlt)
          by_cases hb : s[k] = t[0]
          · have hb' : ((s[k].toNat : Int) == (t[0].toNat : Int)) = true := by rw [u8_beq]; simpa using hb
            have HH := Lib.hid (snoc_hit (runsTo s k) t[0])
            have HB := Lib.hid hb
            clear hb
            go_wp2
            go_quiet (fail)
            go_wp2
            go_roundw
            case rel => exact ⟨k + 1, by omega, by go_num, by rw [HS.out, HB.out, HH.out.2]; first | rfl | (congr 1; omega), by rw [HS.out, HB.out, HH.out.1]; go_num, below_drewN hbel _⟩
            case measure => simp [intOf]; omega
          · have hb' : ((s[k].toNat : Int) == (t[0].toNat : Int)) = false := by rw [u8_beq]; simpa using hb
            have HH := Lib.hid (snoc_miss (runsTo s k) t[0] s[k] hb)
            have HB := Lib.hid hb
            clear hb
            go_wp2
            go_quiet (fail)
            go_wp2
            go_roundw
            case rel => exact ⟨k + 1, by omega, by go_num, by rw [HS.out, HH.out.2]; (try (congr 1; omega)), by rw [HS.out, HH.out.1]; (try rfl), below_drewN hbel _⟩
            case measure => simp [intOf]; omega
        · obtain rfl : k = s.size := by omega
          have HA := Lib.hid (runsTo_all s)
          go_wp2
          go_ret
          exact ⟨ret_int (by rw [HE.out, byteAt_eq t 0 h1, HA.out]), hbel⟩
    · have hg' : letterOk t = false := by simpa using hg
      have HE := Lib.hid (longestOf_no2 (s := s) hg')
      clear hg
      go_enter Try.func111, Try.ntmps111
      go_wp2_with (first | (go_at_call 58; refine (specWordOk_any _ _ hs).mono ?_; rintro e w' ⟨rfl, rfl⟩) | (go_at_call 87; refine (specLetterOk_any _ _).mono ?_; rintro e w' ⟨rfl, rfl⟩))
      go_ret
      exact ⟨ret_int HE.out.symm, Below.refl _ _⟩
  · have hw' : wordOk s = false := by simpa using hw
    have HE := Lib.hid (longestOf_no1 (t := t) hw')
    clear hw
    go_enter Try.func111, Try.ntmps111
    go_wp2_with (first | (go_at_call 58; refine (specWordOk_any _ _ hs).mono ?_; rintro e w' ⟨rfl, rfl⟩) | (go_at_call 87; refine (specLetterOk_any _ _).mono ?_; rintro e w' ⟨rfl, rfl⟩))
    go_ret
    exact ⟨ret_int HE.out.symm, Below.refl _ _⟩
end Go.Proofs.Ytlbblfbiiceofaa

namespace Go.Proofs.Ytlbblfbiiceofaa
open Go.RowKit Go.Shelf
attribute [local go_sem] Oper.semAt_some

set_option maxRecDepth 100000 in
set_option maxHeartbeats 2000000 in
theorem runsLongOk_any (s : ByteArray) (c : UInt8) (n : Int) (w : World) (hs : s.size ≤ 14) :
    Calls Try.prog 91 #[.string s, .int .u8 (c.toNat : Int), .int .i64 n] w fun e w' => e = .returned (.bool (longAll (runsL s.data.toList) c n)) ∧ Below w.heap.size w w' := by
  refine (callsIn_wide (n := 3)).1 ?_
  refine callsIn_of_wp_marks Try.func91 rfl trivial ?_ rfl
  simp only [Try.ntmps91, List.size_toArray, List.length_cons, List.length_nil, Nat.reduceAdd, Nat.reduceSub, Array.replicate_succ, Array.replicate_zero, List.push_toArray, List.append_toArray, List.nil_append, List.cons_append]
  gi_wp2_with (refine ⟨trivial, ?_⟩; gi_at_call 106; refine (callsIn_wide.2 (runsIn_any _ _)).mono ?_; rintro e w' ⟨rfl, rfl⟩)
  have c0 := new_cell w (.int .u8 (c.toNat : Int)) 5
  have c1 := new_cell (w.alloc (.cells #[.int .u8 (c.toNat : Int)] 5)) (.int .i64 n) 3
  have c2 := new_cell ((w.alloc (.cells #[.int .u8 (c.toNat : Int)] 5)).alloc (.cells #[.int .i64 n] 3)) (.bool false) 4
  have c3 := new_cell (((w.alloc (.cells #[.int .u8 (c.toNat : Int)] 5)).alloc (.cells #[.int .i64 n] 3)).alloc (.cells #[.bool false] 4)) (.string s) 9
  simp only [World.size_alloc] at c1 c2 c3
  have hB0 : Below w.heap.size w ((((w.alloc (.cells #[.int .u8 (c.toNat : Int)] 5)).alloc (.cells #[.int .i64 n] 3)).alloc (.cells #[.bool false] 4)).alloc (.cells #[.string s] 9)) := ((((Below.refl _ w).alloc (Nat.le_refl _) _).alloc (by simp) _).alloc (by simp; omega) _).alloc (by simp; omega) _
  refine wpIn_rangeFunc_ownF rfl (by omega) (gf := 113) (lb := #[.pointer (some ⟨w.heap.size + 1 + 1 + 1, 0, none⟩)]) rfl trivial (enters_of Try.func113 (by kernel_rfl) rfl)
    (runsIn_stops (3 - 1) (by omega) (w.heap.size + 1 + 1 + 1) s hs _ (by simp) c3.1) (fun h k => BoxKept.trans h k) (boxKept_b (by simp)) (Below.refl _ _) (fun _ => rfl)
    (fun pre W => (W.cell? ⟨w.heap.size, 0, none⟩ = some (.int .u8 (c.toNat : Int)) ∧ W.cell? ⟨w.heap.size + 1, 0, none⟩ = some (.int .i64 n) ∧ W.cell? ⟨w.heap.size + 1 + 1, 0, none⟩ = some (.bool false) ∧ W.frozen? ⟨w.heap.size + 1 + 1, 0, none⟩ = false) ∧ longAll pre c n = true ∧ Below w.heap.size w W)
    (fun cd pre W => (cd = Code.ret ∧ W.cell? ⟨w.heap.size + 1 + 1, 0, none⟩ = some (.bool false)) ∧ longAll pre c n = false ∧ Below w.heap.size w W)
    (OwnFrom.and (Own.from (fun z A B row hs hg hr => ⟨cell_kept hs.1 hg hr, cell_kept hs.2.1 hg hr, cell_kept hs.2.2.1 hg hr, (frozen_kept hs.2.2.1 hg hr).trans hs.2.2.2⟩) _) (OwnFrom.and (fun _ _ _ _ hs _ _ => hs) (ownFrom_below (Nat.le_refl _) (by simp; omega))))
    (fun cd => OwnFrom.and (Own.from (fun z A B row hs hg hr => ⟨hs.1, cell_kept hs.2 hg hr⟩) _) (OwnFrom.and (fun _ _ _ _ hs _ _ => hs) (ownFrom_below (Nat.le_refl _) (by simp; omega))))
    ⟨⟨kept_cell _ (kept_cell _ (kept_cell _ c0.1)), kept_cell _ (kept_cell _ c1.1), kept_cell _ c2.1, kept_frozen _ c2.1 c2.2⟩, rfl, hB0⟩
    (fun x => { tmps := #[.string s, .int .u8 (c.toNat : Int), .int .i64 n, undef, .pointer (some ⟨w.heap.size, 0, none⟩), .pointer (some ⟨w.heap.size + 1, 0, none⟩), .pointer (some ⟨w.heap.size + 1 + 1, 0, none⟩), .int .u8 (x.1.toNat : Int), .int .i64 (x.2 : Int), .string s, .func (.func 113) #[] #[.pointer (some ⟨w.heap.size + 1 + 1 + 1, 0, none⟩)], .int .u8 (x.1.toNat : Int), .int .i64 (x.2 : Int), undef, undef, undef, undef, undef, undef, undef, undef], defers := [] }) ?assign ?body ?done ?stop
  case assign =>
    intro l x W K hK
    gi_wp2
    exact hK
  case body =>
    rintro l pre x W ⟨⟨hc, hn, hr, hf⟩, hA, hB⟩ _
    have HS := Lib.hid (longAll_snoc pre x c n)
    have HA := Lib.hid hA
    clear hA
    by_cases heq : x.1 = c
    · by_cases hlt : (x.2 : Int) < n
      · have heq' : ((x.1.toNat : Int) == (c.toNat : Int)) = true := by rw [heq]; simp
        have HF : Hid (longAll (pre ++ [x]) c n = false) := by
          have : longAll (pre ++ [x]) c n = false := by rw [HS.out, HA.out, heq]; simp; omega
          exact Lib.hid this
        clear heq
        gi_wp2
        refine ⟨KeepsOthers.setCell _ _ _, ⟨rfl, World.cell?_setCell_same' _ _ _ (by rw [hr]; rfl)⟩, HF.out, hB.setCell (p := ⟨w.heap.size + 1 + 1, 0, none⟩) (by show _ ≤ w.heap.size + 1 + 1; omega) _⟩
      · have heq' : ((x.1.toNat : Int) == (c.toNat : Int)) = true := by rw [heq]; simp
        have HF : Hid (longAll (pre ++ [x]) c n = true) := by
          have : longAll (pre ++ [x]) c n = true := by rw [HS.out, HA.out, heq]; simp; omega
          exact Lib.hid this
        clear heq
        gi_wp2
        exact ⟨KeepsOthers.refl _, BoxKept.refl _ _, ⟨hc, hn, hr, hf⟩, HF.out, hB⟩
    · have heq' : ((x.1.toNat : Int) == (c.toNat : Int)) = false := by rw [u8_beq]; simpa using heq
      have HF : Hid (longAll (pre ++ [x]) c n = true) := by
        have : longAll (pre ++ [x]) c n = true := by rw [HS.out, HA.out]; simp [heq]
        exact Lib.hid this
      clear heq
      gi_wp2
      exact ⟨KeepsOthers.refl _, BoxKept.refl _ _, ⟨hc, hn, hr, hf⟩, HF.out, hB⟩
  case done =>
    rintro D ys W hD rfl ⟨⟨hc, hn, hr, hf⟩, hA, hB⟩ hK
    have HA := Lib.hid hA
    clear hA c0 c1 c2 c3 hB0
    simp only [World.size_alloc] at hD
    gi_wp2
    have hr2 : (W.setCell ⟨w.heap.size + 1 + 1, 0, none⟩ (.bool true)).cell? ⟨w.heap.size + 1 + 1, 0, none⟩ = some (.bool true) := World.cell?_setCell_same' _ _ _ (by rw [hr]; rfl)
    have hK2 : (W.setCell ⟨w.heap.size + 1 + 1, 0, none⟩ (.bool true)).heap[D]? = some (.deferred (some [])) := (Below.heap_setCell W ⟨w.heap.size + 1 + 1, 0, none⟩ (.bool true) D (by show D ≠ w.heap.size + 1 + 1; omega)).trans hK
    have hB2 := hB.setCell (p := ⟨w.heap.size + 1 + 1, 0, none⟩) (by show _ ≤ w.heap.size + 1 + 1; omega) (.bool true)
    generalize W.setCell ⟨w.heap.size + 1 + 1, 0, none⟩ (.bool true) = W2 at *
    refine ⟨by simp, .inl ⟨_, _, rfl, run_takeDeferred hK2, ?_⟩⟩
    have hr3 : (W2.putObj D (.deferred none)).cell? ⟨w.heap.size + 1 + 1, 0, none⟩ = some (.bool true) := (World.cell?_of_block (w := W2) (World.putObj_heap_other (by show w.heap.size + 1 + 1 ≠ D; omega))).trans hr2
    refine ⟨.bool true, ?_, by rw [HA.out], hB2.trans (belowK_b (w := w) (Nat.le_refl _) W2 D _ _ (by omega) hK2 rfl rfl)⟩
    simp [results, Try.results91, go_sem, hr3]
  case stop =>
    rintro D cd pre W hD hpre ⟨⟨rfl, hr⟩, hA, hB⟩ hK
    have HF : Hid (longAll (runsL s.data.toList) c n = false) := by
      obtain ⟨t, ht⟩ := hpre
      have : longAll (runsL s.data.toList) c n = false := by rw [← ht, longAll, List.all_append]; rw [longAll] at hA; rw [hA]; rfl
      exact Lib.hid this
    clear hA c0 c1 c2 c3 hB0
    simp only [World.size_alloc] at hD
    gi_wp2
    refine ⟨by simp, .inl ⟨_, _, rfl, run_takeDeferred hK, ?_⟩⟩
    have hr3 : (W.putObj D (.deferred none)).cell? ⟨w.heap.size + 1 + 1, 0, none⟩ = some (.bool false) := (World.cell?_of_block (w := W) (World.putObj_heap_other (by show w.heap.size + 1 + 1 ≠ D; omega))).trans hr
    refine ⟨.bool false, ?_, by rw [HF.out], hB.trans (belowK_b (w := w) (Nat.le_refl _) W D _ _ (by omega) hK rfl rfl)⟩
    simp [results, Try.results91, go_sem, hr3]
end Go.Proofs.Ytlbblfbiiceofaa

namespace Go.Proofs.Ytlbblfbiiceofaa
open Go.RowKit

theorem letterOk_no {t : ByteArray} (h : letterOk t = false) (kind : Int) (thn : ByteArray) (many : Int) : (Ru.mk kind t thn many).ok = false := by simp [Ru.ok, h]

/-- the six ways of a kind -/
theorem kind_cases (k : Int) : k = 0 ∨ k = 1 ∨ k = 2 ∨ k = 3 ∨ k = 4 ∨ ((k == 0) = false ∧ (k == 1) = false ∧ (k == 2) = false ∧ (k == 3) = false ∧ (k == 4) = false) := by
  simp only [beq_eq_false_iff_ne]
  omega

theorem results_t3 {fn : Func} {t u v : Tmp} (h : fn.results = #[.tmp t, .tmp u, .tmp v]) (tmps : Array Value) (P : Program) (w : World) : (results fn tmps).run P w = .ok (.tuple #[tmps.getD t undef, tmps.getD u undef, tmps.getD v undef]) w := by
  simp [results, h]
def boundsK (kind : Int) : Int × Int × Bool := if kind = 0 then (0, 4, true) else if kind = 1 then (2, 4, true) else if kind = 3 then (0, 5, true) else if kind = 4 then (1, 5, true) else (0, 0, false)
theorem bounds_any (kind : Int) (w : World) :
    Calls Try.prog 105 #[.int .i64 kind] w fun e w' => e = .returned (.tuple #[.int .i64 (boundsK kind).1, .int .i64 (boundsK kind).2.1, .bool (boundsK kind).2.2]) ∧ w = w' := by
  rcases kind_cases kind with rfl | rfl | rfl | rfl | rfl | ⟨h0, h1, h2, h3, h4⟩
  · go_enter Try.func105, Try.ntmps105
    go_wp2
    refine bodyPost_ret (results_t3 rfl _ _ _) rfl ?_
    exact ⟨rfl, rfl⟩
  · go_enter Try.func105, Try.ntmps105
    go_wp2
    refine bodyPost_ret (results_t3 rfl _ _ _) rfl ?_
    exact ⟨rfl, rfl⟩
  · go_enter Try.func105, Try.ntmps105
    go_wp2
    refine bodyPost_ret (results_t3 rfl _ _ _) rfl ?_
    exact ⟨rfl, rfl⟩
  · go_enter Try.func105, Try.ntmps105
    go_wp2
    refine bodyPost_ret (results_t3 rfl _ _ _) rfl ?_
    exact ⟨rfl, rfl⟩
  · go_enter Try.func105, Try.ntmps105
    go_wp2
    refine bodyPost_ret (results_t3 rfl _ _ _) rfl ?_
    exact ⟨rfl, rfl⟩
  · have e : boundsK kind = (0, 0, false) := by
      simp only [beq_eq_false_iff_ne] at h0 h1 h3 h4
      simp [boundsK, h0, h1, h3, h4]
    rw [e]
    clear e
    go_enter Try.func105, Try.ntmps105
    go_wp2
    refine bodyPost_ret (results_t3 rfl _ _ _) rfl ?_
    exact ⟨rfl, rfl⟩

theorem toList_ne {t : ByteArray} (h : ¬ t = ⟨#[]⟩) : ¬ t.toList = [] := fun e => h (bytes_ext (by rw [← ByteArray.toList_eq, e]))
theorem bounds_0 (w : World) : Calls Try.prog 105 #[.int .i64 0] w fun e w' => e = .returned (.tuple #[.int .i64 0, .int .i64 4, .bool true]) ∧ w = w' := bounds_any 0 w
theorem bounds_1 (w : World) : Calls Try.prog 105 #[.int .i64 1] w fun e w' => e = .returned (.tuple #[.int .i64 2, .int .i64 4, .bool true]) ∧ w = w' := bounds_any 1 w
theorem bounds_3 (w : World) : Calls Try.prog 105 #[.int .i64 3] w fun e w' => e = .returned (.tuple #[.int .i64 0, .int .i64 5, .bool true]) ∧ w = w' := bounds_any 3 w
theorem bounds_4 (w : World) : Calls Try.prog 105 #[.int .i64 4] w fun e w' => e = .returned (.tuple #[.int .i64 1, .int .i64 5, .bool true]) ∧ w = w' := bounds_any 4 w

set_option maxHeartbeats 1600000 in
theorem implRuleOk_any (kind : Int) (letter thn : ByteArray) (many : Int) (w : World) (h1 : letter.size ≤ maxLen) (h2 : thn.size ≤ maxLen) :
    Calls Try.prog 89 #[.agg #[.int .i64 kind, .string letter, .string thn, .int .i64 many]] w
      fun e w' => e = .returned (.bool (Ru.mk kind letter thn many).ok) ∧ Below w.heap.size w w' := by
  by_cases hl : letterOk letter = true
  · by_cases hk : kind = 2
    · subst hk
      by_cases ht : letterOk thn = true
      · have HE : Hid ((Ru.mk 2 letter thn many).ok = (many == 0)) := by
          have : (Ru.mk 2 letter thn many).ok = (many == 0) := by simp [Ru.ok, hl, ht]; rfl
          exact Lib.hid this
        go_enter Try.func89, Try.ntmps89
        go_wp2_with (go_at_call 62; refine (implLetterOk_any _ _ (by assumption)).mono ?_; rintro e w' ⟨rfl, rfl⟩)
        go_ret
        exact ⟨ret_bool HE.out.symm, (Below.refl _ _).alloc (Nat.le_refl _) _⟩
      · have ht' : letterOk thn = false := by simpa using ht
        have HE : Hid ((Ru.mk 2 letter thn many).ok = false) := by
          have : (Ru.mk 2 letter thn many).ok = false := by simp [Ru.ok, ht']
          exact Lib.hid this
        clear ht
        go_enter Try.func89, Try.ntmps89
        go_wp2_with (go_at_call 62; refine (implLetterOk_any _ _ (by assumption)).mono ?_; rintro e w' ⟨rfl, rfl⟩)
        go_ret
        exact ⟨ret_bool HE.out.symm, (Below.refl _ _).alloc (Nat.le_refl _) _⟩
    · rcases kind_cases kind with rfl | rfl | rfl | rfl | rfl | ⟨k0, k1, k2, k3, k4⟩
      · by_cases ht : thn = ⟨#[]⟩
        · subst ht
          by_cases ha : (0 : Int) ≤ many
          · by_cases hb : many ≤ (4 : Int)
            · have HE : Hid ((Ru.mk 0 letter ⟨#[]⟩ many).ok = true) := by
                have : (Ru.mk 0 letter ⟨#[]⟩ many).ok = true := by simp [Ru.ok, hl, noThen, inB, ha, hb]
                exact Lib.hid this
              go_enter Try.func89, Try.ntmps89
              go_wp2_with (first | (go_at_call 62; refine (implLetterOk_any _ _ (by assumption)).mono ?_; rintro e w' ⟨rfl, rfl⟩) | (go_at_call 105; refine (bounds_0 _).mono ?_; rintro e w' ⟨rfl, rfl⟩))
              go_ret
              exact ⟨ret_bool HE.out.symm, (Below.refl _ _).alloc (Nat.le_refl _) _⟩
            · have HE : Hid ((Ru.mk 0 letter ⟨#[]⟩ many).ok = false) := by
                have : (Ru.mk 0 letter ⟨#[]⟩ many).ok = false := by simp [Ru.ok, hl, noThen, inB, ha, hb]
                exact Lib.hid this
              go_enter Try.func89, Try.ntmps89
              go_wp2_with (first | (go_at_call 62; refine (implLetterOk_any _ _ (by assumption)).mono ?_; rintro e w' ⟨rfl, rfl⟩) | (go_at_call 105; refine (bounds_0 _).mono ?_; rintro e w' ⟨rfl, rfl⟩))
              go_ret
              exact ⟨ret_bool (by rw [HE.out]; simp; omega), (Below.refl _ _).alloc (Nat.le_refl _) _⟩
          · have HE : Hid ((Ru.mk 0 letter ⟨#[]⟩ many).ok = false) := by
              have : (Ru.mk 0 letter ⟨#[]⟩ many).ok = false := by simp [Ru.ok, noThen, inB, ha]
              exact Lib.hid this
            go_enter Try.func89, Try.ntmps89
            go_wp2_with (first | (go_at_call 62; refine (implLetterOk_any _ _ (by assumption)).mono ?_; rintro e w' ⟨rfl, rfl⟩) | (go_at_call 105; refine (bounds_0 _).mono ?_; rintro e w' ⟨rfl, rfl⟩))
            go_ret
            exact ⟨ret_bool HE.out.symm, (Below.refl _ _).alloc (Nat.le_refl _) _⟩
        · have ht' := toList_ne ht
          have HE : Hid ((Ru.mk 0 letter thn many).ok = false) := by
            have : (Ru.mk 0 letter thn many).ok = false := by simp [Ru.ok, noThen, ht]
            exact Lib.hid this
          go_enter Try.func89, Try.ntmps89
          go_wp2_with (first | (go_at_call 62; refine (implLetterOk_any _ _ (by assumption)).mono ?_; rintro e w' ⟨rfl, rfl⟩) | (go_at_call 105; refine (bounds_0 _).mono ?_; rintro e w' ⟨rfl, rfl⟩))
          go_ret
          exact ⟨ret_bool HE.out.symm, (Below.refl _ _).alloc (Nat.le_refl _) _⟩
      · by_cases ht : thn = ⟨#[]⟩
        · subst ht
          by_cases ha : (2 : Int) ≤ many
          · by_cases hb : many ≤ (4 : Int)
            · have HE : Hid ((Ru.mk 1 letter ⟨#[]⟩ many).ok = true) := by
                have : (Ru.mk 1 letter ⟨#[]⟩ many).ok = true := by simp [Ru.ok, hl, noThen, inB, ha, hb]
                exact Lib.hid this
              go_enter Try.func89, Try.ntmps89
              go_wp2_with (first | (go_at_call 62; refine (implLetterOk_any _ _ (by assumption)).mono ?_; rintro e w' ⟨rfl, rfl⟩) | (go_at_call 105; refine (bounds_1 _).mono ?_; rintro e w' ⟨rfl, rfl⟩))
              go_ret
              exact ⟨ret_bool HE.out.symm, (Below.refl _ _).alloc (Nat.le_refl _) _⟩
            · have HE : Hid ((Ru.mk 1 letter ⟨#[]⟩ many).ok = false) := by
                have : (Ru.mk 1 letter ⟨#[]⟩ many).ok = false := by simp [Ru.ok, hl, noThen, inB, ha, hb]
                exact Lib.hid this
              go_enter Try.func89, Try.ntmps89
              go_wp2_with (first | (go_at_call 62; refine (implLetterOk_any _ _ (by assumption)).mono ?_; rintro e w' ⟨rfl, rfl⟩) | (go_at_call 105; refine (bounds_1 _).mono ?_; rintro e w' ⟨rfl, rfl⟩))
              go_ret
              exact ⟨ret_bool (by rw [HE.out]; simp; omega), (Below.refl _ _).alloc (Nat.le_refl _) _⟩
          · have HE : Hid ((Ru.mk 1 letter ⟨#[]⟩ many).ok = false) := by
              have : (Ru.mk 1 letter ⟨#[]⟩ many).ok = false := by simp [Ru.ok, noThen, inB, ha]
              exact Lib.hid this
            go_enter Try.func89, Try.ntmps89
            go_wp2_with (first | (go_at_call 62; refine (implLetterOk_any _ _ (by assumption)).mono ?_; rintro e w' ⟨rfl, rfl⟩) | (go_at_call 105; refine (bounds_1 _).mono ?_; rintro e w' ⟨rfl, rfl⟩))
            go_ret
            exact ⟨ret_bool HE.out.symm, (Below.refl _ _).alloc (Nat.le_refl _) _⟩
        · have ht' := toList_ne ht
          have HE : Hid ((Ru.mk 1 letter thn many).ok = false) := by
            have : (Ru.mk 1 letter thn many).ok = false := by simp [Ru.ok, noThen, ht]
            exact Lib.hid this
          go_enter Try.func89, Try.ntmps89
          go_wp2_with (first | (go_at_call 62; refine (implLetterOk_any _ _ (by assumption)).mono ?_; rintro e w' ⟨rfl, rfl⟩) | (go_at_call 105; refine (bounds_1 _).mono ?_; rintro e w' ⟨rfl, rfl⟩))
          go_ret
          exact ⟨ret_bool HE.out.symm, (Below.refl _ _).alloc (Nat.le_refl _) _⟩
      · exact absurd rfl hk
      · by_cases ht : thn = ⟨#[]⟩
        · subst ht
          by_cases ha : (0 : Int) ≤ many
          · by_cases hb : many ≤ (5 : Int)
            · have HE : Hid ((Ru.mk 3 letter ⟨#[]⟩ many).ok = true) := by
                have : (Ru.mk 3 letter ⟨#[]⟩ many).ok = true := by simp [Ru.ok, hl, noThen, inB, ha, hb]
                exact Lib.hid this
              go_enter Try.func89, Try.ntmps89
              go_wp2_with (first | (go_at_call 62; refine (implLetterOk_any _ _ (by assumption)).mono ?_; rintro e w' ⟨rfl, rfl⟩) | (go_at_call 105; refine (bounds_3 _).mono ?_; rintro e w' ⟨rfl, rfl⟩))
              go_ret
              exact ⟨ret_bool HE.out.symm, (Below.refl _ _).alloc (Nat.le_refl _) _⟩
            · have HE : Hid ((Ru.mk 3 letter ⟨#[]⟩ many).ok = false) := by
                have : (Ru.mk 3 letter ⟨#[]⟩ many).ok = false := by simp [Ru.ok, hl, noThen, inB, ha, hb]
                exact Lib.hid this
              go_enter Try.func89, Try.ntmps89
              go_wp2_with (first | (go_at_call 62; refine (implLetterOk_any _ _ (by assumption)).mono ?_; rintro e w' ⟨rfl, rfl⟩) | (go_at_call 105; refine (bounds_3 _).mono ?_; rintro e w' ⟨rfl, rfl⟩))
              go_ret
              exact ⟨ret_bool (by rw [HE.out]; simp; omega), (Below.refl _ _).alloc (Nat.le_refl _) _⟩
          · have HE : Hid ((Ru.mk 3 letter ⟨#[]⟩ many).ok = false) := by
              have : (Ru.mk 3 letter ⟨#[]⟩ many).ok = false := by simp [Ru.ok, noThen, inB, ha]
              exact Lib.hid this
            go_enter Try.func89, Try.ntmps89
            go_wp2_with (first | (go_at_call 62; refine (implLetterOk_any _ _ (by assumption)).mono ?_; rintro e w' ⟨rfl, rfl⟩) | (go_at_call 105; refine (bounds_3 _).mono ?_; rintro e w' ⟨rfl, rfl⟩))
            go_ret
            exact ⟨ret_bool HE.out.symm, (Below.refl _ _).alloc (Nat.le_refl _) _⟩
        · have ht' := toList_ne ht
          have HE : Hid ((Ru.mk 3 letter thn many).ok = false) := by
            have : (Ru.mk 3 letter thn many).ok = false := by simp [Ru.ok, noThen, ht]
            exact Lib.hid this
          go_enter Try.func89, Try.ntmps89
          go_wp2_with (first | (go_at_call 62; refine (implLetterOk_any _ _ (by assumption)).mono ?_; rintro e w' ⟨rfl, rfl⟩) | (go_at_call 105; refine (bounds_3 _).mono ?_; rintro e w' ⟨rfl, rfl⟩))
          go_ret
          exact ⟨ret_bool HE.out.symm, (Below.refl _ _).alloc (Nat.le_refl _) _⟩
      · by_cases ht : thn = ⟨#[]⟩
        · subst ht
          by_cases ha : (1 : Int) ≤ many
          · by_cases hb : many ≤ (5 : Int)
            · have HE : Hid ((Ru.mk 4 letter ⟨#[]⟩ many).ok = true) := by
                have : (Ru.mk 4 letter ⟨#[]⟩ many).ok = true := by simp [Ru.ok, hl, noThen, inB, ha, hb]
                exact Lib.hid this
              go_enter Try.func89, Try.ntmps89
              go_wp2_with (first | (go_at_call 62; refine (implLetterOk_any _ _ (by assumption)).mono ?_; rintro e w' ⟨rfl, rfl⟩) | (go_at_call 105; refine (bounds_4 _).mono ?_; rintro e w' ⟨rfl, rfl⟩))
              go_ret
              exact ⟨ret_bool HE.out.symm, (Below.refl _ _).alloc (Nat.le_refl _) _⟩
            · have HE : Hid ((Ru.mk 4 letter ⟨#[]⟩ many).ok = false) := by
                have : (Ru.mk 4 letter ⟨#[]⟩ many).ok = false := by simp [Ru.ok, hl, noThen, inB, ha, hb]
                exact Lib.hid this
              go_enter Try.func89, Try.ntmps89
              go_wp2_with (first | (go_at_call 62; refine (implLetterOk_any _ _ (by assumption)).mono ?_; rintro e w' ⟨rfl, rfl⟩) | (go_at_call 105; refine (bounds_4 _).mono ?_; rintro e w' ⟨rfl, rfl⟩))
              go_ret
              exact ⟨ret_bool (by rw [HE.out]; simp; omega), (Below.refl _ _).alloc (Nat.le_refl _) _⟩
          · have HE : Hid ((Ru.mk 4 letter ⟨#[]⟩ many).ok = false) := by
              have : (Ru.mk 4 letter ⟨#[]⟩ many).ok = false := by simp [Ru.ok, noThen, inB, ha]
              exact Lib.hid this
            go_enter Try.func89, Try.ntmps89
            go_wp2_with (first | (go_at_call 62; refine (implLetterOk_any _ _ (by assumption)).mono ?_; rintro e w' ⟨rfl, rfl⟩) | (go_at_call 105; refine (bounds_4 _).mono ?_; rintro e w' ⟨rfl, rfl⟩))
            go_ret
            exact ⟨ret_bool HE.out.symm, (Below.refl _ _).alloc (Nat.le_refl _) _⟩
        · have ht' := toList_ne ht
          have HE : Hid ((Ru.mk 4 letter thn many).ok = false) := by
            have : (Ru.mk 4 letter thn many).ok = false := by simp [Ru.ok, noThen, ht]
            exact Lib.hid this
          go_enter Try.func89, Try.ntmps89
          go_wp2_with (first | (go_at_call 62; refine (implLetterOk_any _ _ (by assumption)).mono ?_; rintro e w' ⟨rfl, rfl⟩) | (go_at_call 105; refine (bounds_4 _).mono ?_; rintro e w' ⟨rfl, rfl⟩))
          go_ret
          exact ⟨ret_bool HE.out.symm, (Below.refl _ _).alloc (Nat.le_refl _) _⟩
      · have HE : Hid ((Ru.mk kind letter thn many).ok = false) := by
          have : (Ru.mk kind letter thn many).ok = false := by
            simp only [beq_eq_false_iff_ne] at k0 k1 k2 k3 k4
            simp [Ru.ok, k0, k1, k2, k3, k4]
          exact Lib.hid this
        have hB : boundsK kind = (0, 0, false) := by
          simp only [beq_eq_false_iff_ne] at k0 k1 k3 k4
          simp [boundsK, k0, k1, k3, k4]
        clear hk
        go_enter Try.func89, Try.ntmps89
        go_wp2_with (first | (go_at_call 62; refine (implLetterOk_any _ _ (by assumption)).mono ?_; rintro e w' ⟨rfl, rfl⟩) | (go_at_call 105; refine (bounds_any _ _).mono ?_; rw [hB]; rintro e w' ⟨rfl, rfl⟩))
        go_ret
        exact ⟨ret_bool HE.out.symm, (Below.refl _ _).alloc (Nat.le_refl _) _⟩
  · have hl' : letterOk letter = false := by simpa using hl
    have HR := Lib.hid (letterOk_no hl' kind thn many)
    clear hl
    go_enter Try.func89, Try.ntmps89
    go_wp2_with (go_at_call 62; refine (implLetterOk_any _ _ (by assumption)).mono ?_; rintro e w' ⟨rfl, rfl⟩)
    go_ret
    exact ⟨ret_bool HR.out.symm, (Below.refl _ _).alloc (Nat.le_refl _) _⟩
end Go.Proofs.Ytlbblfbiiceofaa

namespace Go.Proofs.Ytlbblfbiiceofaa
open Go.RowKit

set_option maxHeartbeats 1600000 in
theorem specRuleOk_any (kind : Int) (letter thn : ByteArray) (many : Int) (w : World) :
    Calls Try.prog 69 #[.agg #[.int .i64 kind, .string letter, .string thn, .int .i64 many]] w
      fun e w' => e = .returned (.bool (Ru.mk kind letter thn many).ok) ∧ Below w.heap.size w w' := by
  by_cases hl : letterOk letter = true
  · by_cases hk : kind = 2
    · subst hk
      by_cases ht : letterOk thn = true
      · have HE : Hid ((Ru.mk 2 letter thn many).ok = (many == 0)) := by
          have : (Ru.mk 2 letter thn many).ok = (many == 0) := by simp [Ru.ok, hl, ht]; rfl
          exact Lib.hid this
        go_enter Try.func69, Try.ntmps69
        go_wp2_with (first | (go_at_call 87; refine (specLetterOk_any _ _).mono ?_; rintro e w' ⟨rfl, rfl⟩) | (go_at_call 57; refine (l1In_any _ _ _ _).mono ?_; rintro e w' ⟨rfl, rfl⟩))
        go_ret
        exact ⟨ret_bool HE.out.symm, (Below.refl _ _).alloc (Nat.le_refl _) _⟩
      · have ht' : letterOk thn = false := by simpa using ht
        have HE : Hid ((Ru.mk 2 letter thn many).ok = false) := by
          have : (Ru.mk 2 letter thn many).ok = false := by simp [Ru.ok, ht']
          exact Lib.hid this
        clear ht
        go_enter Try.func69, Try.ntmps69
        go_wp2_with (first | (go_at_call 87; refine (specLetterOk_any _ _).mono ?_; rintro e w' ⟨rfl, rfl⟩) | (go_at_call 57; refine (l1In_any _ _ _ _).mono ?_; rintro e w' ⟨rfl, rfl⟩))
        go_ret
        exact ⟨ret_bool HE.out.symm, (Below.refl _ _).alloc (Nat.le_refl _) _⟩
    · rcases kind_cases kind with rfl | rfl | rfl | rfl | rfl | ⟨k0, k1, k2, k3, k4⟩
      · by_cases ht : thn = ⟨#[]⟩
        · subst ht
          have HE : Hid ((Ru.mk 0 letter ⟨#[]⟩ many).ok = (decide (0 ≤ many) && decide (many ≤ 4))) := by
            have : (Ru.mk 0 letter ⟨#[]⟩ many).ok = (decide (0 ≤ many) && decide (many ≤ 4)) := by simp [Ru.ok, hl, noThen, inB]
            exact Lib.hid this
          go_enter Try.func69, Try.ntmps69
          go_wp2_with (first | (go_at_call 87; refine (specLetterOk_any _ _).mono ?_; rintro e w' ⟨rfl, rfl⟩) | (go_at_call 57; refine (l1In_any _ _ _ _).mono ?_; rintro e w' ⟨rfl, rfl⟩))
          go_ret
          exact ⟨ret_bool HE.out.symm, (Below.refl _ _).alloc (Nat.le_refl _) _⟩
        · have ht' := toList_ne ht
          have HE : Hid ((Ru.mk 0 letter thn many).ok = false) := by
            have : (Ru.mk 0 letter thn many).ok = false := by simp [Ru.ok, noThen, ht]
            exact Lib.hid this
          go_enter Try.func69, Try.ntmps69
          go_wp2_with (first | (go_at_call 87; refine (specLetterOk_any _ _).mono ?_; rintro e w' ⟨rfl, rfl⟩) | (go_at_call 57; refine (l1In_any _ _ _ _).mono ?_; rintro e w' ⟨rfl, rfl⟩))
          go_ret
          exact ⟨ret_bool HE.out.symm, (Below.refl _ _).alloc (Nat.le_refl _) _⟩
      · by_cases ht : thn = ⟨#[]⟩
        · subst ht
          have HE : Hid ((Ru.mk 1 letter ⟨#[]⟩ many).ok = (decide (2 ≤ many) && decide (many ≤ 4))) := by
            have : (Ru.mk 1 letter ⟨#[]⟩ many).ok = (decide (2 ≤ many) && decide (many ≤ 4)) := by simp [Ru.ok, hl, noThen, inB]
            exact Lib.hid this
          go_enter Try.func69, Try.ntmps69
          go_wp2_with (first | (go_at_call 87; refine (specLetterOk_any _ _).mono ?_; rintro e w' ⟨rfl, rfl⟩) | (go_at_call 57; refine (l1In_any _ _ _ _).mono ?_; rintro e w' ⟨rfl, rfl⟩))
          go_ret
          exact ⟨ret_bool HE.out.symm, (Below.refl _ _).alloc (Nat.le_refl _) _⟩
        · have ht' := toList_ne ht
          have HE : Hid ((Ru.mk 1 letter thn many).ok = false) := by
            have : (Ru.mk 1 letter thn many).ok = false := by simp [Ru.ok, noThen, ht]
            exact Lib.hid this
          go_enter Try.func69, Try.ntmps69
          go_wp2_with (first | (go_at_call 87; refine (specLetterOk_any _ _).mono ?_; rintro e w' ⟨rfl, rfl⟩) | (go_at_call 57; refine (l1In_any _ _ _ _).mono ?_; rintro e w' ⟨rfl, rfl⟩))
          go_ret
          exact ⟨ret_bool HE.out.symm, (Below.refl _ _).alloc (Nat.le_refl _) _⟩
      · exact absurd rfl hk
      · by_cases ht : thn = ⟨#[]⟩
        · subst ht
          have HE : Hid ((Ru.mk 3 letter ⟨#[]⟩ many).ok = (decide (0 ≤ many) && decide (many ≤ 5))) := by
            have : (Ru.mk 3 letter ⟨#[]⟩ many).ok = (decide (0 ≤ many) && decide (many ≤ 5)) := by simp [Ru.ok, hl, noThen, inB]
            exact Lib.hid this
          go_enter Try.func69, Try.ntmps69
          go_wp2_with (first | (go_at_call 87; refine (specLetterOk_any _ _).mono ?_; rintro e w' ⟨rfl, rfl⟩) | (go_at_call 57; refine (l1In_any _ _ _ _).mono ?_; rintro e w' ⟨rfl, rfl⟩))
          go_ret
          exact ⟨ret_bool HE.out.symm, (Below.refl _ _).alloc (Nat.le_refl _) _⟩
        · have ht' := toList_ne ht
          have HE : Hid ((Ru.mk 3 letter thn many).ok = false) := by
            have : (Ru.mk 3 letter thn many).ok = false := by simp [Ru.ok, noThen, ht]
            exact Lib.hid this
          go_enter Try.func69, Try.ntmps69
          go_wp2_with (first | (go_at_call 87; refine (specLetterOk_any _ _).mono ?_; rintro e w' ⟨rfl, rfl⟩) | (go_at_call 57; refine (l1In_any _ _ _ _).mono ?_; rintro e w' ⟨rfl, rfl⟩))
          go_ret
          exact ⟨ret_bool HE.out.symm, (Below.refl _ _).alloc (Nat.le_refl _) _⟩
      · by_cases ht : thn = ⟨#[]⟩
        · subst ht
          have HE : Hid ((Ru.mk 4 letter ⟨#[]⟩ many).ok = (decide (1 ≤ many) && decide (many ≤ 5))) := by
            have : (Ru.mk 4 letter ⟨#[]⟩ many).ok = (decide (1 ≤ many) && decide (many ≤ 5)) := by simp [Ru.ok, hl, noThen, inB]
            exact Lib.hid this
          go_enter Try.func69, Try.ntmps69
          go_wp2_with (first | (go_at_call 87; refine (specLetterOk_any _ _).mono ?_; rintro e w' ⟨rfl, rfl⟩) | (go_at_call 57; refine (l1In_any _ _ _ _).mono ?_; rintro e w' ⟨rfl, rfl⟩))
          go_ret
          exact ⟨ret_bool HE.out.symm, (Below.refl _ _).alloc (Nat.le_refl _) _⟩
        · have ht' := toList_ne ht
          have HE : Hid ((Ru.mk 4 letter thn many).ok = false) := by
            have : (Ru.mk 4 letter thn many).ok = false := by simp [Ru.ok, noThen, ht]
            exact Lib.hid this
          go_enter Try.func69, Try.ntmps69
          go_wp2_with (first | (go_at_call 87; refine (specLetterOk_any _ _).mono ?_; rintro e w' ⟨rfl, rfl⟩) | (go_at_call 57; refine (l1In_any _ _ _ _).mono ?_; rintro e w' ⟨rfl, rfl⟩))
          go_ret
          exact ⟨ret_bool HE.out.symm, (Below.refl _ _).alloc (Nat.le_refl _) _⟩
      · have HE : Hid ((Ru.mk kind letter thn many).ok = false) := by
          have : (Ru.mk kind letter thn many).ok = false := by
            simp only [beq_eq_false_iff_ne] at k0 k1 k2 k3 k4
            simp [Ru.ok, k0, k1, k2, k3, k4]
          exact Lib.hid this
        clear hk
        go_enter Try.func69, Try.ntmps69
        go_wp2_with (first | (go_at_call 87; refine (specLetterOk_any _ _).mono ?_; rintro e w' ⟨rfl, rfl⟩) | (go_at_call 57; refine (l1In_any _ _ _ _).mono ?_; rintro e w' ⟨rfl, rfl⟩))
        go_ret
        exact ⟨ret_bool HE.out.symm, (Below.refl _ _).alloc (Nat.le_refl _) _⟩
  · have hl' : letterOk letter = false := by simpa using hl
    have HE := Lib.hid (letterOk_no hl' kind thn many)
    clear hl
    go_enter Try.func69, Try.ntmps69
    go_wp2_with (first | (go_at_call 87; refine (specLetterOk_any _ _).mono ?_; rintro e w' ⟨rfl, rfl⟩) | (go_at_call 57; refine (l1In_any _ _ _ _).mono ?_; rintro e w' ⟨rfl, rfl⟩))
    go_ret
    exact ⟨ret_bool HE.out.symm, (Below.refl _ _).alloc (Nat.le_refl _) _⟩

/-- how many bytes are left of a number -/
def szR (a b : Nat) (left : Int) : Int := if left - a < 0 then -1 else if left - a - b < 0 then -1 else left - a - b
end Go.Proofs.Ytlbblfbiiceofaa

namespace Go.Proofs.Ytlbblfbiiceofaa
open Go.Shelf
def shContains_ren : Go.Shelf.Ren := ⟨fun | 143 => 107 | 144 => 92 | 217 => 96 | 219 => 114 | 224 => 121 | 225 => 120 | 266 => 108 | 267 => 122 | 314 => 131 | n => n, fun | 3 => 3 | 4 => 4 | 5 => 5 | 9 => 9 | 46 => 134 | 51 => 142 | 146 => 143 | n => n, fun | 1 => 0 | n => n⟩
set_option maxRecDepth 100000 in
theorem shContains_lays : Go.Proofs.Lays.n144 Try.prog shContains_ren := {
  mixed := by kernel_rfl
  f143 := Try.func107.trans (congrArg some (by kernel_rfl))
  f144 := Try.func92.trans (congrArg some (by kernel_rfl))
  f217 := Try.func96.trans (congrArg some (by kernel_rfl))
  f219 := Try.func114.trans (congrArg some (by kernel_rfl))
  f224 := Try.func121.trans (congrArg some (by kernel_rfl))
  f225 := Try.func120.trans (congrArg some (by kernel_rfl))
  f266 := Try.func108.trans (congrArg some (by kernel_rfl))
  f267 := Try.func122.trans (congrArg some (by kernel_rfl))
  f314 := Try.func131.trans (congrArg some (by kernel_rfl))
  t3 := Try.underlying3
  a3 := Try.isAgg3
  z3 := Try.sizeOf3
  v3 := Try.zeroValue3
  t4 := Try.underlying4
  a4 := Try.isAgg4
  z4 := Try.sizeOf4
  v4 := Try.zeroValue4
  t5 := Try.underlying5
  a5 := Try.isAgg5
  z5 := Try.sizeOf5
  v5 := Try.zeroValue5
  t9 := Try.underlying9
  a9 := Try.isAgg9
  z9 := Try.sizeOf9
  v9 := Try.zeroValue9
  t46 := Try.underlying134
  a46 := Try.isAgg134
  z46 := Try.sizeOf134
  v46 := Try.zeroValue134
  t51 := Try.underlying142
  a51 := Try.isAgg142
  z51 := Try.sizeOf142
  v51 := Try.zeroValue142
  t146 := Try.underlying143
  a146 := Try.isAgg143
  z146 := Try.sizeOf143
  v146 := Try.zeroValue143
  g1 := by kernel_rfl }
open Go.RowKit in
theorem strings_Contains (s sub : ByteArray) (m : Int) (w : World) (hs : s.size < 4294967281) (hm : w.cell? ⟨0, 0, none⟩ = some (.int .i64 m)) :
    Calls Try.prog 92 #[.string s, .string sub] w fun e w' => e = .returned (.bool (Lib.contains s.data.toList sub.data.toList)) ∧ w' = w := Any.strings_Contains shContains_lays s sub m w hs hm
end Go.Proofs.Ytlbblfbiiceofaa

namespace Go.Proofs.Ytlbblfbiiceofaa
open Go.RowKit

theorem isPrefix_two (c d : UInt8) (l : List UInt8) : [c, d].isPrefixOf l = true ↔ l[0]? = some c ∧ l[1]? = some d := by
  match l with
  | [] => simp
  | [a] => simp
  | a :: b :: l =>
    simp only [List.isPrefixOf, Bool.and_true, Bool.and_eq_true, beq_iff_eq, List.getElem?_cons_zero, List.getElem?_cons_succ, Option.some.injEq]
    exact ⟨fun h => ⟨h.1.symm, h.2.symm⟩, fun h => ⟨h.1.symm, h.2.symm⟩⟩
theorem contains_pair (l : List UInt8) (c d : UInt8) : Lib.contains l [c, d] = pairTo l c d (l.length - 1) := by
  rw [Bool.eq_iff_iff]
  have key : pairTo l c d (l.length - 1) = true ↔ ∃ i, Lib.occAt l [c, d] i = true := by
    simp only [pairTo, List.any_eq_true, List.mem_range, Bool.and_eq_true, beq_iff_eq, Lib.occAt, isPrefix_two, List.getElem?_drop]
    constructor
    · rintro ⟨i, hi, h1, h2⟩
      have hi1 : i < l.length := by omega
      have hi2 : i + 1 < l.length := by omega
      refine ⟨i, ?_, ?_⟩
      · rw [Nat.add_zero, List.getElem?_eq_getElem hi1, ← h1]; simp [List.getD, hi1]
      · rw [List.getElem?_eq_getElem hi2, ← h2]; simp [List.getD, hi2]
    · rintro ⟨i, h1, h2⟩
      have hi2 := (List.getElem?_eq_some_iff.1 h2).1
      refine ⟨i, by omega, ?_, ?_⟩
      · rw [Nat.add_zero] at h1; simp [List.getD, h1]
      · simp [List.getD, h2]
  rw [key, Lib.contains, decide_eq_true_eq]
  rcases Lib.index_spec l [c, d] with ⟨h1, h2⟩ | ⟨i, h1, _, h3, _⟩
  · rw [h1]
    refine ⟨fun h => absurd h (by decide), ?_⟩
    rintro ⟨i, hi⟩
    by_cases hl : i ≤ l.length
    · rw [h2 i hl] at hi; cases hi
    · simp only [Lib.occAt, isPrefix_two, List.getElem?_drop] at hi
      have := (List.getElem?_eq_some_iff.1 hi.1).1
      omega
  · rw [h1]
    exact ⟨fun _ => ⟨i, h3⟩, fun _ => Int.natCast_nonneg i⟩

theorem one_byte {t : ByteArray} (h : letterOk t = true) : t.data.toList = [byteAt t 0] := by
  rcases letterOk_cases h with rfl | rfl | rfl <;> rfl
theorem ru_cells {w w' : World} {t : TypeId} (kind : Int) (letter thn : ByteArray) (many : Int) (hb : Below (w.heap.size + 1) (w.alloc (.cells #[.int .i64 kind, .string letter, .string thn, .int .i64 many] t)) w') :
    w'.cell? ⟨w.heap.size, 0, none⟩ = some (.int .i64 kind) ∧ w'.cell? ⟨w.heap.size, 1, none⟩ = some (.string letter) ∧ w'.cell? ⟨w.heap.size, 2, none⟩ = some (.string thn) ∧ w'.cell? ⟨w.heap.size, 3, none⟩ = some (.int .i64 many) ∧ Below w.heap.size w w' ∧ w.heap.size + 1 ≤ w'.heap.size :=
  ⟨(hb.cell (p := ⟨w.heap.size, 0, none⟩) (Nat.lt_succ_self _)).trans (World.cell?_alloc_new w _ _ 0), (hb.cell (p := ⟨w.heap.size, 1, none⟩) (Nat.lt_succ_self _)).trans (World.cell?_alloc_new w _ _ 1),
    (hb.cell (p := ⟨w.heap.size, 2, none⟩) (Nat.lt_succ_self _)).trans (World.cell?_alloc_new w _ _ 2), (hb.cell (p := ⟨w.heap.size, 3, none⟩) (Nat.lt_succ_self _)).trans (World.cell?_alloc_new w _ _ 3),
    ((Below.refl w.heap.size w).alloc (Nat.le_refl _) _).trans (hb.mono (Nat.le_succ _)), by have := hb.size; simp only [World.size_alloc] at this; exact this⟩

set_option maxHeartbeats 1600000 in
theorem implKeeps_0 (letter : ByteArray) (many : Int) (s : ByteArray) (w : World) (hl : letterOk letter = true) (h0 : 0 ≤ many) (h4 : many ≤ 4) (hw : wordOk s = true) :
    Calls Try.prog 73 #[.agg #[.int .i64 0, .string letter, .string ⟨#[]⟩, .int .i64 many], .string s] w
      fun e w' => e = .returned (.bool (decide ((longestIn (runsL s.data.toList) (byteAt letter 0) : Int) ≤ many))) ∧ Below w.heap.size w w' := by
  have hlm : letter.size ≤ maxLen := by rw [letterOk_size hl]; decide
  have hsm : s.size ≤ maxLen := Nat.le_trans (wordOk_size hw) (by decide)
  have hok : (Ru.mk 0 letter ⟨#[]⟩ many).ok = true := Ru.ok_iff.2 ⟨hl, .inl ⟨rfl, rfl, h0, h4⟩⟩
  have HL := Lib.hid (longestOf_yes hw hl)
  go_enter Try.func73, Try.ntmps73
  go_wp2_with fail
  refine (implRuleOk_any 0 letter ⟨#[]⟩ many _ hlm (by decide)).mono ?_
  rintro e w1 ⟨rfl, hb1⟩
  rw [hok]
  simp only [World.size_alloc] at hb1
  obtain ⟨y0, y1, y2, y3, q1, s1⟩ := ru_cells 0 letter ⟨#[]⟩ many hb1
  go_wp2_with (go_at_call 56; refine (implWordOk_any _ _ hsm).mono ?_; rintro e w' ⟨rfl, rfl⟩)
  go_region_with (go_at_call 90; refine (implLongestOf_any _ _ _ hsm hlm).mono ?_; rintro e w2 ⟨rfl, hb2⟩; obtain ⟨z0, z1, z2, z3, q2, s2⟩ := ru_cells 0 letter ⟨#[]⟩ many (hb1.drew.trans (hb2.mono s1)))
  all_goals
    go_wp2
    go_ret
    exact ⟨ret_bool (by rw [HL.out]), q2⟩

set_option maxHeartbeats 1600000 in
theorem implKeeps_1 (letter : ByteArray) (many : Int) (s : ByteArray) (w : World) (hl : letterOk letter = true) (h0 : 2 ≤ many) (h4 : many ≤ 4) (hw : wordOk s = true) :
    Calls Try.prog 73 #[.agg #[.int .i64 1, .string letter, .string ⟨#[]⟩, .int .i64 many], .string s] w
      fun e w' => e = .returned (.bool (longAll (runsL s.data.toList) (byteAt letter 0) many)) ∧ Below w.heap.size w w' := by
  have hlm : letter.size ≤ maxLen := by rw [letterOk_size hl]; decide
  have hsm : s.size ≤ maxLen := Nat.le_trans (wordOk_size hw) (by decide)
  have hok : (Ru.mk 1 letter ⟨#[]⟩ many).ok = true := Ru.ok_iff.2 ⟨hl, .inr (.inl ⟨rfl, rfl, h0, h4⟩)⟩
  have h1 := letterOk_size hl
  have hp : 0 < letter.size := by omega
  have HL := Lib.hid (byteAt_eq letter 0 hp)
  have h14 := wordOk_size hw
  go_enter Try.func73, Try.ntmps73
  go_wp2_with fail
  refine (implRuleOk_any 1 letter ⟨#[]⟩ many _ hlm (by decide)).mono ?_
  rintro e w1 ⟨rfl, hb1⟩
  rw [hok]
  simp only [World.size_alloc] at hb1
  obtain ⟨y0, y1, y2, y3, q1, s1⟩ := ru_cells 1 letter ⟨#[]⟩ many hb1
  go_wp2_with (go_at_call 56; refine (implWordOk_any _ _ hsm).mono ?_; rintro e w' ⟨rfl, rfl⟩)
  go_region_with (go_at_call 91; refine (runsLongOk_any s letter[0] many _ h14).mono ?_; rintro e w2 ⟨rfl, hb2⟩; obtain ⟨z0, z1, z2, z3, q2, s2⟩ := ru_cells 1 letter ⟨#[]⟩ many (hb1.drew.trans (hb2.mono s1)))
  all_goals
    go_wp2
    go_ret
    exact ⟨ret_bool (by rw [HL.out]), q2⟩

set_option maxHeartbeats 1600000 in
theorem implKeeps_2 (letter : ByteArray) (thn : ByteArray) (m : Int) (s : ByteArray) (w : World) (hl : letterOk letter = true) (ht : letterOk thn = true) (hm : w.cell? ⟨0, 0, none⟩ = some (.int .i64 m)) (hw : wordOk s = true) :
    Calls Try.prog 73 #[.agg #[.int .i64 2, .string letter, .string thn, .int .i64 0], .string s] w
      fun e w' => e = .returned (.bool (!pairTo s.data.toList (byteAt letter 0) (byteAt thn 0) (s.size - 1))) ∧ Below w.heap.size w w' := by
  have hlm : letter.size ≤ maxLen := by rw [letterOk_size hl]; decide
  have hsm : s.size ≤ maxLen := Nat.le_trans (wordOk_size hw) (by decide)
  have hok : (Ru.mk 2 letter thn 0).ok = true := Ru.ok_iff.2 ⟨hl, .inr (.inr (.inl ⟨rfl, ht, rfl⟩))⟩
  have htm : thn.size ≤ maxLen := by rw [letterOk_size ht]; decide
  have hsum : letter.size + thn.size ≤ 9223372036854775807 := by rw [letterOk_size hl, letterOk_size ht]; decide
  have HL : Hid (Lib.contains s.data.toList (letter ++ thn).data.toList = pairTo s.data.toList (byteAt letter 0) (byteAt thn 0) (s.size - 1)) := by
    have : Lib.contains s.data.toList (letter ++ thn).data.toList = pairTo s.data.toList (byteAt letter 0) (byteAt thn 0) (s.size - 1) := by
      rw [ByteArray.data_append, Array.toList_append, one_byte hl, one_byte ht, ← len_data s]
      exact contains_pair _ _ _
    exact Lib.hid this
  have h14 := wordOk_size hw
  have hg0 : (⟨0, 0, none⟩ : Addr).block < w.heap.size := World.block_lt_of_cell? w _ hm
  go_enter Try.func73, Try.ntmps73
  go_wp2_with fail
  refine (implRuleOk_any 2 letter thn 0 _ hlm htm).mono ?_
  rintro e w1 ⟨rfl, hb1⟩
  rw [hok]
  simp only [World.size_alloc] at hb1
  obtain ⟨y0, y1, y2, y3, q1, s1⟩ := ru_cells 2 letter thn 0 hb1
  have hm1 := (q1.cell hg0).trans hm
  clear y0 y3
  have y0 : w1.cell? ⟨w.heap.size, 0, none⟩ = some (.int .i64 2) := (ru_cells 2 letter thn 0 hb1).1
  go_wp2_with (first | (go_at_call 56; refine (implWordOk_any _ _ hsm).mono ?_; rintro e w' ⟨rfl, rfl⟩) | (go_at_call 92; refine (strings_Contains _ _ m _ (by omega) (by assumption)).mono ?_; rintro e w' ⟨rfl, rfl⟩))
  go_ret
  exact ⟨ret_bool (by rw [← HL.out, ByteArray.data_append, Array.toList_append]), q1⟩

set_option maxHeartbeats 1600000 in
theorem implKeeps_3 (letter : ByteArray) (many : Int) (s : ByteArray) (w : World) (hl : letterOk letter = true) (h0 : 0 ≤ many) (h4 : many ≤ 5) (hw : wordOk s = true) :
    Calls Try.prog 73 #[.agg #[.int .i64 3, .string letter, .string ⟨#[]⟩, .int .i64 many], .string s] w
      fun e w' => e = .returned (.bool (decide (cntEq s.data.toList (byteAt letter 0) s.size ≤ many))) ∧ Below w.heap.size w w' := by
  have hlm : letter.size ≤ maxLen := by rw [letterOk_size hl]; decide
  have hsm : s.size ≤ maxLen := Nat.le_trans (wordOk_size hw) (by decide)
  have hok : (Ru.mk 3 letter ⟨#[]⟩ many).ok = true := Ru.ok_iff.2 ⟨hl, .inr (.inr (.inr (.inl ⟨rfl, rfl, h0, h4⟩)))⟩
  have HL := Lib.hid (countOf_yes hw hl)
  go_enter Try.func73, Try.ntmps73
  go_wp2_with fail
  refine (implRuleOk_any 3 letter ⟨#[]⟩ many _ hlm (by decide)).mono ?_
  rintro e w1 ⟨rfl, hb1⟩
  rw [hok]
  simp only [World.size_alloc] at hb1
  obtain ⟨y0, y1, y2, y3, q1, s1⟩ := ru_cells 3 letter ⟨#[]⟩ many hb1
  go_wp2_with (go_at_call 56; refine (implWordOk_any _ _ hsm).mono ?_; rintro e w' ⟨rfl, rfl⟩)
  go_region_with (go_at_call 30; refine (implCountOf_any _ _ _ hsm hlm).mono ?_; rintro e w2 ⟨rfl, hb2⟩; obtain ⟨z0, z1, z2, z3, q2, s2⟩ := ru_cells 3 letter ⟨#[]⟩ many (hb1.drew.trans (hb2.mono s1)))
  all_goals
    go_wp2
    go_ret
    exact ⟨ret_bool (by rw [HL.out]), q2⟩

set_option maxHeartbeats 1600000 in
theorem implKeeps_4 (letter : ByteArray) (many : Int) (s : ByteArray) (w : World) (hl : letterOk letter = true) (h0 : 1 ≤ many) (h4 : many ≤ 5) (hw : wordOk s = true) :
    Calls Try.prog 73 #[.agg #[.int .i64 4, .string letter, .string ⟨#[]⟩, .int .i64 many], .string s] w
      fun e w' => e = .returned (.bool (decide (many ≤ cntEq s.data.toList (byteAt letter 0) s.size))) ∧ Below w.heap.size w w' := by
  have hlm : letter.size ≤ maxLen := by rw [letterOk_size hl]; decide
  have hsm : s.size ≤ maxLen := Nat.le_trans (wordOk_size hw) (by decide)
  have hok : (Ru.mk 4 letter ⟨#[]⟩ many).ok = true := Ru.ok_iff.2 ⟨hl, .inr (.inr (.inr (.inr ⟨rfl, rfl, h0, h4⟩)))⟩
  have HL := Lib.hid (countOf_yes hw hl)
  go_enter Try.func73, Try.ntmps73
  go_wp2_with fail
  refine (implRuleOk_any 4 letter ⟨#[]⟩ many _ hlm (by decide)).mono ?_
  rintro e w1 ⟨rfl, hb1⟩
  rw [hok]
  simp only [World.size_alloc] at hb1
  obtain ⟨y0, y1, y2, y3, q1, s1⟩ := ru_cells 4 letter ⟨#[]⟩ many hb1
  go_wp2_with (go_at_call 56; refine (implWordOk_any _ _ hsm).mono ?_; rintro e w' ⟨rfl, rfl⟩)
  go_region_with (go_at_call 30; refine (implCountOf_any _ _ _ hsm hlm).mono ?_; rintro e w2 ⟨rfl, hb2⟩; obtain ⟨z0, z1, z2, z3, q2, s2⟩ := ru_cells 4 letter ⟨#[]⟩ many (hb1.drew.trans (hb2.mono s1)))
  all_goals
    go_wp2
    go_ret
    exact ⟨ret_bool (by rw [HL.out]), q2⟩

end Go.Proofs.Ytlbblfbiiceofaa

namespace Go.Proofs.Ytlbblfbiiceofaa
open Go.RowKit

/-- a block that holds a rule -/
structure RuBox (B : Nat) (kind : Int) (letter thn : ByteArray) (many : Int) (w : World) : Prop where
  hB : B < w.heap.size
  c0 : w.cell? ⟨B, 0, none⟩ = some (.int .i64 kind)
  c1 : w.cell? ⟨B, 1, none⟩ = some (.string letter)
  c2 : w.cell? ⟨B, 2, none⟩ = some (.string thn)
  c3 : w.cell? ⟨B, 3, none⟩ = some (.int .i64 many)
theorem RuBox.below {B : Nat} {kind : Int} {letter thn : ByteArray} {many : Int} {w w' : World} (h : RuBox B kind letter thn many w) (hb : Below w.heap.size w w') : RuBox B kind letter thn many w' :=
  ⟨Nat.lt_of_lt_of_le h.hB hb.size, (hb.cell (p := ⟨B, 0, none⟩) h.hB).trans h.c0, (hb.cell (p := ⟨B, 1, none⟩) h.hB).trans h.c1, (hb.cell (p := ⟨B, 2, none⟩) h.hB).trans h.c2, (hb.cell (p := ⟨B, 3, none⟩) h.hB).trans h.c3⟩
theorem RuBox.new {w : World} (kind : Int) (letter thn : ByteArray) (many : Int) (t : TypeId) : RuBox w.heap.size kind letter thn many (w.alloc (.cells #[.int .i64 kind, .string letter, .string thn, .int .i64 many] t)) :=
  ⟨by simp, World.cell?_alloc_new w _ _ 0, World.cell?_alloc_new w _ _ 1, World.cell?_alloc_new w _ _ 2, World.cell?_alloc_new w _ _ 3⟩

/-- what a function returns that goes on -/
def OnPost (r : Ru) (x : Int) (l : Nat) (W : World) (e : Ending) (W' : World) : Prop :=
  ∃ v b, e = .returned (.tuple #[.int .i64 v, .bool b]) ∧ r.on x l = (if b = true then some v else none) ∧ Below W.heap.size W W'

end Go.Proofs.Ytlbblfbiiceofaa

namespace Go.Proofs.Ytlbblfbiiceofaa
open Go.RowKit Go.ChangeShapes Go.WideShapes Go.ChangeAt Go.Deep

/-- the five cells of a mark -/
def Mk.cells (m : Mk) : List Value := [.int .i64 m.kind, .int .i64 m.its.kind, .string m.its.letter, .string m.its.thn, .int .i64 m.its.many]
def Mk.val (m : Mk) : Value := .agg #[.int .i64 m.kind, .int .i64 m.its.kind, .string m.its.letter, .string m.its.thn, .int .i64 m.its.many]
def markAt (w : World) (g o : Nat) (m : Mk) : Prop :=
  w.cell? ⟨g, o, none⟩ = some (.int .i64 m.kind) ∧ w.cell? ⟨g, o + 1, none⟩ = some (.int .i64 m.its.kind) ∧ w.cell? ⟨g, o + 2, none⟩ = some (.string m.its.letter) ∧ w.cell? ⟨g, o + 3, none⟩ = some (.string m.its.thn) ∧ w.cell? ⟨g, o + 4, none⟩ = some (.int .i64 m.its.many)
/-- what every mark in memory keeps -/
def Mk.wf (m : Mk) : Prop := (Lit.int .i64 m.kind).wf = true ∧ (Lit.int .i64 m.its.kind).wf = true ∧ m.its.letter.size ≤ maxLen ∧ m.its.thn.size ≤ maxLen ∧ (Lit.int .i64 m.its.many).wf = true
def IsMarks (w : World) (v : Value) (ms : List Mk) : Prop :=
  ∃ (a : Option Addr) (cap : Nat), v = .slice a ms.length cap ∧ ms.length ≤ cap ∧ cap ≤ maxLen ∧
    (ms = [] ∨ ∃ g off : Nat, a = some ⟨g, off, none⟩ ∧ g < w.heap.size ∧ ∀ k (h : k < ms.length), markAt w g (off + k * 5) ms[k])
theorem IsMarks.nil (w : World) : IsMarks w (.slice none 0 0) [] := ⟨none, 0, rfl, Nat.le_refl _, Nat.zero_le _, .inl rfl⟩
theorem markAt.below {w w' : World} {g o : Nat} {m : Mk} {B : Nat} (h : markAt w g o m) (hb : Below B w w') (hg : g < B) : markAt w' g o m := by
  obtain ⟨h0, h1, h2, h3, h4⟩ := h
  exact ⟨(hb.cell (p := ⟨g, o, none⟩) hg).trans h0, (hb.cell (p := ⟨g, o + 1, none⟩) hg).trans h1, (hb.cell (p := ⟨g, o + 2, none⟩) hg).trans h2, (hb.cell (p := ⟨g, o + 3, none⟩) hg).trans h3, (hb.cell (p := ⟨g, o + 4, none⟩) hg).trans h4⟩
theorem IsMarks.below {w w' : World} {v : Value} {ms : List Mk} (h : IsMarks w v ms) (hb : Below w.heap.size w w') : IsMarks w' v ms := by
  obtain ⟨a, cap, hv, h1, h2, h3⟩ := h
  exact ⟨a, cap, hv, h1, h2, h3.imp id fun ⟨g, off, ha, hg, hc⟩ => ⟨g, off, ha, Nat.lt_of_lt_of_le hg hb.size, fun k hk => (hc k hk).below hb hg⟩⟩
def cellsM : List Mk → List Value
  | [] => []
  | m :: ms => m.cells ++ cellsM ms
theorem cellsM_length (ms : List Mk) : (cellsM ms).length = ms.length * 5 := by
  induction ms with
  | nil => rfl
  | cons m ms ih => simp only [cellsM, List.length_append, ih, List.length_cons, Mk.cells, List.length_nil]; omega
theorem cellsM_append (a b : List Mk) : cellsM (a ++ b) = cellsM a ++ cellsM b := by
  induction a with
  | nil => rfl
  | cons m a ih => simp [cellsM, ih]
theorem cellsM_at (ms : List Mk) : ∀ k (h : k < ms.length) j, j < 5 → (cellsM ms)[k * 5 + j]? = (ms[k]).cells[j]? := by
  induction ms with
  | nil => intro k h; exact absurd h (Nat.not_lt_zero k)
  | cons m ms ih =>
    intro k h j hj
    have hl : m.cells.length = 5 := rfl
    match k, h with
    | 0, _ =>
      simp only [cellsM, Nat.zero_mul, Nat.zero_add, List.getElem_cons_zero]
      rw [List.getElem?_append_left (by rw [hl]; exact hj)]
    | k + 1, h =>
      simp only [cellsM, List.getElem_cons_succ]
      rw [List.getElem?_append_right (by rw [hl]; omega), hl, show (k + 1) * 5 + j - 5 = k * 5 + j by omega]
      exact ih k (by simpa using h) j hj
theorem IsMarks.of_owns {w : World} {base : Nat} {e : TypeId} {v : Value} {ms : List Mk} (h : w.ownsRow base e 5 v ms.length (cellsM ms)) : IsMarks w v ms := by
  rcases h.2 with ⟨rfl, hn⟩ | ⟨g, cap, cur, rfl, hb, hg, h1, h2, h3, h4⟩
  · obtain rfl : ms = [] := List.eq_nil_of_length_eq_zero hn
    exact IsMarks.nil w
  · refine ⟨some ⟨g, 0, none⟩, cap, rfl, h1, h2, .inr ⟨g, 0, rfl, (h.lt g rfl).2, fun k hk => ?_⟩⟩
    have hc : ∀ j, j < 5 → w.cell? ⟨g, 0 + k * 5 + j, none⟩ = (ms[k]).cells[j]? := fun j hj => by
      rw [Nat.zero_add, h.cellAt (k * 5 + j) (by omega)]
      exact cellsM_at ms k hk j hj
    exact ⟨hc 0 (by omega), hc 1 (by omega), hc 2 (by omega), hc 3 (by omega), hc 4 (by omega)⟩

section
variable {H : Type} {enc : TypeId × Value → H} {P : Program} {w : World}
end
end Go.Proofs.Ytlbblfbiiceofaa

namespace Go.Proofs.Ytlbblfbiiceofaa
open Go.RowKit

theorem IsMarks.take {w : World} {a : Option Addr} {n cap : Nat} {ms : List Mk} (h : IsMarks w (.slice a n cap) ms) (k : Nat) (hk : k ≤ n) : IsMarks w (.slice a k cap) (ms.take k) := by
  obtain ⟨a', cap', he, h1, h2, h3⟩ := h
  simp only [Value.slice.injEq] at he
  obtain ⟨rfl, rfl, rfl⟩ := he
  have hl : (ms.take k).length = k := by rw [List.length_take]; omega
  refine ⟨a, cap, by rw [hl], by omega, h2, ?_⟩
  rcases h3 with rfl | ⟨g, off, rfl, hg, hc⟩
  · exact .inl (by simp)
  · by_cases h0 : k = 0
    · exact .inl (by rw [h0]; rfl)
    · refine .inr ⟨g, off, rfl, hg, fun i hi => ?_⟩
      rw [List.getElem_take]
      exact hc i (by omega)
theorem IsMarks.cut {w : World} {g off n cap : Nat} {ms : List Mk} (h : IsMarks w (.slice (some ⟨g, off, none⟩) n cap) ms) (j k : Nat) (hj : j ≤ k) (hk : k ≤ n) : IsMarks w (.slice (some ⟨g, off + j * 5, none⟩) (k - j) (cap - j)) ((ms.take k).drop j) := by
  obtain ⟨a', cap', he, h1, h2, h3⟩ := h
  simp only [Value.slice.injEq] at he
  obtain ⟨rfl, rfl, rfl⟩ := he
  have hl : ((ms.take k).drop j).length = k - j := by rw [List.length_drop, List.length_take]; omega
  refine ⟨some ⟨g, off + j * 5, none⟩, cap - j, by rw [hl], by omega, by omega, ?_⟩
  rcases h3 with rfl | ⟨g', off', he, hg, hc⟩
  · exact .inl (by simp)
  · simp only [Option.some.injEq, Addr.mk.injEq, and_true] at he
    obtain ⟨rfl, rfl⟩ := he
    refine .inr ⟨g, off + j * 5, rfl, hg, fun i hi => ?_⟩
    have := hc (j + i) (by omega)
    rw [show off + j * 5 + i * 5 = off + (j + i) * 5 by omega]
    simp only [List.getElem_drop, List.getElem_take]
    exact this

theorem postL_len (ts : List Tm) : ts.length ≤ (postL ts).length := by
  induction ts with
  | nil => exact Nat.le_refl _
  | cons T ts ih =>
    have e : postL (T :: ts) = T.post ++ postL ts := by simp [postL]
    have := T.post_pos
    rw [e, List.length_append, List.length_cons]; omega

set_option maxHeartbeats 1600000 in
theorem l4Starts_any (pre rest : List Mk) (T : Tm) (v : Value) (en : Int) (w : World) (h : IsMarks w v (pre ++ T.post ++ rest)) (hl : (pre ++ T.post ++ rest).length ≤ 9) (he : en = ((pre.length + T.post.length : Nat) : Int) - 1) :
    Calls Try.prog 104 #[v, .int .i64 en] w fun e w' => e = .returned (.int .i64 (pre.length : Int)) ∧ w = w' := by
  have hpos := T.post_pos
  obtain ⟨a, cap, rfl, ha1, ha2, ha⟩ := h
  have hne : pre ++ T.post ++ rest ≠ [] := fun e => by
    have := congrArg List.length e
    simp only [List.length_append, List.length_nil] at this
    omega
  obtain ⟨g, off, rfl, hg, hc⟩ := ha.resolve_left hne
  unfold maxLen at ha2
  have HC := Lib.hid hc
  have HL := Lib.hid hl
  have hl9 : (pre ++ T.post ++ rest).length ≤ 9 := hl
  have HE : Hid (en = ((pre.length : Int) + (postL [T]).length) - 1) := Lib.hid (by rw [he, postL_one]; omega)
  have HST : Hid (pre ++ T.post ++ rest = pre ++ postL [T] ++ rest) := Lib.hid (by rw [postL_one])
  have hen : 0 ≤ en ∧ en ≤ 8 := by
    simp only [List.length_append] at hl
    omega
  clear hc hl he hne hpos
  generalize pre ++ T.post ++ rest = ms at *
  go_enter Try.func104, Try.ntmps104
  go_wp2_with fail
  go_loopw [5, 6] (fun nv av wr => ∃ (ts : List Tm) (rest' : List Mk) (need a1 : Int), nv = .int .i64 need ∧ av = .int .i64 a1 ∧ need = (ts.length : Int) ∧ a1 = (pre.length : Int) + (postL ts).length - 1 ∧ ms = pre ++ postL ts ++ rest' ∧ wr = w) (fun _ av _ => (intOf av + 1 - (pre.length : Int)).toNat)
  case atStart => exact ⟨[T], rest, 1, en, rfl, rfl, rfl, HE.out, HST.out, rfl⟩
  case round =>
    obtain ⟨ts, rest', need, a1, rfl, rfl, hnd, hat, hms, rfl⟩ := hrel
    have hplen := postL_len ts
    have HND := Lib.hid hnd
    have HAT := Lib.hid hat
    have HMS := Lib.hid hms
    have hmsl : pre.length + (postL ts).length + rest'.length = ms.length := by rw [hms, List.length_append, List.length_append]
    clear HST HE
    by_cases hpos : 0 < need
    · rcases List.eq_nil_or_concat ts with rfl | ⟨ts', T', rfl⟩
      · simp at hnd; omega
      · rw [List.concat_eq_append] at *
        obtain ⟨m, hpe, hcase⟩ := back_one ts' T'
        have HPE := Lib.hid hpe
        have hpl : (postL (ts' ++ [T'])).length = (postL (ts' ++ [T'])).dropLast.length + 1 := by rw [List.length_dropLast]; have := postL_len (ts' ++ [T']); simp at this; omega
        have HPL := Lib.hid hpl
        have hnl : need = (ts'.length : Int) + 1 := by rw [hnd, List.length_append]; simp
        generalize (postL (ts' ++ [T'])).dropLast = q at *
        have hix : pre.length + q.length < ms.length := by omega
        have hgm : ms[pre.length + q.length]? = some m := by
          rw [hms, hpe, List.append_assoc, List.getElem?_append_right (by omega), Nat.add_sub_cancel_left, List.append_assoc, List.getElem?_append_right (by omega), Nat.sub_self]; rfl
        have hgm2 : ms[pre.length + q.length] = m := by rw [List.getElem?_eq_getElem hix] at hgm; exact Option.some.inj hgm
        have hcell := (HC.out (pre.length + q.length) hix).1
        rw [hgm2] at hcell
        have hai : a1 = ((pre.length + q.length : Nat) : Int) := by omega
        have ha0 : 0 ≤ a1 := by omega
        have ham : a1 < (ms.length : Int) := by omega
        have hat2 : a1.toNat = pre.length + q.length := by omega
        have hq1 : IntKind.i64.wrap (a1 - 1) = a1 - 1 := IntWalk.i64_in _ (by omega)
        have hq2 : IntKind.i64.wrap (need - 1) = need - 1 := IntWalk.i64_in _ (by omega)
        have hq3 : IntKind.i64.wrap (need + 1) = need + 1 := IntWalk.i64_in _ (by omega)
        have hMM : ∀ t2 : List Tm, q = postL t2 → (pre.length : Int) + (postL t2).length - 1 = a1 - 1 ∧ ms = pre ++ postL t2 ++ (m :: rest') := fun t2 h => ⟨by rw [← h]; omega, by rw [← h, hms, hpe]; simp⟩
        have HMM := Lib.hid hMM
        have HNL := Lib.hid hnl
        clear hpe hpl hnl hgm hgm2 hMM hnd hat hms hmsl hplen ha0 ham hat2 HPL HPE HAT HMS HND
        have hpx : pre.length ≤ pre.length + q.length := Nat.le_add_right _ _
        generalize hix2 : pre.length + q.length = ix at *
        clear hix2
        subst hai
        rcases hcase with ⟨hk, hq⟩ | ⟨hk, x, hq⟩ | ⟨hk, x, y, hq⟩
        · rw [hk] at hcell
          go_wp2_with fail
          go_roundw
          case rel => exact ⟨ts', m :: rest', need - 1, (ix : Int) - 1, by first | rfl | rw [hq2], by first | rfl | rw [hq1], by have := HNL.out; omega, (HMM.out ts' hq).1.symm, (HMM.out ts' hq).2, by trivial⟩
          case measure => simp [intOf]; omega
        · rw [hk] at hcell
          go_wp2_with fail
          go_roundw
          case rel => exact ⟨ts' ++ [x], m :: rest', need, (ix : Int) - 1, by first | rfl | rw [hq2], by first | rfl | rw [hq1], by have := HNL.out; simp; omega, (HMM.out _ hq).1.symm, (HMM.out _ hq).2, by trivial⟩
          case measure => simp [intOf]; omega
        · have e0 : (m.kind == 0) = false := by rcases hk with h | h <;> rw [h] <;> rfl
          have e3 : (m.kind == 3) = false := by rcases hk with h | h <;> rw [h] <;> rfl
          clear hk
          generalize m.kind = mk at *
          go_wp2_with fail
          go_roundw
          case rel => exact ⟨ts' ++ [x, y], m :: rest', need + 1, (ix : Int) - 1, by first | rfl | rw [hq3], by first | rfl | rw [hq1], by have := HNL.out; simp; omega, (HMM.out _ hq).1.symm, (HMM.out _ hq).2, by trivial⟩
          case measure => simp [intOf]; omega
    · obtain rfl : ts = [] := List.eq_nil_of_length_eq_zero (by omega)
      have ha1 : a1 = (pre.length : Int) - 1 := by rw [hat, postL_nil]; simp
      have hp9 : pre.length ≤ 9 := by omega
      have hq1 : IntKind.i64.wrap (a1 + 1) = (pre.length : Int) := by rw [IntWalk.i64_in _ (by omega)]; omega
      clear hat hms hnd hmsl hplen ha1
      go_wp2_with fail
      go_ret
      exact ⟨rfl, rfl⟩

theorem IsMarks.cells {w : World} {a : Option Addr} {n cap : Nat} {ms : List Mk} (h : IsMarks w (.slice a n cap) ms) (h0 : 0 < ms.length) : ∃ g off : Nat, a = some ⟨g, off, none⟩ ∧ n = ms.length ∧ n ≤ cap ∧ cap ≤ maxLen ∧ g < w.heap.size ∧ ∀ k (h : k < ms.length), markAt w g (off + k * 5) ms[k] := by
  obtain ⟨a', cap', he, h1, h2, h3⟩ := h
  simp only [Value.slice.injEq] at he
  obtain ⟨rfl, rfl, rfl⟩ := he
  obtain ⟨g, off, rfl, hg, hc⟩ := h3.resolve_left (fun e => by rw [e] at h0; exact absurd h0 (Nat.lt_irrefl 0))
  exact ⟨g, off, rfl, rfl, h1, h2, hg, hc⟩
theorem IsMarks.slice {w : World} {v : Value} {ms : List Mk} (h : IsMarks w v ms) : ∃ a n c, v = .slice a n c := by
  obtain ⟨a, cap, rfl, _⟩ := h
  exact ⟨_, _, _, rfl⟩
end Go.Proofs.Ytlbblfbiiceofaa

namespace Go.Proofs.Ytlbblfbiiceofaa
open Go.RowKit

def UnderPost (m : Mk) (w : World) (e : Ending) (w' : World) : Prop := ∃ u : Int, e = .returned (.tuple #[.int .i64 u, .bool m.fine]) ∧ (m.fine = true → u = (m.under : Int)) ∧ Below w.heap.size w w'
theorem fine_void {k : Int} {r : Ru} (h : k = 1 ∨ k = 2 ∨ k = 3) : (Mk.mk k r).fine = r.isVoid := by
  rcases h with rfl | rfl | rfl <;> simp [Mk.fine]
theorem isVoid_parts (a : Int) (b c : ByteArray) (d : Int) : (Ru.mk a b c d).isVoid = ((a == 0) && (b.toList == []) && (c.toList == []) && (d == 0)) := by
  have e : ∀ t : ByteArray, noThen t = (t.toList == []) := fun t => by
    rw [ByteArray.toList_eq]
    cases t with
    | mk l => cases l with
      | mk l => cases l <;> simp [noThen]
  have f : ∀ x : Int, decide (x = 0) = (x == 0) := fun x => by by_cases h : x = 0 <;> simp [h]
  simp only [Ru.isVoid, e, f]

set_option maxHeartbeats 1600000 in
theorem partsUnder_any (m : Mk) (hm : m.wf) (w : World) : Calls Try.prog 88 #[m.val] w (UnderPost m w) := by
  obtain ⟨k, a, b, c, d⟩ := m
  obtain ⟨-, -, h1, h2, -⟩ := hm
  show Calls Try.prog _ #[.agg #[.int .i64 k, .int .i64 a, .string b, .string c, .int .i64 d]] w _
  by_cases k0 : k = 0
  · subst k0
    have HF : Hid ((Mk.mk 0 ⟨a, b, c, d⟩).fine = (Ru.mk a b c d).ok) := Lib.hid (by simp [Mk.fine])
    have HU : Hid ((Mk.mk 0 ⟨a, b, c, d⟩).under = 0) := Lib.hid (by simp [Mk.under])
    go_enter Try.func88, Try.ntmps88
    go_wp2_with (go_at_call 89; refine (implRuleOk_any a b c d _ h1 h2).mono ?_; rintro e w' ⟨rfl, hb⟩)
    go_ret2
    exact ⟨0, by rw [HF.out]; rfl, fun _ => by rw [HU.out]; rfl, (Go.Joins.below_alloc1 _ _).trans (hb.mono (by simp))⟩
  · by_cases k123 : k = 1 ∨ k = 2 ∨ k = 3
    · have HF : Hid ((Mk.mk k ⟨a, b, c, d⟩).fine = ((a == 0) && (b.toList == []) && (c.toList == []) && (d == 0))) := Lib.hid (by rw [fine_void k123, isVoid_parts])
      have HU : Hid (((Mk.mk k ⟨a, b, c, d⟩).under : Int) = if k = 3 then 1 else 2) := Lib.hid (by simp only [Mk.under]; rw [if_neg k0]; split <;> rfl)
      have hveq : ∀ W : World, (if a = 0 then if b.toList = [] then if c.toList = [] then if d = 0 then Result.ok (Next.value (Value.bool true)) W else Result.ok (Next.value (Value.bool false)) W else Result.ok (Next.value (Value.bool false)) W else Result.ok (Next.value (Value.bool false)) W else Result.ok (Next.value (Value.bool false)) W) = Result.ok (Next.value (Value.bool (Mk.mk k ⟨a, b, c, d⟩).fine)) W := fun W => by
        rw [HF.out]
        by_cases ha : a = 0
        · by_cases hb : b.toList = []
          · by_cases hc : c.toList = []
            · by_cases hd : d = 0
              · simp [ha, hb, hc, hd]
              · simp [ha, hb, hc, hd]
            · simp [ha, hb, hc]
          · simp [ha, hb]
        · simp [ha]
      clear k0 HF
      generalize hfb : (Mk.mk k ⟨a, b, c, d⟩).fine = fb at *
      have HFB := Lib.hid hfb
      clear hfb
      rcases k123 with rfl | rfl | rfl
      · go_enter Try.func88, Try.ntmps88
        go_wp2_with fail
        go_region
        go_wp2_with fail
        go_ret2
        exact ⟨2, by rw [HFB.out]; rfl, fun _ => by rw [HU.out]; rfl, (Go.Joins.below_alloc1 _ _).drew⟩
      · go_enter Try.func88, Try.ntmps88
        go_wp2_with fail
        go_region
        go_wp2_with fail
        go_ret2
        exact ⟨2, by rw [HFB.out]; rfl, fun _ => by rw [HU.out]; rfl, (Go.Joins.below_alloc1 _ _).drew⟩
      · go_enter Try.func88, Try.ntmps88
        go_wp2_with fail
        go_region
        go_wp2_with fail
        go_ret2
        exact ⟨1, by rw [HFB.out]; rfl, fun _ => by rw [HU.out]; rfl, (Go.Joins.below_alloc1 _ _).drew⟩
    · have HF : Hid ((Mk.mk k ⟨a, b, c, d⟩).fine = false) := Lib.hid (by simp only [Mk.fine]; rw [if_neg k0, if_neg k123])
      have e1 : (k == 0) = false := by simpa using k0
      have e2 : (k == 1) = false := by simp; omega
      have e3 : (k == 2) = false := by simp; omega
      have e4 : (k == 3) = false := by simp; omega
      clear k0 k123
      go_enter Try.func88, Try.ntmps88
      go_wp2_with fail
      go_ret2
      exact ⟨0, by rw [HF.out]; rfl, (fun h => absurd h (by rw [HF.out]; decide)), Go.Joins.below_alloc1 _ _⟩
end Go.Proofs.Ytlbblfbiiceofaa

namespace Go.Proofs.Ytlbblfbiiceofaa
open Go.RowKit

theorem termOk_long {ts : List Mk} (h : 9 < ts.length) : termOk ts = false := by
  simp only [termOk, Bool.and_eq_false_iff, decide_eq_false_iff_not]
  exact .inl (by omega)
theorem termOk_end {ts : List Mk} {p : Nat} (h : leftOf (ts.take ts.length) 0 = some p) (hl : ts.length ≤ 9) : termOk ts = ((p : Int) == 1) := by
  rw [List.take_length] at h
  have e : decide (ts.length ≤ 9) = true := decide_eq_true hl
  rw [termOk, h, e, Bool.true_and]
  by_cases hp : p = 1
  · subst hp; rfl
  · rw [decide_eq_false (by simpa using hp)]
    have : ((p : Int) == 1) = false := by simp; omega
    rw [this]
theorem leftOf_yes {ts : List Mk} {k p : Nat} (hk : k < ts.length) (h : leftOf (ts.take k) 0 = some p) (hf : ts[k].fine = true) (hu : ts[k].under ≤ p) : leftOf (ts.take (k + 1)) 0 = some (p + 1 - ts[k].under) := by
  rw [leftOf_succ hk h, stepP, if_pos ⟨hf, hu⟩]
theorem leftOf_no {ts : List Mk} {k p : Nat} (hk : k < ts.length) (h : leftOf (ts.take k) 0 = some p) (hf : ¬ (ts[k].fine = true ∧ ts[k].under ≤ p)) : termOk ts = false :=
  termOk_stop (k := k + 1) (by rw [leftOf_succ hk h, stepP, if_neg hf])
theorem left_le {ts : List Mk} {k p : Nat} (hk : k ≤ ts.length) (h : leftOf (ts.take k) 0 = some p) : p ≤ k := by
  have := leftOf_le _ _ _ h
  rw [List.length_take] at this
  omega
theorem Mk.under_le (m : Mk) : m.under ≤ 2 := by
  unfold Mk.under
  by_cases h0 : m.kind = 0
  · rw [if_pos h0]; omega
  · rw [if_neg h0]
    by_cases h3 : m.kind = 3
    · rw [if_pos h3]; omega
    · rw [if_neg h3]; exact Nat.le_refl _

set_option maxHeartbeats 1600000 in
theorem implTermOk_any (ms : List Mk) (hwf : ∀ m ∈ ms, m.wf) (v : Value) (w : World) (h : IsMarks w v ms) :
    Calls Try.prog 70 #[v] w fun e w' => e = .returned (.bool (termOk ms)) ∧ Below w.heap.size w w' := by
  obtain ⟨a, cap, rfl, ha1, ha2, ha⟩ := h
  have HA := Lib.hid ha
  have HWF := Lib.hid hwf
  unfold maxLen at ha2
  clear ha hwf
  by_cases hb : 9 < ms.length
  · have HE := Lib.hid (termOk_long hb)
    go_enter Try.func70, Try.ntmps70
    go_wp2_with fail
    go_ret
    exact ⟨ret_bool HE.out.symm, Below.refl _ _⟩
  · go_enter Try.func70, Try.ntmps70
    go_wp2_with fail
    go_loopw [3, 13] (fun l i wr => ∃ (k p : Nat), k ≤ ms.length ∧ i = .int .i64 k ∧ l = .int .i64 p ∧ leftOf (ms.take k) 0 = some p ∧ Below w.heap.size w wr) (fun _ i _ => ms.length - (intOf i).toNat)
    case atStart => exact ⟨0, 0, Nat.zero_le _, rfl, rfl, rfl, Below.refl _ _⟩
    case round =>
      obtain ⟨k, p, hk, rfl, rfl, hp, hbel⟩ := hrel
      have hpk := left_le hk hp
      by_cases hlt : k < ms.length
      · obtain ⟨g, off, rfl, hg, hc⟩ := HA.out.resolve_left (fun h => by rw [h] at hlt; exact absurd hlt (Nat.not_lt_zero k))
        obtain ⟨c0, c1, c2, c3, c4⟩ := (hc k hlt).below hbel hg
        have HU := Lib.hid (fun W => partsUnder_any ms[k] (HWF.out ms[k] (List.getElem_mem hlt)) W)
        have HY := Lib.hid (leftOf_yes hlt hp)
        have HN := Lib.hid (leftOf_no hlt hp)
        have BB := Lib.hid hbel
        clear hc hbel hp
        generalize ms[k] = m at *
        obtain ⟨k1, r1, l1, t1, n1⟩ := m
        have HU2 : Hid (∀ W, Calls Try.prog 88 #[.agg #[.int .i64 k1, .int .i64 r1, .string l1, .string t1, .int .i64 n1]] W (UnderPost ⟨k1, r1, l1, t1, n1⟩ W)) := Lib.hid HU.out
        clear HU
        simp only at c0 c1 c2 c3 c4
        go_wp2_with fail
        refine (HU2.out _).mono ?_
        rintro e w2 ⟨u, rfl, hu, hb2⟩
        have B2 := Lib.hid (BB.out.trans (((Below.refl wr.heap.size wr).alloc (Nat.le_refl _) _).trans (hb2.mono (by simp)) |>.mono BB.out.size))
        clear hb2
        generalize (Mk.mk k1 ⟨r1, l1, t1, n1⟩).fine = fb at *
        have hu3 := Mk.under_le ⟨k1, r1, l1, t1, n1⟩
        generalize (Mk.mk k1 ⟨r1, l1, t1, n1⟩).under = uu at *
        cases fb with
        | false =>
          have HE := Lib.hid (HN.out (by simp))
          clear hu
          go_wp2_with fail
          go_ret
          exact ⟨ret_bool HE.out.symm, B2.out⟩
        | true =>
          have hu' := hu rfl
          subst hu'
          clear hu
          by_cases hup : uu ≤ p
          · have hp2 := Lib.hid (HY.out rfl hup)
            go_wp2_with fail
            go_roundw
            case rel => exact ⟨k + 1, p + 1 - uu, by omega, by go_num, by go_num, hp2.out, B2.out⟩
            case measure => simp [intOf]; omega
          · have HE := Lib.hid (HN.out (fun h => hup h.2))
            go_wp2_with fail
            go_ret
            exact ⟨ret_bool HE.out.symm, B2.out⟩
      · obtain rfl : k = ms.length := by omega
        have HE := Lib.hid (termOk_end hp (by omega))
        clear hp
        go_wp2_with fail
        go_ret
        exact ⟨ret_bool HE.out.symm, hbel⟩

set_option maxHeartbeats 1600000 in
theorem specTermOk_any (ms : List Mk) (v : Value) (w : World) (h : IsMarks w v ms) (hl : ms.length ≤ 1048576) :
    Calls Try.prog 35 #[v] w fun e w' => e = .returned (.bool (termOk ms)) ∧ Below w.heap.size w w' := by
  obtain ⟨a, cap, rfl, ha1, ha2, ha⟩ := h
  have HA := Lib.hid ha
  unfold maxLen at ha2
  clear ha
  go_enter Try.func35, Try.ntmps35
  go_wp2_with fail
  go_loopw [3, 4] (fun l i wr => ∃ (k p : Nat), k ≤ ms.length ∧ i = .int .i64 k ∧ l = .int .i64 p ∧ leftOf (ms.take k) 0 = some p ∧ Below w.heap.size w wr) (fun _ i _ => ms.length - (intOf i).toNat)
  case atStart => exact ⟨0, 0, Nat.zero_le _, rfl, rfl, rfl, Below.refl _ _⟩
  case round =>
    obtain ⟨k, p, hk, rfl, rfl, hp, hbel⟩ := hrel
    have hpk := left_le hk hp
    by_cases hlt : k < ms.length
    · obtain ⟨g, off, rfl, hg, hc⟩ := HA.out.resolve_left (fun h => by rw [h] at hlt; exact absurd hlt (Nat.not_lt_zero k))
      obtain ⟨c0, c1, c2, c3, c4⟩ := (hc k hlt).below hbel hg
      have HCK := Lib.hid (fun w' (hb : Below w.heap.size w w') => (hc k hlt).below hb hg)
      have HY := Lib.hid (leftOf_yes hlt hp)
      have HN := Lib.hid (leftOf_no hlt hp)
      have BB := Lib.hid hbel
      clear hc hbel hp
      generalize ms[k] = m at *
      obtain ⟨k1, r1, l1, t1, n1⟩ := m
      have HC2 : Hid (∀ w', Below w.heap.size w w' → w'.cell? ⟨g, off + k * 5, none⟩ = some (.int .i64 k1) ∧ w'.cell? ⟨g, off + k * 5 + 1, none⟩ = some (.int .i64 r1) ∧ w'.cell? ⟨g, off + k * 5 + 2, none⟩ = some (.string l1) ∧ w'.cell? ⟨g, off + k * 5 + 3, none⟩ = some (.string t1) ∧ w'.cell? ⟨g, off + k * 5 + 4, none⟩ = some (.int .i64 n1)) := Lib.hid HCK.out
      clear HCK
      simp only at c0 c1 c2 c3 c4
      by_cases k0 : k1 = 0
      · subst k0
        have HR := Lib.hid (fun W => specRuleOk_any r1 l1 t1 n1 W)
        have hf : (Mk.mk 0 ⟨r1, l1, t1, n1⟩).fine = (Ru.mk r1 l1 t1 n1).ok := by simp [Mk.fine]
        have hu : (Mk.mk 0 ⟨r1, l1, t1, n1⟩).under = 0 := by simp [Mk.under]
        rw [hf, hu] at HY HN
        clear hf hu
        generalize (Ru.mk r1 l1 t1 n1).ok = fb at *
        cases fb with
        | true =>
          have hp2 := Lib.hid (HY.out rfl (Nat.zero_le _))
          go_wp2_with (go_at_call 69; refine (HR.out _).mono ?_; rintro e w2 ⟨rfl, hb2⟩)
          go_roundw
          case rel => exact ⟨k + 1, p + 1 - 0, by omega, by go_num, by go_num, hp2.out, BB.out.trans (hb2.mono BB.out.size)⟩
          case measure => simp [intOf]; omega
        | false =>
          have HE := Lib.hid (HN.out (by simp))
          go_wp2_with (go_at_call 69; refine (HR.out _).mono ?_; rintro e w2 ⟨rfl, hb2⟩; obtain ⟨d0, d1, d2, d3, d4⟩ := HC2.out w2 (BB.out.trans (hb2.mono BB.out.size)))
          go_ret
          exact ⟨ret_bool HE.out.symm, BB.out.trans (hb2.mono BB.out.size)⟩
      · by_cases k123 : k1 = 1 ∨ k1 = 2 ∨ k1 = 3
        · have hf := fine_void (r := ⟨r1, l1, t1, n1⟩) k123
          by_cases hv : (Ru.mk r1 l1 t1 n1).isVoid = true
          · have hve := Ru.isVoid_iff.1 hv
            simp only [Ru.void, Ru.mk.injEq] at hve
            obtain ⟨rfl, rfl, rfl, rfl⟩ := hve
            rw [hf, hv] at HY HN
            clear hf hv k0
            rcases k123 with rfl | rfl | rfl
            · have hu : (Mk.mk 1 ⟨0, ⟨#[]⟩, ⟨#[]⟩, 0⟩).under = 2 := by simp [Mk.under]
              rw [hu] at HY HN
              clear hu
              by_cases h2 : 2 ≤ p
              · have hp2 := Lib.hid (HY.out rfl h2)
                go_wp2_with fail
                go_roundw
                case rel => exact ⟨k + 1, p + 1 - 2, by omega, by go_num, by go_num, hp2.out, BB.out⟩
                case measure => simp [intOf]; omega
              · have HE := Lib.hid (HN.out (fun h => h2 h.2))
                go_wp2_with fail
                go_ret
                exact ⟨ret_bool HE.out.symm, BB.out⟩
            · have hu : (Mk.mk 2 ⟨0, ⟨#[]⟩, ⟨#[]⟩, 0⟩).under = 2 := by simp [Mk.under]
              rw [hu] at HY HN
              clear hu
              by_cases h2 : 2 ≤ p
              · have hp2 := Lib.hid (HY.out rfl h2)
                go_wp2_with fail
                go_roundw
                case rel => exact ⟨k + 1, p + 1 - 2, by omega, by go_num, by go_num, hp2.out, BB.out⟩
                case measure => simp [intOf]; omega
              · have HE := Lib.hid (HN.out (fun h => h2 h.2))
                go_wp2_with fail
                go_ret
                exact ⟨ret_bool HE.out.symm, BB.out⟩
            · have hu : (Mk.mk 3 ⟨0, ⟨#[]⟩, ⟨#[]⟩, 0⟩).under = 1 := by simp [Mk.under]
              rw [hu] at HY HN
              clear hu
              by_cases h2 : 1 ≤ p
              · have hp2 := Lib.hid (HY.out rfl h2)
                go_wp2_with fail
                go_roundw
                case rel => exact ⟨k + 1, p + 1 - 1, by omega, by go_num, by go_num, hp2.out, BB.out⟩
                case measure => simp [intOf]; omega
              · have HE := Lib.hid (HN.out (fun h => h2 h.2))
                go_wp2_with fail
                go_ret
                exact ⟨ret_bool HE.out.symm, BB.out⟩
          · have hv' : (Ru.mk r1 l1 t1 n1).isVoid = false := by simpa using hv
            have HE := Lib.hid (HN.out (by rw [hf, hv']; simp))
            have hvp := isVoid_parts r1 l1 t1 n1
            rw [hv'] at hvp
            have hveq : ∀ W : World, (if r1 = 0 then if l1.toList = [] then if t1.toList = [] then if n1 = 0 then Result.ok (Next.value (Value.bool true)) W else Result.ok (Next.value (Value.bool false)) W else Result.ok (Next.value (Value.bool false)) W else Result.ok (Next.value (Value.bool false)) W else Result.ok (Next.value (Value.bool false)) W) = Result.ok (Next.value (Value.bool false)) W := fun W => by
              by_cases ha : r1 = 0
              · by_cases hb : l1.toList = []
                · by_cases hc : t1.toList = []
                  · by_cases hd : n1 = 0
                    · rw [ha, hb, hc, hd] at hvp; exact absurd hvp (by decide)
                    · simp [ha, hb, hc, hd]
                  · simp [ha, hb, hc]
                · simp [ha, hb]
              · simp [ha]
            clear hf hv hv' hvp k0
            rcases k123 with rfl | rfl | rfl
            · go_wp2_with fail
              go_ret
              exact ⟨ret_bool HE.out.symm, BB.out⟩
            · go_wp2_with fail
              go_ret
              exact ⟨ret_bool HE.out.symm, BB.out⟩
            · go_wp2_with fail
              go_ret
              exact ⟨ret_bool HE.out.symm, BB.out⟩
        · have hf : (Mk.mk k1 ⟨r1, l1, t1, n1⟩).fine = false := by simp only [Mk.fine]; rw [if_neg k0, if_neg k123]
          have HE := Lib.hid (HN.out (by rw [hf]; simp))
          have e1 : (k1 == 0) = false := by simpa using k0
          have e2 : ¬ k1 = 1 := fun h => k123 (.inl h)
          have e3 : ¬ k1 = 2 := fun h => k123 (.inr (.inl h))
          have e4 : ¬ k1 = 3 := fun h => k123 (.inr (.inr h))
          clear hf k123
          go_wp2_with fail
          go_ret
          exact ⟨ret_bool HE.out.symm, BB.out⟩
    · obtain rfl : k = ms.length := by omega
      by_cases h9 : ms.length ≤ 9
      · have HE := Lib.hid (termOk_end hp h9)
        by_cases hp1 : ((p : Int) == 1) = true
        · rw [hp1] at HE
          go_wp2_with fail
          go_ret
          exact ⟨ret_bool (by rw [HE.out]; first | rfl | exact decide_eq_true (by omega) | exact decide_eq_false (by omega)), hbel⟩
        · have hp1' : ((p : Int) == 1) = false := by simpa using hp1
          rw [hp1'] at HE
          clear hp1
          go_wp2_with fail
          go_ret
          exact ⟨ret_bool HE.out.symm, hbel⟩
      · have HE := Lib.hid (termOk_long (by omega : 9 < ms.length))
        by_cases hp1 : ((p : Int) == 1) = true
        · go_wp2_with fail
          go_ret
          exact ⟨ret_bool (by rw [HE.out]; first | rfl | exact decide_eq_true (by omega) | exact decide_eq_false (by omega)), hbel⟩
        · have hp1' : ((p : Int) == 1) = false := by simpa using hp1
          clear hp1
          go_wp2_with fail
          go_ret
          exact ⟨ret_bool HE.out.symm, hbel⟩
end Go.Proofs.Ytlbblfbiiceofaa
