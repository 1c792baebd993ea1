/- Slices of strings: how they lie in memory. No program, no condition. The laws' own words on slices of strings: the size, the copy, the comparison. No condition. The plain mathematics of chapter 10 (rosters): no program is named here. No condition. Contracts of the library's slices at this translation (out of the library's shelf): Clone, ContainsFunc at strings. No condition. RosterOk and NeedsOk of the program and of the model: what each returns, for every argument. No condition. DayOf and CoverOk of the program and of the model: what each returns, for every argument. No condition. CoverOk of  -/
import Derived.Test.YtlbblfbiiceofaaReads
import Derived.Test.YtlbblfbiiceofaaCopies
import Derived.Deep.QuietTactic
import Derived.BigQuiet
import Derived.WalkSmall
import Derived.Test.YtlbblfbiiceofaaMath
import Derived.Shelf.Slices.Clone
import Derived.Shelf.SlicesE.IndexFunc
import Derived.Test.YtlbblfbiiceofaaProg
import Derived.Test.YtlbblfbiiceofaaRolled
import Derived.Deep.RegionWith
import Derived.OpenShut
import Derived.Test.YtlbblfbiiceofaaKA
import Derived.Deep.AppendLies
import Derived.Maps.AppendAt
import Derived.Laws.Strings2
import Derived.Deep.RegionHeld3
import Derived.Outline
import Derived.Deep.CutRange
import Derived.Deep.CutBlock
import Derived.BigRegion

namespace Go.Proofs.Ytlbblfbiiceofaa
open Go.RowKit Go.ChangeShapes Go.WideShapes Go.ChangeAt Go.Deep

/-- a value that reads as a list of strings -/
def IsStrs (w : World) (v : Value) (xs : List ByteArray) : Prop :=
  ∃ (a : Option Addr) (cap : Nat), v = .slice a xs.length cap ∧ xs.length ≤ cap ∧ cap ≤ maxLen ∧
    (xs = [] ∨ ∃ g off : Nat, a = some ⟨g, off, none⟩ ∧ g < w.heap.size ∧ ∀ k (h : k < xs.length), w.cell? ⟨g, off + k, none⟩ = some (.string xs[k]))
/-- no string is too long -/
def Short (xs : List ByteArray) : Prop := ∀ s ∈ xs, s.size ≤ maxLen
theorem IsStrs.nil (w : World) : IsStrs w (.slice none 0 0) [] := ⟨none, 0, rfl, Nat.le_refl _, Nat.zero_le _, .inl rfl⟩
theorem IsStrs.below {w w' : World} {v : Value} {xs : List ByteArray} (h : IsStrs w v xs) (hb : Below w.heap.size w w') : IsStrs w' v xs := by
  obtain ⟨a, cap, hv, h1, h2, h3⟩ := h
  exact ⟨a, cap, hv, h1, h2, h3.imp id fun ⟨g, off, ha, hg, hc⟩ => ⟨g, off, ha, Nat.lt_of_lt_of_le hg hb.size, fun k hk => (hb.cell (p := ⟨g, off + k, none⟩) hg).trans (hc k hk)⟩⟩
theorem IsStrs.of_owns {w : World} {base : Nat} {e : TypeId} {v : Value} {xs : List ByteArray} (h : w.ownsRow base e 1 v xs.length (xs.map Value.string)) : IsStrs w v xs := by
  rcases h.2 with ⟨rfl, hn⟩ | ⟨g, cap, cur, rfl, hb, hg, h1, h2, h3, h4⟩
  · obtain rfl : xs = [] := List.eq_nil_of_length_eq_zero hn
    exact IsStrs.nil w
  · refine ⟨some ⟨g, 0, none⟩, cap, rfl, h1, h2, .inr ⟨g, 0, rfl, (h.lt g rfl).2, fun k hk => ?_⟩⟩
    rw [Nat.zero_add, h.cellAt k (by omega)]
    simp [hk]
/-- written out -/
theorem IsStrs.form {w : World} {v : Value} {xs : List ByteArray} (h : IsStrs w v xs) : ∃ a c, v = .slice a xs.length c ∧ xs.length ≤ c ∧ c ≤ 9223372036854775807 := by
  obtain ⟨a, c, rfl, h1, h2, _⟩ := h
  unfold maxLen at h2
  exact ⟨a, c, rfl, h1, h2⟩
/-- the strings of a place on -/
theorem IsStrs.at {w : World} {a : Option Addr} {n c : Nat} {xs : List ByteArray} (h : IsStrs w (.slice a n c) xs) (h0 : 0 < xs.length) : ∃ g off : Nat, a = some ⟨g, off, none⟩ ∧ g < w.heap.size ∧ ∀ k (h : k < xs.length), w.cell? ⟨g, off + k, none⟩ = some (.string xs[k]) := by
  obtain ⟨a', c', hv, -, -, h3⟩ := h
  simp only [Value.slice.injEq] at hv
  obtain ⟨rfl, _, rfl⟩ := hv
  exact h3.resolve_left (fun e => by rw [e] at h0; exact absurd h0 (Nat.lt_irrefl _))
section
variable {H : Type} {enc : TypeId × Value → H} {P : Program} {w : World}
end
end Go.Proofs.Ytlbblfbiiceofaa

namespace Go.Proofs.Ytlbblfbiiceofaa
open Go.RowKit

theorem bytes_ext' {s t : ByteArray} (h : s.data.toList = t.data.toList) : s = t := by
  cases s; cases t; simp only [ByteArray.mk.injEq]; exact Array.toList_inj.1 h

theorem infoStrC : (Try.prog.info? 9).map (fun i => (i.zero, i.size, i.bytes)) = some (some (.string ⟨#[]⟩), 1, 16) := by kernel_rfl
/-- a list of which the first k are copied -/
def cpToS (xs : List ByteArray) (k : Nat) : List ByteArray := xs.take k ++ List.replicate (xs.length - k) ⟨#[]⟩
/-- a fresh slice that holds a list of strings -/
def CopyPostS (xs : List ByteArray) (w : World) (e : Ending) (w' : World) : Prop :=
  ∃ v, e = .returned v ∧ w'.ownsRow w.heap.size 9 1 v xs.length (xs.map Value.string) ∧ Below w.heap.size w w'

end Go.Proofs.Ytlbblfbiiceofaa

namespace Go.Proofs.Ytlbblfbiiceofaa

/-- how many days a roster has -/
def daysOf (xs : List ByteArray) : Nat := (xs.headD ⟨#[]⟩).size
/-- a row of so many letters -/
def rowFits (d : Nat) (s : ByteArray) : Bool := decide (s.size = d) && wordOk s
/-- a roster -/
def rosterOk (xs : List ByteArray) : Bool := decide (1 ≤ xs.length) && decide (xs.length ≤ 4) && decide (daysOf xs ≤ 12) && xs.all (rowFits (daysOf xs))
theorem rosterOk_iff {xs : List ByteArray} : rosterOk xs = true ↔ 1 ≤ xs.length ∧ xs.length ≤ 4 ∧ daysOf xs ≤ 12 ∧ ∀ s ∈ xs, s.size = daysOf xs ∧ wordOk s = true := by
  simp only [rosterOk, Bool.and_eq_true, decide_eq_true_eq, List.all_eq_true, rowFits]
  constructor
  · rintro ⟨⟨⟨h1, h2⟩, h3⟩, h4⟩; exact ⟨h1, h2, h3, h4⟩
  · rintro ⟨h1, h2, h3, h4⟩; exact ⟨⟨⟨h1, h2⟩, h3⟩, h4⟩
theorem rosterOk_short {xs : List ByteArray} (h : xs.length < 1) : rosterOk xs = false := by simp [rosterOk]; omega
theorem rosterOk_long {xs : List ByteArray} (h : 4 < xs.length) : rosterOk xs = false := by simp [rosterOk]; omega
theorem rosterOk_days {xs : List ByteArray} (h : 12 < daysOf xs) : rosterOk xs = false := by
  have : decide (daysOf xs ≤ 12) = false := decide_eq_false (by omega)
  simp [rosterOk, this]
theorem rosterOk_rest {xs : List ByteArray} (h1 : 1 ≤ xs.length) (h2 : xs.length ≤ 4) (h3 : daysOf xs ≤ 12) : rosterOk xs = xs.all (rowFits (daysOf xs)) := by
  simp [rosterOk, h1, h2, h3]
theorem daysOf_get {xs : List ByteArray} (h : 0 < xs.length) : daysOf xs = xs[0].size := by
  cases xs with
  | nil => exact absurd h (Nat.not_lt_zero 0)
  | cons a l => rfl
theorem roster_row {xs : List ByteArray} (h : rosterOk xs = true) (k : Nat) (hk : k < xs.length) : xs[k].size = daysOf xs ∧ wordOk xs[k] = true := (rosterOk_iff.1 h).2.2.2 _ (List.getElem_mem hk)
/-- needs -/
def needsOk (l d : Int) : Bool := decide (0 ≤ l) && decide (0 ≤ d) && decide (l + d ≤ 4)

/-- the letters of a day, and how many rows they come from -/
def dayBytes (xs : List ByteArray) (d : Nat) : List UInt8 := xs.map (fun s => byteAt s d)
def dayStr (xs : List ByteArray) (d : Nat) : ByteArray := ⟨(dayBytes xs d).toArray⟩
def dayOf (xs : List ByteArray) (d : Int) : ByteArray := if rosterOk xs = true ∧ 0 ≤ d ∧ d < daysOf xs then dayStr xs d.toNat else ⟨#[]⟩
theorem dayOf_yes {xs : List ByteArray} {d : Nat} (h : rosterOk xs = true) (hd : d < daysOf xs) : dayOf xs d = dayStr xs d := by
  rw [dayOf, if_pos ⟨h, by omega, by omega⟩]; rfl
theorem dayOf_no {xs : List ByteArray} {d : Int} (h : ¬ (rosterOk xs = true ∧ 0 ≤ d ∧ d < daysOf xs)) : dayOf xs d = ⟨#[]⟩ := if_neg h
theorem dayStr_size (xs : List ByteArray) (d : Nat) : (dayStr xs d).size = xs.length := by
  show (dayBytes xs d).toArray.size = _
  simp [dayBytes]
theorem dayBytes_take (xs : List ByteArray) (d k : Nat) (h : k < xs.length) : dayBytes (xs.take (k + 1)) d = dayBytes (xs.take k) d ++ [byteAt xs[k] d] := by
  rw [List.take_succ_eq_append_getElem h]; simp only [dayBytes, List.map_append, List.map_cons, List.map_nil]
theorem isL_byteAt {s : ByteArray} (h : wordOk s = true) (k : Nat) (hk : k < s.size) : isL (byteAt s k) = true := by
  cases hb : isL (byteAt s k) with
  | true => rfl
  | false =>
    rw [← byteAt_eq s k hk] at hb
    have := allL_false s k hk hb
    simp [wordOk, this] at h
theorem dayStr_word {xs : List ByteArray} (h : rosterOk xs = true) (d : Nat) (hd : d < daysOf xs) : wordOk (dayStr xs d) = true := by
  obtain ⟨h1, h4, -, ha⟩ := rosterOk_iff.1 h
  have hs := dayStr_size xs d
  have : allL (dayStr xs d).data.toList = true := by
    show allL (dayBytes xs d).toArray.toList = true
    rw [List.toList_toArray, allL, List.all_eq_true]
    intro c hc
    obtain ⟨s, hs, rfl⟩ := List.mem_map.1 hc
    obtain ⟨e, hw⟩ := ha s hs
    exact isL_byteAt hw d (by omega)
  rw [wordOk, this, Bool.true_and]
  exact decide_eq_true (by omega)

/-- so many have d, and so many n -/
def covers (s : ByteArray) (l d : Int) : Bool := countOf s ⟨#[100]⟩ == l && countOf s ⟨#[110]⟩ == d
def coverTo (xs : List ByteArray) (l d : Int) (k : Nat) : Bool := (List.range k).all (fun j => covers (dayStr xs j) l d)
def coverOk (xs : List ByteArray) (l d : Int) : Bool := rosterOk xs && needsOk l d && coverTo xs l d (daysOf xs)
theorem coverTo_succ (xs : List ByteArray) (l d : Int) (k : Nat) : coverTo xs l d (k + 1) = (coverTo xs l d k && covers (dayStr xs k) l d) := by
  simp [coverTo, List.range_succ]
theorem coverTo_false {xs : List ByteArray} {l d : Int} {k n : Nat} (hk : k < n) (h : covers (dayStr xs k) l d = false) : coverTo xs l d n = false := by
  rw [coverTo, List.all_eq_false]
  exact ⟨k, List.mem_range.2 hk, by simp [h]⟩
theorem coverOk_false {xs : List ByteArray} {l d : Int} {k : Nat} (hk : k < daysOf xs) (h : covers (dayStr xs k) l d = false) : coverOk xs l d = false := by
  simp [coverOk, coverTo_false hk h]
theorem coverOk_no1 {xs : List ByteArray} {l d : Int} (h : rosterOk xs = false) : coverOk xs l d = false := by simp [coverOk, h]
theorem coverOk_no2 {xs : List ByteArray} {l d : Int} (h : needsOk l d = false) : coverOk xs l d = false := by simp [coverOk, h]

/-- two rows exchanged -/
def exchOk (xs : List ByteArray) (a b : Int) : Bool := rosterOk xs && (decide (0 ≤ a) && decide (a < xs.length)) && (decide (0 ≤ b) && decide (b < xs.length)) && decide (a ≠ b)
def exchTo (xs : List ByteArray) (a b : Nat) : List ByteArray := (xs.set a (xs.getD b ⟨#[]⟩)).set b (xs.getD a ⟨#[]⟩)
def exch (xs : List ByteArray) (a b : Int) : List ByteArray := if exchOk xs a b = true then exchTo xs a.toNat b.toNat else []
theorem exch_no {xs : List ByteArray} {a b : Int} (h : exchOk xs a b = false) : exch xs a b = [] := by simp [exch, h]
theorem exch_yes {xs : List ByteArray} {a b : Nat} (h : exchOk xs a b = true) : exch xs a b = exchTo xs a b := by simp [exch, h]
theorem exchTo_length (xs : List ByteArray) (a b : Nat) : (exchTo xs a b).length = xs.length := by simp [exchTo]
theorem exchOk_iff {xs : List ByteArray} {a b : Int} : exchOk xs a b = true ↔ rosterOk xs = true ∧ (0 ≤ a ∧ a < xs.length) ∧ (0 ≤ b ∧ b < xs.length) ∧ a ≠ b := by
  simp only [exchOk, Bool.and_eq_true, decide_eq_true_eq]
  constructor
  · rintro ⟨⟨⟨h1, h2⟩, h3⟩, h4⟩; exact ⟨h1, h2, h3, h4⟩
  · rintro ⟨h1, h2, h3, h4⟩; exact ⟨⟨⟨h1, h2⟩, h3⟩, h4⟩
theorem exchTo_get {xs : List ByteArray} {a b : Nat} (ha : a < xs.length) (hb : b < xs.length) (k : Nat) (hk : k < (exchTo xs a b).length) :
    (exchTo xs a b)[k] = if k = b then xs[a] else if k = a then xs[b] else xs[k]'(by rw [exchTo_length] at hk; exact hk) := by
  have e1 : xs.getD a ⟨#[]⟩ = xs[a] := by simp [List.getD, ha]
  have e2 : xs.getD b ⟨#[]⟩ = xs[b] := by simp [List.getD, hb]
  simp only [exchTo, e1, e2, List.getElem_set]
  by_cases h1 : b = k
  · subst h1; simp
  · rw [if_neg h1, if_neg (show ¬ k = b from fun e => h1 e.symm)]
    by_cases h2 : a = k
    · subst h2; simp
    · rw [if_neg h2, if_neg (show ¬ k = a from fun e => h2 e.symm)]
theorem exchTo_perm {xs : List ByteArray} {a b : Nat} (ha : a < xs.length) (hb : b < xs.length) (s : ByteArray) : s ∈ exchTo xs a b ↔ s ∈ xs := by
  have hl := exchTo_length xs a b
  constructor
  · intro h
    obtain ⟨k, hk, rfl⟩ := List.mem_iff_getElem.1 h
    rw [exchTo_get ha hb]
    split
    · exact List.getElem_mem _
    · split <;> exact List.getElem_mem _
  · intro h
    obtain ⟨k, hk, rfl⟩ := List.mem_iff_getElem.1 h
    by_cases h1 : k = a
    · subst h1
      have := exchTo_get ha hb b (by omega)
      rw [if_pos rfl] at this
      rw [← this]; exact List.getElem_mem _
    · by_cases h2 : k = b
      · subst h2
        have := exchTo_get ha hb a (by omega)
        rw [if_neg (fun e => h1 e.symm), if_pos rfl] at this
        rw [← this]; exact List.getElem_mem _
      · have := exchTo_get ha hb k (by omega)
        rw [if_neg h2, if_neg h1] at this
        rw [← this]; exact List.getElem_mem _
theorem roster_all {xs ys : List ByteArray} (h : rosterOk xs = true) (hl : ys.length = xs.length) (hm : ∀ s, s ∈ ys → s ∈ xs) : rosterOk ys = true ∧ daysOf ys = daysOf xs := by
  obtain ⟨h1, h4, hd, ha⟩ := rosterOk_iff.1 h
  have hdd : daysOf ys = daysOf xs := by
    rw [daysOf_get (by omega)]
    exact (ha _ (hm _ (List.getElem_mem (by omega)))).1
  refine ⟨rosterOk_iff.2 ⟨by omega, by omega, by omega, fun s hs => ?_⟩, hdd⟩
  rw [hdd]
  exact ha s (hm s hs)
theorem exch_roster {xs : List ByteArray} {a b : Int} (h : exchOk xs a b = true) : rosterOk (exch xs a b) = true ∧ daysOf (exch xs a b) = daysOf xs ∧ (exch xs a b).length = xs.length := by
  obtain ⟨h1, h2, h3, -⟩ := exchOk_iff.1 h
  rw [exch, if_pos h]
  have := roster_all h1 (exchTo_length xs a.toNat b.toNat) (fun s hs => (exchTo_perm (by omega) (by omega) s).1 hs)
  exact ⟨this.1, this.2, exchTo_length _ _ _⟩
end Go.Proofs.Ytlbblfbiiceofaa

namespace Go.Proofs.Ytlbblfbiiceofaa
open Go.Shelf

def shCloneS_ren : Go.Shelf.Ren := ⟨fun | 16 => 66 | n => n, fun | 4 => 4 | 9 => 9 | 24 => 23 | n => n, fun | n => n⟩
set_option maxRecDepth 100000 in
theorem shCloneS_lays : Go.Proofs.Lays2.n16 Try.prog shCloneS_ren := {
  mixed := by kernel_rfl
  f16 := Try.func66.trans (congrArg some (by kernel_rfl))
  t4 := Try.underlying4
  a4 := Try.isAgg4
  z4 := Try.sizeOf4
  v4 := Try.zeroValue4
  t9 := Try.underlying9
  a9 := Try.isAgg9
  z9 := Try.sizeOf9
  v9 := Try.zeroValue9
  t24 := Try.underlying23
  a24 := Try.isAgg23
  z24 := Try.sizeOf23
  v24 := Try.zeroValue23
  i9 := by kernel_rfl }

def shContS_ren : Go.Shelf.Ren := ⟨fun | 6 => 79 | 8 => 54 | n => n, fun | 0 => 0 | 3 => 3 | 4 => 4 | 22 => 23 | 23 => 9 | 25 => 71 | n => n, fun | n => n⟩
set_option maxRecDepth 100000 in
theorem shContS_lays : Go.Proofs.SlLaysH.n8 Try.prog shContS_ren := {
  mixed := by kernel_rfl
  f6 := ⟨Try.f79.name, by decide, Try.func79.trans (congrArg some (by kernel_rfl))⟩
  f8 := ⟨Try.f54.name, by decide, Try.func54.trans (congrArg some (by kernel_rfl))⟩
  t0 := Try.underlying0
  a0 := Try.isAgg0
  z0 := Try.sizeOf0
  v0 := Try.zeroValue0
  t3 := Try.underlying3
  a3 := Try.isAgg3
  z3 := Try.sizeOf3
  v3 := Try.zeroValue3
  t4 := Try.underlying4
  a4 := Try.isAgg4
  z4 := Try.sizeOf4
  v4 := Try.zeroValue4
  t22 := Try.underlying23
  a22 := Try.isAgg23
  z22 := Try.sizeOf23
  v22 := Try.zeroValue23
  a23 := Try.isAgg9
  z23 := Try.sizeOf9
  t25 := Try.underlying71
  a25 := Try.isAgg71
  z25 := Try.sizeOf71
  v25 := Try.zeroValue71 }
end Go.Proofs.Ytlbblfbiiceofaa

namespace Go.Proofs.Ytlbblfbiiceofaa
open Go.RowKit

set_option maxHeartbeats 800000 in
theorem rowBad_any (d : Nat) (hd : d ≤ 12) (a : Addr) (W : World) (x : ByteArray) (hc : W.cell? a = some (.int .i64 (d : Int))) :
    Calls Try.prog 55 #[.string x, .pointer (some a)] W fun e w' => e = .returned (.bool (!rowFits d x)) ∧ ∃ q, w' = W.drewN q := by
  by_cases hx : x.size = d
  · have hne : ((x.size : Int) != (d : Int)) = false := by simp [hx]
    have HR : Hid (rowFits d x = wordOk x) := by
      have : rowFits d x = wordOk x := by simp [rowFits, hx]
      exact Lib.hid this
    have hm : x.size ≤ maxLen := by unfold maxLen; omega
    clear hx
    go_enter Try.func55, Try.ntmps55
    go_wp2_with (go_at_call 56; refine (implWordOk_any _ _ hm).mono ?_; rintro e w' ⟨rfl, rfl⟩)
    go_ret
    exact ⟨ret_bool (by rw [HR.out]), 0, rfl⟩
  · have hne : ((x.size : Int) != (d : Int)) = true := by simp; omega
    have HR : Hid (rowFits d x = false) := by
      have : rowFits d x = false := by simp [rowFits, hx]
      exact Lib.hid this
    clear hx
    go_enter Try.func55, Try.ntmps55
    go_wp2
    go_ret
    exact ⟨ret_bool (by rw [HR.out]; rfl), 0, rfl⟩
theorem contS_any (v : Value) (xs : List ByteArray) (d : Nat) (hd : d ≤ 12) (b : Nat) (w : World) (h : IsStrs w v xs) (h1 : 1 ≤ xs.length) (h4 : xs.length ≤ 4) (hb : b < w.heap.size) (hc : w.cell? ⟨b, 0, none⟩ = some (.int .i64 (d : Int))) :
    Calls Try.prog 54 #[v, .func (.func 55) #[] #[.pointer (some ⟨b, 0, none⟩)]] w fun e w' => e = .returned (.bool (!xs.all (rowFits d))) ∧ ∃ n, w' = w.drewN n := by
  obtain ⟨a, cap, rfl, ha1, ha2, ha⟩ := h
  have eg : ∀ args w, (callFunc 55 args).run Try.prog w = .ok (.enter 55 args) w := enters_of Try.func55 (by kernel_rfl) rfl
  obtain ⟨g, off, rfl, hg, hcc⟩ := ha.resolve_left (fun e => by rw [e] at h1; exact absurd h1 (by decide))
  refine (AnyE.slices_ContainsFunc shContS_lays Value.string (fun x => !rowFits d x) 55 #[.pointer (some ⟨b, 0, none⟩)] eg g off xs.length cap xs w (fun W x hW => rowBad_any d hd _ W x ((hW.cell (p := ⟨b, 0, none⟩) hb).trans hc)) (Nat.le_refl _) (by omega) (fun j hj => by rw [hcc j hj]; simp [hj])).mono ?_
  rintro e w' ⟨rfl, q, rfl⟩
  refine ⟨ret_bool ?_, q, rfl⟩
  rw [List.take_length, List.not_all_eq_any_not]

set_option maxHeartbeats 1600000 in
theorem implRosterOk_any (v : Value) (xs : List ByteArray) (hwf : Short xs) (w : World) (h : IsStrs w v xs) :
    Calls Try.prog 18 #[v] w fun e w' => e = .returned (.bool (rosterOk xs)) ∧ Below w.heap.size w w' := by
  have H := Lib.hid h
  obtain ⟨a, cap, rfl, ha1, ha2, ha⟩ := h
  unfold maxLen at ha2
  by_cases h1 : xs.length < 1
  · have HS := Lib.hid (rosterOk_short h1)
    clear ha
    go_enter Try.func18, Try.ntmps18
    go_wp2
    go_ret
    exact ⟨ret_bool HS.out.symm, by first | exact Below.refl _ _ | exact Go.Joins.below_alloc1 _ _⟩
  · by_cases h4 : 4 < xs.length
    · have HS := Lib.hid (rosterOk_long h4)
      clear ha
      go_enter Try.func18, Try.ntmps18
      go_wp2
      go_ret
      exact ⟨ret_bool HS.out.symm, by first | exact Below.refl _ _ | exact Go.Joins.below_alloc1 _ _⟩
    · obtain ⟨g, off, rfl, hg, hc⟩ := ha.resolve_left (fun h => by rw [h] at h1; exact h1 (by decide))
      have h0 : 0 < xs.length := by omega
      have c0 : w.cell? ⟨g, off, none⟩ = some (.string xs[0]) := hc 0 h0
      have hsz : xs[0].size ≤ 9223372036854775807 := by have := hwf xs[0] (List.getElem_mem h0); unfold maxLen at this; exact this
      have HD := Lib.hid (daysOf_get h0)
      have HLong : Hid (12 < daysOf xs → rosterOk xs = false) := Lib.hid rosterOk_days
      have HRest : Hid (daysOf xs ≤ 12 → rosterOk xs = xs.all (rowFits (daysOf xs))) := Lib.hid (rosterOk_rest (by omega) (by omega))
      have HCF : Hid (∀ (d : Nat), d ≤ 12 → ∀ (b : Nat) (W : World), IsStrs W (.slice (some ⟨g, off, none⟩) xs.length cap) xs → b < W.heap.size → W.cell? ⟨b, 0, none⟩ = some (.int .i64 (d : Int)) → Calls Try.prog 54 #[.slice (some ⟨g, off, none⟩) xs.length cap, .func (.func 55) #[] #[.pointer (some ⟨b, 0, none⟩)]] W fun e w' => e = .returned (.bool (!xs.all (rowFits d))) ∧ ∃ n, w' = W.drewN n) :=
        Lib.hid (fun d hd b W hI hb hcl => contS_any _ xs d hd b W hI (by omega) (by omega) hb hcl)
      rw [HD.out] at HLong HRest
      clear hc ha hwf HD
      generalize xs[0] = s0 at *
      by_cases hd : s0.size ≤ 12
      · have HR := Lib.hid (HRest.out hd)
        have HC2 := Lib.hid (HCF.out _ hd)
        clear HLong HRest HCF
        generalize xs.all (rowFits s0.size) = b at HR HC2
        go_enter Try.func18, Try.ntmps18
        go_wp2_with fail
        refine (HC2.out w.heap.size _ (H.out.below (Go.Joins.below_alloc1 _ _)) (by simp) (World.cell?_alloc_new w _ _ 0)).mono ?_
        rintro e w' ⟨rfl, n, rfl⟩
        go_wp2
        go_ret
        exact ⟨ret_bool (by first | (rw [HR.out]; done) | (rw [HR.out]; simp)), below_drewN (Go.Joins.below_alloc1 _ _) n⟩
      · have HR := Lib.hid (HLong.out (by omega))
        clear HLong HRest HCF
        go_enter Try.func18, Try.ntmps18
        go_wp2
        go_ret
        exact ⟨ret_bool HR.out.symm, Go.Joins.below_alloc1 _ _⟩

theorem roster_stop {xs : List ByteArray} (k : Nat) (hk : k < xs.length) (h : ¬ (wordOk xs[k] = true ∧ xs[k].size = daysOf xs ∧ xs[k].size ≤ 12)) : rosterOk xs = false := by
  cases hr : rosterOk xs with
  | false => rfl
  | true =>
    obtain ⟨h1, h2, h3, h4⟩ := rosterOk_iff.1 hr
    obtain ⟨h5, h6⟩ := h4 _ (List.getElem_mem hk)
    exact absurd ⟨h6, h5, by omega⟩ h

set_option maxHeartbeats 3200000 in
theorem specRosterOk_any (v : Value) (xs : List ByteArray) (hwf : Short xs) (w : World) (h : IsStrs w v xs) :
    Calls Try.prog 19 #[v] w fun e w' => e = .returned (.bool (rosterOk xs)) ∧ Below w.heap.size w w' := by
  obtain ⟨a, cap, rfl, ha1, ha2, ha⟩ := h
  unfold maxLen at ha2
  by_cases hin : 1 ≤ xs.length ∧ xs.length ≤ 4
  · have hi : (decide ((1 : Int) ≤ xs.length) && decide ((xs.length : Int) ≤ 4)) = true := by simp; omega
    obtain ⟨g, off, rfl, hg, hc⟩ := ha.resolve_left (fun h => by rw [h] at hin; exact absurd hin.1 (by decide))
    have h0 : 0 < xs.length := by omega
    have hsz0 : xs[0].size ≤ 9223372036854775807 := by have := hwf xs[0] (List.getElem_mem h0); unfold maxLen at this; exact this
    have HWF := Lib.hid hwf
    have HC := Lib.hid hc
    have HD := Lib.hid (daysOf_get h0)
    have HST : Hid (∀ k (hk : k < xs.length), ¬ (wordOk xs[k] = true ∧ xs[k].size = xs[0].size ∧ xs[k].size ≤ 12) → rosterOk xs = false) := by
      have := fun k hk => roster_stop (xs := xs) k hk
      rw [HD.out] at this
      exact Lib.hid this
    have HALL : Hid ((∀ j (hj : j < xs.length), wordOk xs[j] = true ∧ xs[j].size = xs[0].size ∧ xs[j].size ≤ 12) → rosterOk xs = true) := by
      have : (∀ j (hj : j < xs.length), wordOk xs[j] = true ∧ xs[j].size = xs[0].size ∧ xs[j].size ≤ 12) → rosterOk xs = true := fun h => by
        rw [rosterOk_iff, HD.out]
        refine ⟨hin.1, hin.2, (h 0 h0).2.2, fun s hs => ?_⟩
        obtain ⟨j, hj, rfl⟩ := List.mem_iff_getElem.1 hs
        exact ⟨(h j hj).2.1, (h j hj).1⟩
      exact Lib.hid this
    have hc0 := hc 0 h0
    clear hc ha hwf HD hin
    go_enter Try.func19, Try.ntmps19
    go_wp2_with (go_at_call 57; refine (l1In_any _ _ _ _).mono ?_; rintro e w' ⟨rfl, rfl⟩)
    go_loopw [3] (fun i wr => ∃ k : Nat, k ≤ xs.length ∧ i = .int .i64 k ∧ Hid (∀ j (hj : j < xs.length), j < k → wordOk xs[j] = true ∧ xs[j].size = xs[0].size ∧ xs[j].size ≤ 12) ∧ ∃ d, wr = w.drewN d) (fun i _ => xs.length - (intOf i).toNat)
    case atStart => exact ⟨0, Nat.zero_le _, rfl, Lib.hid (fun j _ h => absurd h (Nat.not_lt_zero j)), 0, rfl⟩
    case round =>
      obtain ⟨k, hk, rfl, HA, d, rfl⟩ := hrel
      by_cases hlt : k < xs.length
      · have c0 : (w.drewN d).cell? ⟨g, off, none⟩ = some (.string xs[0]) := hc0
        have ck : (w.drewN d).cell? ⟨g, off + k, none⟩ = some (.string xs[k]) := HC.out k hlt
        have hszk := HWF.out xs[k] (List.getElem_mem hlt)
        have hszk' : xs[k].size ≤ 9223372036854775807 := by unfold maxLen at hszk; exact hszk
        have HSK := Lib.hid (HST.out k hlt)
        have HSZ := Lib.hid hszk
        have HAN : Hid (wordOk xs[k] = true ∧ xs[k].size = xs[0].size ∧ xs[k].size ≤ 12 → ∀ j (hj : j < xs.length), j < k + 1 → wordOk xs[j] = true ∧ xs[j].size = xs[0].size ∧ xs[j].size ≤ 12) := by
          have : wordOk xs[k] = true ∧ xs[k].size = xs[0].size ∧ xs[k].size ≤ 12 → ∀ j (hj : j < xs.length), j < k + 1 → wordOk xs[j] = true ∧ xs[j].size = xs[0].size ∧ xs[j].size ≤ 12 := fun h j hj hjk => by
            by_cases e : j = k
            · subst e; exact h
            · exact HA.out j hj (by omega)
          exact Lib.hid this
        have HW : Hid (∀ q, ∃ d', (w.drewN d).drewN q = w.drewN d') := Lib.hid (fun q => ⟨d + q, by rw [World.drewN_drewN]⟩)
        have HBW := Lib.hid (below_drewN (Below.refl w.heap.size w) d)
        generalize w.drewN d = W at c0 ck HW HBW ⊢
        clear hszk
        generalize xs[k] = s at *
        generalize hx0 : xs[0] = s0 at *
        by_cases hw : wordOk s = true
        · have HWO : Hid (∀ W, Calls Try.prog 58 #[.string s] W fun e w' => e = .returned (.bool true) ∧ w' = W) := Lib.hid (fun W => (specWordOk_any s W HSZ.out).mono fun _ _ ⟨h, g⟩ => ⟨by rw [h, hw], g.symm⟩)
          by_cases hs : s.size = s0.size
          · have hne : ((s.size : Int) != (s0.size : Int)) = false := by simp [hs]
            by_cases h12 : s.size ≤ 12
            · have HN := Lib.hid (HAN.out ⟨hw, hs, h12⟩)
              have hd12 : decide ((12 : Int) < (s.size : Int)) = false := decide_eq_false (by omega)
              clear HSK HAN hs hw
              go_wp2
              go_quiet ((go_at_call 58; exact Calls.quiet_of_same (HWO.out _)))
              go_wp2
              go_roundw
              case rel => exact ⟨k + 1, by omega, by go_num, HN, HW.out _⟩
              case measure => simp [intOf]; omega
            · have HR := Lib.hid (HSK.out (fun h => h12 h.2.2))
              have hd12 : decide ((12 : Int) < (s.size : Int)) = true := decide_eq_true (by omega)
              clear HSK HAN hs hw
              go_wp2
              go_quiet ((go_at_call 58; exact Calls.quiet_of_same (HWO.out _)))
              go_wp2
              go_ret
              exact ⟨ret_bool HR.out.symm, HBW.out.trans (below_drewN (Below.refl _ _) _ |>.mono HBW.out.size)⟩
          · have HR := Lib.hid (HSK.out (fun h => hs h.2.1))
            have hne : ((s.size : Int) != (s0.size : Int)) = true := by simp; omega
            clear HSK HAN hs hw
            go_wp2
            go_quiet ((go_at_call 58; exact Calls.quiet_of_same (HWO.out _)))
            go_wp2
            go_ret
            exact ⟨ret_bool HR.out.symm, HBW.out.trans (below_drewN (Below.refl _ _) _ |>.mono HBW.out.size)⟩
        · have HR := Lib.hid (HSK.out (fun h => hw h.1))
          have hwf : wordOk s = false := by simpa using hw
          have HWO : Hid (∀ W, Calls Try.prog 58 #[.string s] W fun e w' => e = .returned (.bool false) ∧ w' = W) := Lib.hid (fun W => (specWordOk_any s W HSZ.out).mono fun _ _ ⟨h, g⟩ => ⟨by rw [h, hwf], g.symm⟩)
          clear HSK HAN hw hwf
          go_wp2
          go_quiet ((go_at_call 58; exact Calls.quiet_of_same (HWO.out _)))
          go_wp2
          go_ret
          exact ⟨ret_bool HR.out.symm, HBW.out.trans (below_drewN (Below.refl _ _) _ |>.mono HBW.out.size)⟩
      · obtain rfl : k = xs.length := by omega
        have HR := Lib.hid (HALL.out (fun j hj => HA.out j hj hj))
        go_wp2
        go_ret
        exact ⟨ret_bool HR.out.symm, below_drewN (Below.refl _ _) d⟩
  · have hi : (decide ((1 : Int) ≤ xs.length) && decide ((xs.length : Int) ≤ 4)) = false := by simp; omega
    have HR : Hid (rosterOk xs = false) := by
      have : rosterOk xs = false := by
        rcases Nat.lt_or_ge xs.length 1 with h | h
        · exact rosterOk_short h
        · exact rosterOk_long (by omega)
      exact Lib.hid this
    clear ha hin
    go_enter Try.func19, Try.ntmps19
    go_wp2_with (go_at_call 57; refine (l1In_any _ _ _ _).mono ?_; rintro e w' ⟨rfl, rfl⟩)
    go_ret
    exact ⟨ret_bool HR.out.symm, Below.refl _ _⟩

theorem needsOk_sum {l d : Int} (h1 : 0 ≤ l) (h2 : 0 ≤ d) : needsOk l d = decide (d ≤ 4 - l) := by
  simp only [needsOk, h1, h2, decide_true, Bool.true_and]
  exact decide_eq_decide.2 (by omega)
theorem needsOk_no {l d : Int} (h : ¬ (0 ≤ l ∧ 0 ≤ d)) : needsOk l d = false := by
  simp only [needsOk, Bool.and_eq_false_iff, decide_eq_false_iff_not]
  omega

set_option maxHeartbeats 800000 in
theorem implNeedsOk_any (l d : Int) (w : World) (hl : (Lit.int .i64 l).wf = true) (hd : (Lit.int .i64 d).wf = true) :
    Calls Try.prog 22 #[.agg #[.int .i64 l, .int .i64 d]] w fun e w' => e = .returned (.bool (needsOk l d)) ∧ Below w.heap.size w w' := by
  have hb := bounds_i64 hl
  have hb2 := bounds_i64 hd
  by_cases h1 : 0 ≤ l
  · by_cases h2 : 0 ≤ d
    · have HE := Lib.hid (needsOk_sum h1 h2)
      go_enter Try.func22, Try.ntmps22
      go_wp2
      go_ret
      exact ⟨ret_bool HE.out.symm, Go.Joins.below_alloc1 _ _⟩
    · have HE := Lib.hid (needsOk_no (l := l) (d := d) (by omega))
      go_enter Try.func22, Try.ntmps22
      go_wp2
      go_ret
      exact ⟨ret_bool HE.out.symm, Go.Joins.below_alloc1 _ _⟩
  · have HE := Lib.hid (needsOk_no (l := l) (d := d) (by omega))
    go_enter Try.func22, Try.ntmps22
    go_wp2
    go_ret
    exact ⟨ret_bool HE.out.symm, Go.Joins.below_alloc1 _ _⟩

set_option maxHeartbeats 800000 in
theorem specNeedsOk_any (l d : Int) (w : World) :
    Calls Try.prog 23 #[.agg #[.int .i64 l, .int .i64 d]] w fun e w' => e = .returned (.bool (needsOk l d)) ∧ Below w.heap.size w w' := by
  have x0 : (w.alloc (.cells #[.int .i64 l, .int .i64 d] 29)).cell? ⟨w.heap.size, 0, none⟩ = some (.int .i64 l) := World.cell?_alloc_new w _ _ 0
  have x1 : (w.alloc (.cells #[.int .i64 l, .int .i64 d] 29)).cell? ⟨w.heap.size, 1, none⟩ = some (.int .i64 d) := World.cell?_alloc_new w _ _ 1
  by_cases h1 : 0 ≤ l ∧ l ≤ 4
  · by_cases h2 : 0 ≤ d ∧ d ≤ 4
    · have HE := Lib.hid (needsOk_sum h1.1 h2.1)
      have e1 : (decide ((0 : Int) ≤ l) && decide (l ≤ 4)) = true := by simp; omega
      have e2 : (decide ((0 : Int) ≤ d) && decide (d ≤ 4)) = true := by simp; omega
      have hb1 := h1.1
      have hb2 := h1.2
      have hb3 := h2.1
      have hb4 := h2.2
      clear h1 h2
      go_enter Try.func23, Try.ntmps23
      go_wp2_with (go_at_call 57; refine (l1In_any _ _ _ _).mono ?_; rintro e w' ⟨rfl, rfl⟩)
      go_ret
      exact ⟨ret_bool (by rw [HE.out]; exact decide_eq_decide.2 (by omega)), Go.Joins.below_alloc1 _ _⟩
    · have HE : Hid (needsOk l d = false) := by
        have : needsOk l d = false := by
          by_cases h : 0 ≤ l ∧ 0 ≤ d
          · rw [needsOk_sum h.1 h.2]; exact decide_eq_false (by omega)
          · exact needsOk_no h
        exact Lib.hid this
      have e1 : (decide ((0 : Int) ≤ l) && decide (l ≤ 4)) = true := by simp; omega
      have e2 : (decide ((0 : Int) ≤ d) && decide (d ≤ 4)) = false := by simp; omega
      clear h1 h2
      go_enter Try.func23, Try.ntmps23
      go_wp2_with (go_at_call 57; refine (l1In_any _ _ _ _).mono ?_; rintro e w' ⟨rfl, rfl⟩)
      go_ret
      exact ⟨ret_bool HE.out.symm, Go.Joins.below_alloc1 _ _⟩
  · have HE : Hid (needsOk l d = false) := by
      have : needsOk l d = false := by
        by_cases h : 0 ≤ l ∧ 0 ≤ d
        · rw [needsOk_sum h.1 h.2]; exact decide_eq_false (by omega)
        · exact needsOk_no h
      exact Lib.hid this
    have e1 : (decide ((0 : Int) ≤ l) && decide (l ≤ 4)) = false := by simp; omega
    clear h1
    go_enter Try.func23, Try.ntmps23
    go_wp2_with (go_at_call 57; refine (l1In_any _ _ _ _).mono ?_; rintro e w' ⟨rfl, rfl⟩)
    go_ret
    exact ⟨ret_bool HE.out.symm, Go.Joins.below_alloc1 _ _⟩
end Go.Proofs.Ytlbblfbiiceofaa

namespace Go.Proofs.Ytlbblfbiiceofaa
open Go.RowKit

theorem infoU8R : (Try.prog.info? 5).map (fun i => (i.zero, i.size, i.bytes)) = some (some (.int .u8 0), 1, 1) := by kernel_rfl
theorem cellRD (w : World) (u : Value) (t : TypeId) : ∀ j x, [u][j]? = some x → (w.alloc (.cells #[u] t)).cell? ((⟨w.heap.size, 0, none⟩ : Addr).add j) = some x := by
  intro j x h
  match j, h with
  | 0, h =>
    simp only [List.getElem?_cons_zero, Option.some.injEq] at h
    subst h
    rw [add_off, Nat.zero_add, World.cell?_alloc_new]; rfl
/-- the bytes of a row -/
def bvR (p : List UInt8) : List Value := p.map fun b => .int .u8 (b.toNat : Int)
theorem bvR_more (p : List UInt8) (b : UInt8) : bvR (p ++ [b]) = bvR p ++ [.int .u8 (b.toNat : Int)] := by simp [bvR]
theorem bvR_at (p : List UInt8) (j : Nat) (h : j < p.length) : (bvR p)[j]? = some (.int .u8 (p[j].toNat : Int)) := by simp [bvR, h]
/-- a row of bytes as a string -/
theorem row_convertR {W : World} {v : Value} {p : List UInt8} (h : W.ownsRow 0 5 1 v p.length (bvR p)) : (convert 22 9 v).run Try.prog W = .ok (.string ⟨p.toArray⟩) W := by
  rcases h.2 with ⟨rfl, hn⟩ | ⟨g, cap, cur, rfl, _⟩
  · obtain rfl : p = [] := List.eq_nil_of_length_eq_zero hn
    kernel_rfl
  · refine run_convert_bytes_back (P := Try.prog) W 22 9 5 ⟨g, 0, none⟩ cap p Try.underlying22 Try.underlying5 Try.underlying9 (fun j hj => ?_)
    have hc := World.ownsRow.cellAt h j (by omega)
    rw [bvR_at p j hj] at hc
    rw [add_off, Nat.zero_add]; exact hc
theorem ownsRow_sliceR {w : World} {b : Nat} {e : TypeId} {size : Nat} {v : Value} {n : Nat} {xs : List Value} (h : w.ownsRow b e size v n xs) : ∃ a c, v = .slice a n c := by
  rcases h.2 with ⟨rfl, rfl⟩ | ⟨g, cap, cur, rfl, _⟩
  · exact ⟨_, _, rfl⟩
  · exact ⟨_, _, rfl⟩
/-- the letters of the first rows -/
def dayTo (xs : List ByteArray) (d k : Nat) : List UInt8 := dayBytes (xs.take k) d
theorem dayTo_succ (xs : List ByteArray) (d k : Nat) (h : k < xs.length) : dayTo xs d (k + 1) = dayTo xs d k ++ [byteAt xs[k] d] := dayBytes_take xs d k h
theorem dayTo_all (xs : List ByteArray) (d : Nat) : (⟨(dayTo xs d xs.length).toArray⟩ : ByteArray) = dayStr xs d := by
  simp [dayTo, dayStr]

set_option maxHeartbeats 3200000 in
theorem implDayOf_yes (v : Value) (xs : List ByteArray) (hwf : Short xs) (d : Nat) (w : World) (h : IsStrs w v xs) (hok : rosterOk xs = true) (hd : d < daysOf xs) :
    Calls Try.prog 25 #[v, .int .i64 (d : Int)] w fun e w' => e = .returned (.string (dayStr xs d)) ∧ Below w.heap.size w w' := by
  have HR := Lib.hid (implRosterOk_any v xs hwf w h)
  rw [hok] at HR
  have H := Lib.hid h
  obtain ⟨u0, hu, hz0, hz1, hz2⟩ := info_parts infoU8R
  have HU := Lib.hid (And.intro hu (And.intro hz0 (And.intro hz1 hz2)))
  clear hu hz0 hz1 hz2
  obtain ⟨hn1, hn4, hd12, hrows⟩ := rosterOk_iff.1 hok
  have HRW := Lib.hid hrows
  have hd0 := daysOf_get (xs := xs) (by omega)
  obtain ⟨a, cap, rfl, hcp, hmx⟩ := h.form
  obtain ⟨g, off, rfl, hg, hc⟩ := h.at (by omega)
  have HC := Lib.hid hc
  have hdle : d < xs[0].size := by omega
  have hszi : xs[0].size ≤ 12 := by omega
  have HD0 := Lib.hid hd0
  have HDD := Lib.hid hd
  have HG := Lib.hid hg
  clear hc h hwf hrows hd0 hd hd12 hok hg
  go_enter Try.func25, Try.ntmps25
  go_wp2_with fail
  refine HR.out.mono ?_
  clear HR
  rintro e w1 ⟨rfl, hb1⟩
  have B1 := Lib.hid hb1
  have hcell0 : w1.cell? ⟨g, off, none⟩ = some (.string xs[0]) := (hb1.cell (p := ⟨g, off, none⟩) HG.out).trans (HC.out 0 (by omega))
  have hg1 := Lib.hid (Nat.lt_of_lt_of_le HG.out hb1.size)
  have HC1 : Hid (∀ k (hk : k < xs.length), w1.cell? ⟨g, off + k, none⟩ = some (.string xs[k])) := Lib.hid (fun k hk => (hb1.cell (p := ⟨g, off + k, none⟩) HG.out).trans (HC.out k hk))
  clear hb1
  have h0 : 0 < xs.length := by omega
  have HX0 : Hid (∀ k (hk : k < xs.length), xs[k].size = xs[0].size) := Lib.hid (fun k hk => by rw [(HRW.out _ (List.getElem_mem hk)).1, HD0.out])
  generalize hs0 : xs[0] = s0 at *
  have O1 := Lib.hid ((Own.nil w1).idle 5)
  have hdn : decide ((d : Int) < 0) = false := decide_eq_false (by omega)
  have hdg : decide ((s0.size : Int) ≤ (d : Int)) = false := decide_eq_false (by omega)
  have hdg2 : decide (s0.size ≤ d) = false := decide_eq_false (by omega)
  have HS0 := Lib.hid hs0
  clear hs0
  go_wp2_with fail
  go_loopw [5, 7, 25] (fun lv rv iv wr => ∃ (k : Nat) (p : List UInt8), k ≤ xs.length ∧ iv = .int .i64 (k : Int) ∧ Hid (p = dayTo xs d k) ∧ p.length = k ∧ Own w1 [rowT 5 1 lv p.length (bvR p)] wr) (fun _ _ iv _ => xs.length - (intOf iv).toNat)
  case atStart => exact ⟨0, [], Nat.zero_le _, rfl, Lib.hid rfl, rfl, O1.out⟩
  case round =>
    obtain ⟨k, p, hk, rfl, HP, hpl, hO⟩ := hrel
    obtain ⟨wa, wc, rfl⟩ := ownsRow_sliceR (hO.row 0 (by simp) rfl)
    have O2 := Lib.hid hO
    by_cases hlt : k < xs.length
    · have ck := (O2.out.keep.cell (p := ⟨g, off + k, none⟩) hg1.out).trans (HC1.out k hlt)
      have hsz := HX0.out k hlt
      have HS := Lib.hid (dayTo_succ xs d k hlt)
      have hlt2 : d < xs[k].size := by omega
      have HBY := Lib.hid (byteAt_eq xs[k] d hlt2)
      have hpl4 : p.length ≤ 4 := by omega
      have HPL := Lib.hid hpl
      clear hO hsz hpl
      generalize xs[k] = s at *
      go_wp2_with (at_builtin; refine wpList_append_lies _ rfl _ _ 22 rfl 0 5 u0 (.int .u8 0) 1 1 Try.underlying22 HU.out.1 HU.out.2.1 HU.out.2.2.1 HU.out.2.2.2 rfl (by decide) (.slice wa p.length wc) p.length (bvR p) rfl ((O2.out.row 0 (by simp) rfl).alloc _) ⟨wr.heap.size, 0, none⟩ 1 1 [.int .u8 (s[d].toNat : Int)] rfl rfl (cellRD _ _ _) (by simp [Value.oneCell']) (by omega) (by unfold maxLen; omega) (by omega) (Nat.zero_le _) _ rfl ?_; intro g9 cp w6 hown hgrow hat hlt3; have O5 := Lib.hid (O2.out.push (i := 0) (by simp) rfl hgrow hown hat); clear hown hgrow hat hlt3)
      go_roundw
      case rel => exact ⟨k + 1, p ++ [s[d]], by omega, by go_num, Lib.hid (by rw [HS.out, HP.out, HBY.out]), by rw [List.length_append, HPL.out]; rfl, by rw [List.length_append, bvR_more]; exact O5.out⟩
      case measure => simp [intOf]; omega
    · obtain rfl : k = xs.length := by omega
      have hcv := row_convertR (O2.out.row 0 (by simp) rfl)
      have HE : Hid (dayStr xs d = ⟨p.toArray⟩) := by
        have : dayStr xs d = ⟨p.toArray⟩ := by rw [HP.out, dayTo_all]
        exact Lib.hid this
      clear hO hpl
      go_wp2_with fail
      go_ret
      exact ⟨ret_str HE.out.symm, B1.out.trans (O2.out.keep.mono B1.out.size)⟩

set_option maxHeartbeats 1600000 in
theorem implDayOf_any (v : Value) (xs : List ByteArray) (hwf : Short xs) (d : Int) (w : World) (h : IsStrs w v xs) :
    Calls Try.prog 25 #[v, .int .i64 d] w fun e w' => e = .returned (.string (dayOf xs d)) ∧ Below w.heap.size w w' := by
  by_cases hall : rosterOk xs = true ∧ 0 ≤ d ∧ d < daysOf xs
  · obtain ⟨n, rfl⟩ := Int.eq_ofNat_of_zero_le hall.2.1
    rw [dayOf_yes hall.1 (by have := hall.2.2; omega)]
    exact implDayOf_yes v xs hwf n w h hall.1 (by have := hall.2.2; omega)
  · have HE := Lib.hid (dayOf_no hall)
    have HR := Lib.hid (implRosterOk_any v xs hwf w h)
    obtain ⟨a, cap, rfl, hcp, hmx⟩ := h.form
    cases hb : rosterOk xs with
    | false =>
      rw [hb] at HR
      clear hall
      go_enter Try.func25, Try.ntmps25
      go_wp2_with (go_at_call 18; refine HR.out.mono ?_; rintro e w1 ⟨rfl, hb1⟩)
      go_ret
      exact ⟨ret_str HE.out.symm, hb1⟩
    | true =>
      rw [hb] at HR
      obtain ⟨hn1, hn4, hd12, -⟩ := rosterOk_iff.1 hb
      have hd0 := daysOf_get (xs := xs) (by omega)
      obtain ⟨g, off, rfl, hg, hc⟩ := h.at (by omega)
      have hor : d < 0 ∨ (xs[0].size : Int) ≤ d := by
        rcases Int.lt_or_le d 0 with h1 | h1
        · exact .inl h1
        · exact .inr (by rcases Int.lt_or_le d (xs[0].size : Int) with h2 | h2
                         · exact absurd ⟨hb, h1, by omega⟩ hall
                         · exact h2)
      have HC := Lib.hid (hc 0 (by omega))
      have hs12 : xs[0].size ≤ 12 := by omega
      clear hall hb h hc hd0
      have h0 : 0 < xs.length := by omega
      have HG := Lib.hid hg
      generalize xs[0] = s0 at *
      by_cases hneg : d < 0
      · clear hor
        go_enter Try.func25, Try.ntmps25
        go_wp2_with (go_at_call 18; refine HR.out.mono ?_; rintro e w1 ⟨rfl, hb1⟩)
        go_ret
        exact ⟨ret_str HE.out.symm, hb1⟩
      · have hge : (s0.size : Int) ≤ d := by omega
        clear hor
        go_enter Try.func25, Try.ntmps25
        go_wp2_with fail
        refine HR.out.mono ?_
        rintro e w1 ⟨rfl, hb1⟩
        have c1 : w1.cell? ⟨g, off, none⟩ = some (.string s0) := (hb1.cell (p := ⟨g, off, none⟩) HG.out).trans HC.out
        go_wp2_with fail
        go_ret
        exact ⟨ret_str HE.out.symm, hb1⟩

theorem extract_one (s : ByteArray) (d : Nat) (h : d < s.size) : s.extract d (d + 1) = ⟨#[byteAt s d]⟩ := by
  refine bytes_ext' ?_
  have hl : d < s.data.toList.length := by rw [Array.length_toList]; exact h
  rw [ByteArray.data_extract, Array.toList_extract, List.extract_eq_take_drop, show d + 1 - d = 1 by omega, List.drop_eq_getElem_cons hl, List.take_succ_cons, List.take_zero]
  simp only [byteAt, List.getD, List.getElem?_eq_getElem hl, Option.getD_some]
theorem cut_one (s : ByteArray) (d : Nat) (h : d < s.size) (W : World) : (Instr.slice 9 (.string s) (some (.int .i64 (d : Int))) (some (.int .i64 ((d : Int) + 1))) none).run Try.prog W = .ok (.string (s.extract d (d + 1))) W := by
  have := run_slice_string (P := Try.prog) W 9 s .i64 .i64 (d : Int) ((d : Int) + 1) Try.underlying9 (by omega) (by omega) (by omega)
  rw [this]
  have e : ((d : Int) + 1).toNat = d + 1 := by omega
  rw [e, Int.toNat_natCast]
theorem arr_more (p : List UInt8) (b : UInt8) : (⟨p.toArray⟩ : ByteArray) ++ ⟨#[b]⟩ = ⟨(p ++ [b]).toArray⟩ := by
  refine bytes_ext' ?_
  rw [ByteArray.data_append, Array.toList_append]

set_option maxHeartbeats 3200000 in
set_option maxRecDepth 20000 in
theorem specDayOf_yes (v : Value) (xs : List ByteArray) (hwf : Short xs) (d : Nat) (w : World) (h : IsStrs w v xs) (hok : rosterOk xs = true) (hd : d < daysOf xs) :
    Calls Try.prog 26 #[v, .int .i64 (d : Int)] w fun e w' => e = .returned (.string (dayStr xs d)) ∧ Below w.heap.size w w' := by
  have HR := Lib.hid (fun W hI => specRosterOk_any v xs hwf W hI)
  rw [hok] at HR
  have H := Lib.hid h
  obtain ⟨hn1, hn4, hd12, hrows⟩ := rosterOk_iff.1 hok
  have HRW := Lib.hid hrows
  have hd0 := daysOf_get (xs := xs) (by omega)
  obtain ⟨a, cap, rfl, hcp, hmx⟩ := h.form
  obtain ⟨g, off, rfl, hg, hc⟩ := h.at (by omega)
  have HC := Lib.hid hc
  have hdle : d < xs[0].size := by omega
  have hszi : xs[0].size ≤ 12 := by omega
  have HG := Lib.hid hg
  have h0 : 0 < xs.length := by omega
  have HX0 : Hid (∀ k (hk : k < xs.length), xs[k].size = xs[0].size) := Lib.hid (fun k hk => by rw [(HRW.out _ (List.getElem_mem hk)).1, hd0])
  have HIN : Hid (∀ W, Calls Try.prog 57 #[.int .i64 (d : Int), .int .i64 0, .int .i64 ((xs[0].size : Int) - 1)] W fun e w' => e = .returned (.bool true) ∧ W = w') := by
    have : ∀ W, Calls Try.prog 57 #[.int .i64 (d : Int), .int .i64 0, .int .i64 ((xs[0].size : Int) - 1)] W fun e w' => e = .returned (.bool true) ∧ W = w' := fun W => by
      have := l1In_any (d : Int) 0 ((xs[0].size : Int) - 1) W
      rw [show (decide ((0 : Int) ≤ d) && decide ((d : Int) ≤ (xs[0].size : Int) - 1)) = true by simp; omega] at this
      exact this
    exact Lib.hid this
  clear hc h hwf hrows hd0 hd hd12 hok hg
  go_enter Try.func26, Try.ntmps26
  go_wp2_with fail
  go_loopw [5, 6] (fun ov iv wr => ∃ (k : Nat) (o : ByteArray), k ≤ xs.length ∧ iv = .int .i64 (k : Int) ∧ ov = .string o ∧ Hid (o = ⟨(dayTo xs d k).toArray⟩) ∧ o.size ≤ 4 ∧ o.size = k ∧ Below w.heap.size w wr) (fun _ iv _ => xs.length - (intOf iv).toNat)
  case atStart => exact ⟨0, ⟨#[]⟩, Nat.zero_le _, rfl, rfl, Lib.hid rfl, Nat.zero_le _, rfl, Below.refl _ _⟩
  case round =>
    obtain ⟨k, o, hk, rfl, rfl, HO, ho4, hok', hbel⟩ := hrel
    have HOK := Lib.hid hok'
    clear hok'
    have BB := Lib.hid hbel
    by_cases hlt : k < xs.length
    · have HRK := Lib.hid (HR.out wr (H.out.below BB.out))
      have ck := fun (W : World) (hb : Below wr.heap.size wr W) => ((BB.out.trans (hb.mono BB.out.size)).cell (p := ⟨g, off + k, none⟩) HG.out).trans (HC.out k hlt)
      have c0 := fun (W : World) (hb : Below wr.heap.size wr W) => ((BB.out.trans (hb.mono BB.out.size)).cell (p := ⟨g, off, none⟩) HG.out).trans (HC.out 0 h0)
      have CK := Lib.hid ck
      have C0 := Lib.hid c0
      have hsz := HX0.out k hlt
      have HS := Lib.hid (dayTo_succ xs d k hlt)
      have hlt2 : d < xs[k].size := by omega
      have HBY := Lib.hid (extract_one xs[k] d hlt2)
      have hone : (xs[k].extract d (d + 1)).size = 1 := by rw [HBY.out]; rfl
      have hlt3 : ((d : Int) + 1) ≤ (xs[k].size : Int) := by omega
      have hs12 : xs[k].size ≤ 12 := by omega
      have hcut := fun W => cut_one xs[k] d hlt2 W
      clear ck c0 hbel hsz
      generalize xs[0] = s0 at *
      generalize xs[k] = s at *
      go_wp2_with fail
      refine HRK.out.mono ?_
      rintro e w2 ⟨rfl, hb2⟩
      have ck := CK.out _ hb2
      have c0 := C0.out _ hb2
      have B2 := Lib.hid (BB.out.trans (hb2.mono BB.out.size))
      clear hb2
      go_wp2_with (go_at_call 57; refine (HIN.out _).mono ?_; rintro e w' ⟨rfl, rfl⟩)
      go_roundw
      case rel => exact ⟨k + 1, o ++ s.extract d (d + 1), by omega, by go_num, by first | rfl | go_num | simp, Lib.hid (by rw [HO.out, HBY.out, arr_more, HS.out]), by rw [ByteArray.size_append, hone]; have := HOK.out; omega, by rw [ByteArray.size_append, hone]; have := HOK.out; omega, B2.out⟩
      case measure => simp [intOf]; omega
    · obtain rfl : k = xs.length := by omega
      have HE : Hid (dayStr xs d = o) := by
        have : dayStr xs d = o := by rw [HO.out, dayTo_all]
        exact Lib.hid this
      go_wp2_with fail
      go_ret
      exact ⟨ret_str HE.out.symm, BB.out⟩

set_option maxHeartbeats 1600000 in
theorem specDayOf_any (v : Value) (xs : List ByteArray) (hwf : Short xs) (d : Int) (w : World) (h : IsStrs w v xs) :
    Calls Try.prog 26 #[v, .int .i64 d] w fun e w' => e = .returned (.string (dayOf xs d)) ∧ Below w.heap.size w w' := by
  by_cases hall : rosterOk xs = true ∧ 0 ≤ d ∧ d < daysOf xs
  · obtain ⟨n, rfl⟩ := Int.eq_ofNat_of_zero_le hall.2.1
    rw [dayOf_yes hall.1 (by have := hall.2.2; omega)]
    exact specDayOf_yes v xs hwf n w h hall.1 (by have := hall.2.2; omega)
  · have HE := Lib.hid (dayOf_no hall)
    have HR := Lib.hid (fun W hI => specRosterOk_any v xs hwf W hI)
    have H := Lib.hid h
    obtain ⟨a, cap, rfl, hcp, hmx⟩ := h.form
    by_cases h0 : xs.length = 0
    · clear hall
      go_enter Try.func26, Try.ntmps26
      go_wp2_with fail
      go_loopw [5, 6] (fun ov iv wr => iv = .int .i64 0 ∧ ov = .string ⟨#[]⟩ ∧ wr = w) (fun _ iv _ => 0)
      case atStart => exact ⟨rfl, rfl, rfl⟩
      case round =>
        obtain ⟨rfl, rfl, rfl⟩ := hrel
        go_wp2_with fail
        go_ret
        exact ⟨ret_str HE.out.symm, Below.refl _ _⟩
    · obtain ⟨g, off, rfl, hg, hc⟩ := h.at (by omega)
      have h1 : 0 < xs.length := by omega
      cases hb : rosterOk xs with
      | false =>
        rw [hb] at HR
        clear hall
        go_enter Try.func26, Try.ntmps26
        go_wp2_with fail
        go_loopw [5, 6] (fun ov iv wr => iv = .int .i64 0 ∧ ov = .string ⟨#[]⟩ ∧ wr = w) (fun _ iv _ => 0)
        case atStart => exact ⟨rfl, rfl, rfl⟩
        case round =>
          obtain ⟨rfl, rfl, rfl⟩ := hrel
          go_wp2_with fail
          refine (HR.out _ H.out).mono ?_
          rintro e w1 ⟨rfl, hb1⟩
          go_wp2_with fail
          go_ret
          exact ⟨ret_str HE.out.symm, hb1⟩
      | true =>
        rw [hb] at HR
        obtain ⟨hn1, hn4, hd12, -⟩ := rosterOk_iff.1 hb
        have hd0 := daysOf_get (xs := xs) (by omega)
        have hno : (decide ((0 : Int) ≤ d) && decide (d ≤ (xs[0].size : Int) - 1)) = false := by
          rw [Bool.and_eq_false_iff, decide_eq_false_iff_not, decide_eq_false_iff_not]
          by_cases h2 : 0 ≤ d
          · exact .inr (fun h3 => hall ⟨hb, h2, by omega⟩)
          · exact .inl h2
        have HIN : Hid (∀ W, Calls Try.prog 57 #[.int .i64 d, .int .i64 0, .int .i64 ((xs[0].size : Int) - 1)] W fun e w' => e = .returned (.bool false) ∧ W = w') := by
          have : ∀ W, Calls Try.prog 57 #[.int .i64 d, .int .i64 0, .int .i64 ((xs[0].size : Int) - 1)] W fun e w' => e = .returned (.bool false) ∧ W = w' := fun W => by
            have := l1In_any d 0 ((xs[0].size : Int) - 1) W
            rw [hno] at this
            exact this
          exact Lib.hid this
        have HC := Lib.hid (hc 0 (by omega))
        have hs12 : xs[0].size ≤ 12 := by omega
        clear hall hb h hc hd0 hno
        have HG := Lib.hid hg
        generalize xs[0] = s0 at *
        go_enter Try.func26, Try.ntmps26
        go_wp2_with fail
        go_loopw [5, 6] (fun ov iv wr => iv = .int .i64 0 ∧ ov = .string ⟨#[]⟩ ∧ wr = w) (fun _ iv _ => 0)
        case atStart => exact ⟨rfl, rfl, rfl⟩
        case round =>
          obtain ⟨rfl, rfl, rfl⟩ := hrel
          go_wp2_with fail
          refine (HR.out _ H.out).mono ?_
          rintro e w1 ⟨rfl, hb1⟩
          have c1 : w1.cell? ⟨g, off, none⟩ = some (.string s0) := (hb1.cell (p := ⟨g, off, none⟩) HG.out).trans HC.out
          go_wp2_with (go_at_call 57; refine (HIN.out _).mono ?_; rintro e w' ⟨rfl, rfl⟩)
          go_ret
          exact ⟨ret_str HE.out.symm, hb1⟩
end Go.Proofs.Ytlbblfbiiceofaa

namespace Go.Proofs.Ytlbblfbiiceofaa
open Go.RowKit

/-- the box of needs -/
structure NdBox (B : Nat) (l d : Int) (w : World) : Prop where
  c0 : w.cell? ⟨B, 0, none⟩ = some (.int .i64 l)
  c1 : w.cell? ⟨B, 1, none⟩ = some (.int .i64 d)
  lt : B < w.heap.size
theorem NdBox.new (w : World) (l d : Int) (t : TypeId) : NdBox w.heap.size l d (w.alloc (.cells #[.int .i64 l, .int .i64 d] t)) := ⟨World.cell?_alloc_new w _ _ 0, World.cell?_alloc_new w _ _ 1, by simp⟩
theorem NdBox.below {B : Nat} {l d : Int} {w w' : World} (h : NdBox B l d w) (hb : Below w.heap.size w w') : NdBox B l d w' :=
  ⟨(hb.cell (p := ⟨B, 0, none⟩) h.lt).trans h.c0, (hb.cell (p := ⟨B, 1, none⟩) h.lt).trans h.c1, Nat.lt_of_lt_of_le h.lt hb.size⟩

set_option maxHeartbeats 1600000 in
theorem specCovers_any (s : ByteArray) (l d : Int) (w : World) (hs : s.size ≤ maxLen) :
    Calls Try.prog 61 #[.string s, .agg #[.int .i64 l, .int .i64 d]] w fun e w' => e = .returned (.bool (covers s l d)) ∧ Below w.heap.size w w' := by
  have HA := Lib.hid (fun W => specCountOf_any s ⟨#[100]⟩ W hs)
  have HB := Lib.hid (fun W => specCountOf_any s ⟨#[110]⟩ W hs)
  have HE : Hid (covers s l d = (countOf s ⟨#[100]⟩ == l && countOf s ⟨#[110]⟩ == d)) := Lib.hid rfl
  generalize countOf s ⟨#[100]⟩ = a at HA HE
  generalize countOf s ⟨#[110]⟩ = b at HB HE
  have X0 := Lib.hid (NdBox.new w l d 29)
  have Q0 : Hid (Below w.heap.size w (w.alloc (.cells #[.int .i64 l, .int .i64 d] 29))) := Lib.hid ((Below.refl _ _).alloc (Nat.le_refl _) _)
  by_cases h1 : (a == l) = true
  · have hr : covers s l d = (b == d) := by rw [HE.out, h1, Bool.true_and]
    have HR := Lib.hid hr
    clear hr
    go_enter Try.func61, Try.ntmps61
    go_upto_region 1 with fail
    generalize (w.alloc (.cells #[.int .i64 l, .int .i64 d] 29)) = W0 at *
    have BD := Lib.hid ((Below.refl W0.heap.size W0).drew)
    have c0 := X0.out.c0; have c1 := X0.out.c1
    go_region_held3 (fun w' => w'.cell? ⟨w.heap.size, 0, none⟩ = some (.int .i64 l) ∧ w'.cell? ⟨w.heap.size, 1, none⟩ = some (.int .i64 d))
      (refine ⟨?_, ?_⟩ <;> go_simp)
      (first | (go_at_call 85; with_reducible refine Calls.mono (HA.out _) ?_; rintro e w1 ⟨rfl, hb1⟩; have B1 := Lib.hid (BD.out.trans (hb1.mono BD.out.size)); clear hb1; have x0 := (X0.out.below B1.out).c0; have x1 := (X0.out.below B1.out).c1) | (go_at_call 85; with_reducible refine Calls.mono (HB.out _) ?_; rintro e w2 ⟨rfl, hb2⟩; have B2 := Lib.hid (B1.out.trans (hb2.mono B1.out.size)); clear hb2; have y0 := (X0.out.below B2.out).c0; have y1 := (X0.out.below B2.out).c1))
    all_goals
      go_wp2_with fail
      go_ret
      exact ⟨ret_bool (by rw [HR.out]), Q0.out.trans (B2.out.mono Q0.out.size)⟩
  · have h1f : (a == l) = false := by simpa using h1
    have hr : covers s l d = false := by rw [HE.out, h1f, Bool.false_and]
    have HR := Lib.hid hr
    clear hr h1 HB
    go_enter Try.func61, Try.ntmps61
    go_upto_region 1 with fail
    generalize (w.alloc (.cells #[.int .i64 l, .int .i64 d] 29)) = W0 at *
    have BD := Lib.hid ((Below.refl W0.heap.size W0).drew)
    have c0 := X0.out.c0; have c1 := X0.out.c1
    first | (go_region_with (go_at_call 85; with_reducible refine Calls.mono (HA.out _) ?_; rintro e w1 ⟨rfl, hb1⟩; have B1 := Lib.hid (BD.out.trans (hb1.mono BD.out.size)); clear hb1; have x0 := (X0.out.below B1.out).c0; have x1 := (X0.out.below B1.out).c1)) | fail
    all_goals
      go_wp2_with fail
      go_ret
      exact ⟨ret_bool HR.out.symm, Q0.out.trans (B1.out.mono Q0.out.size)⟩

theorem coverOk_all {xs : List ByteArray} {l d : Int} (h1 : rosterOk xs = true) (h2 : needsOk l d = true) (h : coverTo xs l d (daysOf xs) = true) : coverOk xs l d = true := by rw [coverOk, h1, h2, h]; rfl

set_option maxHeartbeats 3200000 in
theorem specCoverOk_any (v : Value) (xs : List ByteArray) (hwf : Short xs) (l d : Int) (w : World) (h : IsStrs w v xs) :
    Calls Try.prog 29 #[v, .agg #[.int .i64 l, .int .i64 d]] w fun e w' => e = .returned (.bool (coverOk xs l d)) ∧ Below w.heap.size w w' := by
  have HR := Lib.hid (fun W hI => specRosterOk_any v xs hwf W hI)
  have HN := Lib.hid (fun W => specNeedsOk_any l d W)
  have HDY := Lib.hid (fun W hI k => specDayOf_any v xs hwf k W hI)
  have H := Lib.hid h
  obtain ⟨a, cap, rfl, hcp, hmx⟩ := h.form
  have X0 := Lib.hid (NdBox.new w l d 29)
  have Q0 : Hid (Below w.heap.size w (w.alloc (.cells #[.int .i64 l, .int .i64 d] 29))) := Lib.hid ((Below.refl _ _).alloc (Nat.le_refl _) _)
  cases hb : rosterOk xs with
  | false =>
    have HE := Lib.hid (coverOk_no1 (l := l) (d := d) hb)
    rw [hb] at HR
    go_enter Try.func29, Try.ntmps29
    go_wp2_with fail
    refine (HR.out _ (H.out.below Q0.out)).mono ?_
    rintro e w1 ⟨rfl, hb1⟩
    go_wp2_with fail
    go_ret
    exact ⟨ret_bool HE.out.symm, Q0.out.trans (hb1.mono Q0.out.size)⟩
  | true =>
    rw [hb] at HR
    cases hn : needsOk l d with
    | false =>
      have HE := Lib.hid (coverOk_no2 (xs := xs) hn)
      rw [hn] at HN
      go_enter Try.func29, Try.ntmps29
      go_wp2_with fail
      refine (HR.out _ (H.out.below Q0.out)).mono ?_
      rintro e w1 ⟨rfl, hb1⟩
      have x0 := (X0.out.below hb1).c0; have x1 := (X0.out.below hb1).c1
      have B1 := Lib.hid (Q0.out.trans (hb1.mono Q0.out.size))
      clear hb1
      go_wp2_with fail
      refine (HN.out _).mono ?_
      rintro e w2 ⟨rfl, hb2⟩
      go_wp2_with fail
      go_ret
      exact ⟨ret_bool HE.out.symm, B1.out.trans (hb2.mono B1.out.size)⟩
    | true =>
      rw [hn] at HN
      obtain ⟨hn1, hn4, hd12, -⟩ := rosterOk_iff.1 hb
      have hd0 := daysOf_get (xs := xs) (by omega)
      obtain ⟨g, off, rfl, hg, hc⟩ := h.at (by omega)
      have HC := Lib.hid (hc 0 (by omega))
      have HG := Lib.hid hg
      have HFA : Hid (∀ k, k < daysOf xs → covers (dayStr xs k) l d = false → coverOk xs l d = false) := Lib.hid (fun k hk h => coverOk_false hk h)
      have HTR : Hid (coverTo xs l d (daysOf xs) = true → coverOk xs l d = true) := Lib.hid (fun h => coverOk_all hb hn h)
      have HDS : Hid (∀ k : Nat, k < daysOf xs → dayOf xs (k : Int) = dayStr xs k) := Lib.hid (fun k hk => dayOf_yes hb hk)
      have HSM : Hid (∀ k : Nat, k < daysOf xs → (dayStr xs k).size ≤ maxLen) := Lib.hid (fun k _ => by rw [dayStr_size]; unfold maxLen; omega)
      have hs12 : xs[0].size ≤ 12 := by omega
      rw [hd0] at HFA HTR HDS HSM
      have h0 : 0 < xs.length := by omega
      clear hb hn h hc hd0 hd12 hg
      generalize xs[0] = s0 at *
      go_enter Try.func29, Try.ntmps29
      go_wp2_with fail
      refine (HR.out _ (H.out.below Q0.out)).mono ?_
      rintro e w1 ⟨rfl, hb1⟩
      have X1 := Lib.hid (X0.out.below hb1)
      have x0 := X1.out.c0; have x1 := X1.out.c1
      have B1 := Lib.hid (Q0.out.trans (hb1.mono Q0.out.size))
      clear hb1
      go_wp2_with fail
      refine (HN.out _).mono ?_
      rintro e w2 ⟨rfl, hb2⟩
      have X2 := Lib.hid (X1.out.below hb2)
      have B2 := Lib.hid (B1.out.trans (hb2.mono B1.out.size))
      clear hb2 x0 x1
      go_wp2_with fail
      go_loopw [5] (fun iv wr => ∃ k : Nat, k ≤ s0.size ∧ iv = .int .i64 (k : Int) ∧ Hid (coverTo xs l d k = true) ∧ Hid (Below w.heap.size w wr) ∧ Hid (NdBox w.heap.size l d wr)) (fun iv _ => s0.size - (intOf iv).toNat)
      case atStart => exact ⟨0, Nat.zero_le _, rfl, Lib.hid rfl, B2, X2⟩
      case round =>
        obtain ⟨k, hk, rfl, HCT, BB, XX⟩ := hrel
        have c0 : wr.cell? ⟨g, off, none⟩ = some (.string s0) := (BB.out.cell (p := ⟨g, off, none⟩) HG.out).trans HC.out
        by_cases hlt : k < s0.size
        · have HDK := Lib.hid (fun W hI => HDY.out W hI (k : Int))
          rw [HDS.out k hlt] at HDK
          have HCV := Lib.hid (fun W => specCovers_any (dayStr xs k) l d W (HSM.out k hlt))
          have HF := Lib.hid (HFA.out k hlt)
          have HST := Lib.hid (coverTo_succ xs l d k)
          generalize dayStr xs k = ds at *
          have HKF : ∀ b, covers ds l d = b → Hid (∀ W, Calls Try.prog 61 #[.string ds, .agg #[.int .i64 l, .int .i64 d]] W fun e w' => e = .returned (.bool b) ∧ Below W.heap.size W w') := fun b hb => Lib.hid (fun W => by have := HCV.out W; rwa [hb] at this)
          go_wp2_with fail
          have BD := Lib.hid ((Below.refl wr.heap.size wr).drew)
          have z0 := XX.out.c0; have z1 := XX.out.c1
          cases hcv : covers ds l d with
          | false =>
            have HCV2 := HKF _ hcv
            have HE := Lib.hid (HF.out hcv)
            clear HKF hcv
            go_region_with (first | (go_at_call 26; with_reducible refine Calls.mono (HDK.out _ (H.out.below (BB.out.trans (BD.out.mono BB.out.size)))) ?_; rintro e w3 ⟨rfl, hb3⟩; have B3 := Lib.hid (BD.out.trans (hb3.mono BD.out.size)); clear hb3; have y0 := (XX.out.below B3.out).c0; have y1 := (XX.out.below B3.out).c1) | (go_at_call 61; with_reducible refine Calls.mono (HCV2.out _) ?_; rintro e w4 ⟨rfl, hb4⟩; have B4 := Lib.hid (B3.out.trans (hb4.mono B3.out.size)); clear hb4))
            all_goals
              go_wp2_with fail
              go_ret
              exact ⟨ret_bool HE.out.symm, BB.out.trans (B4.out.mono BB.out.size)⟩
          | true =>
            have HCV2 := HKF _ hcv
            have HE : Hid (coverTo xs l d (k + 1) = true) := by
              have : coverTo xs l d (k + 1) = true := by rw [HST.out, HCT.out, hcv]; rfl
              exact Lib.hid this
            clear HKF hcv
            go_region_with (first | (go_at_call 26; with_reducible refine Calls.mono (HDK.out _ (H.out.below (BB.out.trans (BD.out.mono BB.out.size)))) ?_; rintro e w3 ⟨rfl, hb3⟩; have B3 := Lib.hid (BD.out.trans (hb3.mono BD.out.size)); clear hb3; have y0 := (XX.out.below B3.out).c0; have y1 := (XX.out.below B3.out).c1) | (go_at_call 61; with_reducible refine Calls.mono (HCV2.out _) ?_; rintro e w4 ⟨rfl, hb4⟩; have B4 := Lib.hid (B3.out.trans (hb4.mono B3.out.size)); clear hb4))
            all_goals
              go_wp2_with fail
              go_roundw
              case rel => exact ⟨k + 1, by omega, by go_num, HE, Lib.hid (BB.out.trans (B4.out.mono BB.out.size)), Lib.hid (XX.out.below B4.out)⟩
              case measure => simp [intOf]; omega
        · obtain rfl : k = s0.size := by omega
          have HE := Lib.hid (HTR.out HCT.out)
          go_wp2_with fail
          go_ret
          exact ⟨ret_bool HE.out.symm, BB.out⟩

theorem covers_parts {s : ByteArray} {l d a b : Int} (ha : countOf s ⟨#[100]⟩ = a) (hb : countOf s ⟨#[110]⟩ = b) : covers s l d = (a == l && b == d) := by rw [covers, ha, hb]

set_option maxHeartbeats 3200000 in
theorem implCoverOk_any (v : Value) (xs : List ByteArray) (hwf : Short xs) (l d : Int) (hl : (Lit.int .i64 l).wf = true) (hd : (Lit.int .i64 d).wf = true) (w : World) (h : IsStrs w v xs) :
    Calls Try.prog 28 #[v, .agg #[.int .i64 l, .int .i64 d]] w fun e w' => e = .returned (.bool (coverOk xs l d)) ∧ Below w.heap.size w w' := by
  have HR := Lib.hid (fun W hI => implRosterOk_any v xs hwf W hI)
  have HN := Lib.hid (fun W => implNeedsOk_any l d W hl hd)
  have HDY := Lib.hid (fun W hI k => implDayOf_any v xs hwf k W hI)
  have H := Lib.hid h
  obtain ⟨a, cap, rfl, hcp, hmx⟩ := h.form
  have X0 := Lib.hid (NdBox.new w l d 29)
  have Q0 : Hid (Below w.heap.size w (w.alloc (.cells #[.int .i64 l, .int .i64 d] 29))) := Lib.hid ((Below.refl _ _).alloc (Nat.le_refl _) _)
  clear hl hd
  cases hb : rosterOk xs with
  | false =>
    have HE := Lib.hid (coverOk_no1 (l := l) (d := d) hb)
    rw [hb] at HR
    go_enter Try.func28, Try.ntmps28
    go_wp2_with fail
    refine (HR.out _ (H.out.below Q0.out)).mono ?_
    rintro e w1 ⟨rfl, hb1⟩
    go_wp2_with fail
    go_ret
    exact ⟨ret_bool HE.out.symm, Q0.out.trans (hb1.mono Q0.out.size)⟩
  | true =>
    rw [hb] at HR
    cases hn : needsOk l d with
    | false =>
      have HE := Lib.hid (coverOk_no2 (xs := xs) hn)
      rw [hn] at HN
      go_enter Try.func28, Try.ntmps28
      go_wp2_with fail
      refine (HR.out _ (H.out.below Q0.out)).mono ?_
      rintro e w1 ⟨rfl, hb1⟩
      have x0 := (X0.out.below hb1).c0; have x1 := (X0.out.below hb1).c1
      have B1 := Lib.hid (Q0.out.trans (hb1.mono Q0.out.size))
      clear hb1
      go_wp2_with fail
      refine (HN.out _).mono ?_
      rintro e w2 ⟨rfl, hb2⟩
      go_wp2_with fail
      go_ret
      exact ⟨ret_bool HE.out.symm, B1.out.trans (hb2.mono B1.out.size)⟩
    | true =>
      rw [hn] at HN
      obtain ⟨hn1, hn4, hd12, -⟩ := rosterOk_iff.1 hb
      have hd0 := daysOf_get (xs := xs) (by omega)
      obtain ⟨g, off, rfl, hg, hc⟩ := h.at (by omega)
      have HC := Lib.hid (hc 0 (by omega))
      have HG := Lib.hid hg
      have HFA : Hid (∀ k, k < daysOf xs → covers (dayStr xs k) l d = false → coverOk xs l d = false) := Lib.hid (fun k hk h => coverOk_false hk h)
      have HTR : Hid (coverTo xs l d (daysOf xs) = true → coverOk xs l d = true) := Lib.hid (fun h => coverOk_all hb hn h)
      have HDS : Hid (∀ k : Nat, k < daysOf xs → dayOf xs (k : Int) = dayStr xs k) := Lib.hid (fun k hk => dayOf_yes hb hk)
      have HSM : Hid (∀ k : Nat, k < daysOf xs → (dayStr xs k).size ≤ maxLen) := Lib.hid (fun k _ => by rw [dayStr_size]; unfold maxLen; omega)
      have hs12 : xs[0].size ≤ 12 := by omega
      rw [hd0] at HFA HTR HDS HSM
      have h0 : 0 < xs.length := by omega
      clear hb hn h hc hd0 hd12 hg
      generalize xs[0] = s0 at *
      go_enter Try.func28, Try.ntmps28
      go_wp2_with fail
      refine (HR.out _ (H.out.below Q0.out)).mono ?_
      rintro e w1 ⟨rfl, hb1⟩
      have X1 := Lib.hid (X0.out.below hb1)
      have x0 := X1.out.c0; have x1 := X1.out.c1
      have B1 := Lib.hid (Q0.out.trans (hb1.mono Q0.out.size))
      clear hb1
      go_wp2_with fail
      refine (HN.out _).mono ?_
      rintro e w2 ⟨rfl, hb2⟩
      have X2 := Lib.hid (X1.out.below hb2)
      have B2 := Lib.hid (B1.out.trans (hb2.mono B1.out.size))
      have c2 : w2.cell? ⟨g, off, none⟩ = some (.string s0) := (B2.out.cell (p := ⟨g, off, none⟩) HG.out).trans HC.out
      clear hb2 x0 x1
      go_wp2_with fail
      go_loopw [5, 6, 19] (fun _ _ iv wr => ∃ k : Nat, k ≤ s0.size ∧ iv = .int .i64 (k : Int) ∧ Hid (coverTo xs l d k = true) ∧ Hid (Below w.heap.size w wr) ∧ Hid (NdBox w.heap.size l d wr)) (fun _ _ iv _ => s0.size - (intOf iv).toNat)
      case atStart => exact ⟨0, Nat.zero_le _, rfl, Lib.hid rfl, B2, X2⟩
      case round =>
        obtain ⟨k, hk, rfl, HCT, BB, XX⟩ := hrel
        by_cases hlt : k < s0.size
        · have HDK := Lib.hid (HDY.out wr (H.out.below BB.out) (k : Int))
          rw [HDS.out k hlt] at HDK
          have HA := Lib.hid (fun W => implCountOf_any (dayStr xs k) ⟨#[100]⟩ W (HSM.out k hlt) (by decide))
          have HB := Lib.hid (fun W => implCountOf_any (dayStr xs k) ⟨#[110]⟩ W (HSM.out k hlt) (by decide))
          have HF := Lib.hid (HFA.out k hlt)
          have HST := Lib.hid (coverTo_succ xs l d k)
          generalize dayStr xs k = ds at *
          have HCV := Lib.hid (fun a b (ha : countOf ds ⟨#[100]⟩ = a) (hb : countOf ds ⟨#[110]⟩ = b) => covers_parts (l := l) (d := d) ha hb)
          have HCV2 := Lib.hid (HCV.out _ _ rfl rfl)
          generalize countOf ds ⟨#[100]⟩ = p at HA HCV2
          generalize countOf ds ⟨#[110]⟩ = q at HB HCV2
          clear HCV
          go_wp2_with fail
          refine HDK.out.mono ?_
          rintro e w3 ⟨rfl, hb3⟩
          have B3 := Lib.hid (BB.out.trans (hb3.mono BB.out.size))
          have X3 := Lib.hid (XX.out.below hb3)
          clear hb3
          go_wp2_with fail
          have BD := Lib.hid ((Below.refl w3.heap.size w3).drew)
          have z0 := X3.out.c0; have z1 := X3.out.c1
          by_cases h1 : (p == l) = true
          · have h1' : (p != l) = false := by simpa using h1
            by_cases h2 : (q == d) = true
            · have h2' : (q != d) = false := by simpa using h2
              have HE : Hid (coverTo xs l d (k + 1) = true) := by
                have : coverTo xs l d (k + 1) = true := by rw [HST.out, HCT.out, HCV2.out, h1, h2]; rfl
                exact Lib.hid this
              clear h1 h2
              go_region_held3 (fun w' => w'.cell? ⟨w.heap.size, 0, none⟩ = some (.int .i64 l) ∧ w'.cell? ⟨w.heap.size, 1, none⟩ = some (.int .i64 d))
                (refine ⟨?_, ?_⟩ <;> go_simp)
                (first | (go_at_call 30; with_reducible refine Calls.mono (HA.out _) ?_; rintro e w4 ⟨rfl, hb4⟩; have B4 := Lib.hid (BD.out.trans (hb4.mono BD.out.size)); clear hb4; have x0 := (X3.out.below B4.out).c0; have x1 := (X3.out.below B4.out).c1) | (go_at_call 30; with_reducible refine Calls.mono (HB.out _) ?_; rintro e w5 ⟨rfl, hb5⟩; have B5 := Lib.hid (B4.out.trans (hb5.mono B4.out.size)); clear hb5; have y0 := (X3.out.below B5.out).c0; have y1 := (X3.out.below B5.out).c1))
              all_goals
                go_wp2_with fail
                go_roundw
                case rel => exact ⟨k + 1, by omega, by go_num, HE, Lib.hid (B3.out.trans (B5.out.mono B3.out.size)), Lib.hid (X3.out.below B5.out)⟩
                case measure => simp [intOf]; omega
            · have h2f : (q == d) = false := by simpa using h2
              have h2' : (q != d) = true := by simpa using h2
              have HE : Hid (coverOk xs l d = false) := by
                have : coverOk xs l d = false := HF.out (by rw [HCV2.out, h2f, Bool.and_false])
                exact Lib.hid this
              clear h1 h2 h2f
              go_region_held3 (fun w' => w'.cell? ⟨w.heap.size, 0, none⟩ = some (.int .i64 l) ∧ w'.cell? ⟨w.heap.size, 1, none⟩ = some (.int .i64 d))
                (refine ⟨?_, ?_⟩ <;> go_simp)
                (first | (go_at_call 30; with_reducible refine Calls.mono (HA.out _) ?_; rintro e w4 ⟨rfl, hb4⟩; have B4 := Lib.hid (BD.out.trans (hb4.mono BD.out.size)); clear hb4; have x0 := (X3.out.below B4.out).c0; have x1 := (X3.out.below B4.out).c1) | (go_at_call 30; with_reducible refine Calls.mono (HB.out _) ?_; rintro e w5 ⟨rfl, hb5⟩; have B5 := Lib.hid (B4.out.trans (hb5.mono B4.out.size)); clear hb5; have y0 := (X3.out.below B5.out).c0; have y1 := (X3.out.below B5.out).c1))
              all_goals
                go_wp2_with fail
                go_ret
                exact ⟨ret_bool HE.out.symm, B3.out.trans (B5.out.mono B3.out.size)⟩
          · have h1f : (p == l) = false := by simpa using h1
            have h1' : (p != l) = true := by simpa using h1
            have HE : Hid (coverOk xs l d = false) := by
              have : coverOk xs l d = false := HF.out (by rw [HCV2.out, h1f, Bool.false_and])
              exact Lib.hid this
            clear h1 HB
            first | (go_region_with (go_at_call 30; with_reducible refine Calls.mono (HA.out _) ?_; rintro e w4 ⟨rfl, hb4⟩; have B4 := Lib.hid (BD.out.trans (hb4.mono BD.out.size)); clear hb4; have x0 := (X3.out.below B4.out).c0; have x1 := (X3.out.below B4.out).c1)) | fail
            all_goals
              go_wp2_with fail
              go_ret
              exact ⟨ret_bool HE.out.symm, B3.out.trans (B4.out.mono B3.out.size)⟩
        · obtain rfl : k = s0.size := by omega
          have HE := Lib.hid (HTR.out HCT.out)
          go_wp2_with fail
          go_ret
          exact ⟨ret_bool HE.out.symm, BB.out⟩
end Go.Proofs.Ytlbblfbiiceofaa

namespace Go.Proofs.Ytlbblfbiiceofaa
open Go.RowKit

/-- a row of one's own, and whether there is one -/
def ExP (ys : List ByteArray) (b : Bool) (w : World) (e : Ending) (w' : World) : Prop :=
  ∃ v, e = .returned (.tuple #[v, .bool b]) ∧ w'.ownsRow w.heap.size 9 1 v ys.length (ys.map Value.string) ∧ Below w.heap.size w w'
theorem ExP.no {xs : List ByteArray} {a b : Int} {w w' : World} {v : Value} (h : exchOk xs a b = false) (hv : v = .slice none 0 0 ∨ ∃ g, v = .slice (some ⟨g, 0, none⟩) 0 0 ∧ w'.ownsRow w.heap.size 9 1 v 0 []) (hb : Below w.heap.size w w') :
    ExP (exch xs a b) (exchOk xs a b) w (.returned (.tuple #[v, .bool false])) w' := by
  rw [exch_no h, h]
  refine ⟨v, rfl, ?_, hb⟩
  rcases hv with rfl | ⟨g, rfl, h⟩
  · exact World.ownsRow_nil _ _ _ _
  · exact h
theorem rowIn_any (a : Option Addr) (n c : Nat) (p : Int) (w : World) (_hn : n ≤ 9223372036854775807) :
    Calls Try.prog 65 #[.slice a n c, .int .i64 p] w fun e w' => e = .returned (.bool (decide (0 ≤ p) && decide (p < n))) ∧ w = w' := by
  by_cases h : 0 ≤ p
  · have hd : decide (0 ≤ p) = true := decide_eq_true h
    go_enter Try.func65, Try.ntmps65
    go_wp2
    go_ret
    exact ⟨ret_bool (by rw [hd, Bool.true_and]), rfl⟩
  · have hd : decide (0 ≤ p) = false := decide_eq_false h
    go_enter Try.func65, Try.ntmps65
    go_wp2
    go_ret
    exact ⟨ret_bool (by simp), rfl⟩
theorem owns_drewE {w : World} {base : Nat} {e : TypeId} {size : Nat} {v : Value} {n : Nat} {xs : List Value} (h : w.ownsRow base e size v n xs) : w.drew.ownsRow base e size v n xs :=
  h.kept (row := none) ⟨rfl, rfl, rfl, Nat.le_refl _, fun _ _ _ => rfl⟩ (by cases v.ownBlock <;> simp)
theorem exchTo_map (xs : List ByteArray) (a b : Nat) (ha : a < xs.length) (hb : b < xs.length) : (exchTo xs a b).map Value.string = ((xs.map Value.string).set a (.string xs[b])).set b (.string xs[a]) := by
  have e1 : xs.getD a ⟨#[]⟩ = xs[a] := by simp [List.getD, ha]
  have e2 : xs.getD b ⟨#[]⟩ = xs[b] := by simp [List.getD, hb]
  rw [exchTo, e1, e2, List.map_set, List.map_set]

set_option maxHeartbeats 3200000 in
theorem implExch_yes (v : Value) (xs : List ByteArray) (hwf : Short xs) (a b : Nat) (w : World) (h : IsStrs w v xs) (hr : rosterOk xs = true) (ha : a < xs.length) (hb : b < xs.length) (hab : a ≠ b) :
    Calls Try.prog 31 #[v, .int .i64 (a : Int), .int .i64 (b : Int)] w fun e w' => ∃ u, e = .returned (.tuple #[u, .bool true]) ∧ w'.ownsRow w.heap.size 9 1 u xs.length ((exchTo xs a b).map Value.string) ∧ Below w.heap.size w w' := by
  have HR := Lib.hid (implRosterOk_any v xs hwf w h)
  rw [hr] at HR
  obtain ⟨hn1, hn4, -, -⟩ := rosterOk_iff.1 hr
  have hne : ((a : Int) == (b : Int)) = false := by simp; omega
  obtain ⟨ad, cap, rfl, hcp, hmx⟩ := h.form
  obtain ⟨g, off, rfl, hg, hc⟩ := h.at (by omega)
  have HC := Lib.hid hc
  have HG := Lib.hid hg
  have HIN : Hid (∀ (p : Nat) (W : World), p < xs.length → Calls Try.prog 65 #[.slice (some ⟨g, off, none⟩) xs.length cap, .int .i64 (p : Int)] W fun e w' => e = .returned (.bool true) ∧ W = w') := by
    have : ∀ (p : Nat) (W : World), p < xs.length → Calls Try.prog 65 #[.slice (some ⟨g, off, none⟩) xs.length cap, .int .i64 (p : Int)] W fun e w' => e = .returned (.bool true) ∧ W = w' := fun p W hp => by
      have := rowIn_any (some ⟨g, off, none⟩) xs.length cap (p : Int) W (by omega)
      rw [show (decide ((0 : Int) ≤ p) && decide ((p : Int) < xs.length)) = true by simp; omega] at this
      exact this
    exact Lib.hid this
  have HM := Lib.hid (exchTo_map xs a b ha hb)
  have HCL : Hid (∀ W : World, (∀ k (hk : k < xs.length), W.cell? ⟨g, off + k, none⟩ = some (.string xs[k])) → Calls Try.prog 66 #[.slice (some ⟨g, off, none⟩) xs.length cap] W fun e w' => ∃ v', e = .returned v' ∧ w'.ownsRow W.heap.size 9 1 v' xs.length (xs.map Value.string) ∧ Below W.heap.size W w') := by
    have : ∀ W : World, (∀ k (hk : k < xs.length), W.cell? ⟨g, off + k, none⟩ = some (.string xs[k])) → Calls Try.prog 66 #[.slice (some ⟨g, off, none⟩) xs.length cap] W fun e w' => ∃ v', e = .returned v' ∧ w'.ownsRow W.heap.size 9 1 v' xs.length (xs.map Value.string) ∧ Below W.heap.size W w' := fun W hW => by
      refine (Any.slices_Clone_string shCloneS_lays g off xs.length cap xs W (Nat.le_refl _) (by omega) (fun j hj => by rw [hW j hj]; simp [List.getD, hj])).mono ?_
      rintro e w' ⟨v', rfl, ho, -, hb⟩
      exact ⟨v', rfl, by rw [List.take_length] at ho; exact ho, hb⟩
    exact Lib.hid this
  clear hc hg h hwf hr
  go_enter Try.func31, Try.ntmps31
  go_wp2_with fail
  refine HR.out.mono ?_
  rintro e w1 ⟨rfl, hb1⟩
  have B1 := Lib.hid hb1
  have HC1 : Hid (∀ k (hk : k < xs.length), w1.cell? ⟨g, off + k, none⟩ = some (.string xs[k])) := Lib.hid (fun k hk => (hb1.cell (p := ⟨g, off + k, none⟩) HG.out).trans (HC.out k hk))
  clear hb1
  go_wp2_with fail
  refine (HIN.out a w1 ha).mono ?_
  rintro e w' ⟨rfl, rfl⟩
  go_wp2_with fail
  refine (HIN.out b w1 hb).mono ?_
  rintro e w' ⟨rfl, rfl⟩
  go_wp2_with fail
  refine (HCL.out w1 HC1.out).mono ?_
  rintro e w2 ⟨v2, rfl, ho, hb2⟩
  obtain ⟨g2, c2, rfl, hc21, hc22⟩ : ∃ g2 c2, v2 = .slice (some ⟨g2, 0, none⟩) xs.length c2 ∧ xs.length ≤ c2 ∧ c2 ≤ 9223372036854775807 := by
    rcases ho.2 with ⟨_, hn⟩ | ⟨g', c', cur, rfl, _, _, h1, h2, _⟩
    · omega
    · unfold maxLen at h2
      exact ⟨g', c', rfl, h1, h2⟩
  have hlt := ho.lt g2 rfl
  have xa : w2.cell? ⟨g, off + a, none⟩ = some (.string xs[a]) := (hb2.cell (p := ⟨g, off + a, none⟩) (Nat.lt_of_lt_of_le HG.out B1.out.size)).trans (HC1.out a ha)
  have xb : w2.cell? ⟨g, off + b, none⟩ = some (.string xs[b]) := (hb2.cell (p := ⟨g, off + b, none⟩) (Nat.lt_of_lt_of_le HG.out B1.out.size)).trans (HC1.out b hb)
  have ya : w2.cell? ⟨g2, a, none⟩ = some (.string xs[a]) := by rw [ho.cellAt a (by omega)]; simp [ha]
  have yb : w2.cell? ⟨g2, b, none⟩ = some (.string xs[b]) := by rw [ho.cellAt b (by omega)]; simp [hb]
  have fa := ho.frozenAt a
  have fb := ho.frozenAt b
  have hgg : g ≠ g2 := by have := Nat.lt_of_lt_of_le HG.out B1.out.size; omega
  have hgg2 : g2 ≠ g := fun e => hgg e.symm
  have hba : b ≠ a := fun e => hab e.symm
  have hoo1 : ¬ off + a = off + b := by omega
  have hoo2 : ¬ off + b = off + a := by omega
  have hs1 := ho.stored a (.string xs[b])
  have hs2 := hs1.1.stored b (.string xs[a])
  rw [← HM.out] at hs2
  have HS := Lib.hid (show (((w2.setCell ⟨g2, a, none⟩ (.string xs[b])).setCell ⟨g2, b, none⟩ (.string xs[a])).ownsRow w1.heap.size 9 1 (.slice (some ⟨g2, 0, none⟩) xs.length c2) xs.length ((exchTo xs a b).map Value.string)) from hs2.1)
  have hB : Below w1.heap.size w1 ((w2.setCell ⟨g2, a, none⟩ (.string xs[b])).setCell ⟨g2, b, none⟩ (.string xs[a])) := (hb2.setCell (p := ⟨g2, a, none⟩) hlt.1 _).setCell (p := ⟨g2, b, none⟩) hlt.1 _
  have HB := Lib.hid (B1.out.trans (hB.mono B1.out.size))
  have HW1 := Lib.hid (B1.out.size)
  clear hs1 hs2 hB ho hb2 hlt HM HCL
  generalize xs[a] = sa at *
  generalize xs[b] = sb at *
  have hal : (a : Int) < (xs.length : Int) := by omega
  have hbl : (b : Int) < (xs.length : Int) := by omega
  go_wp2_with fail
  go_region
  all_goals
    go_wp2_with fail
    go_ret2
    exact ⟨_, rfl, ownsRow_base (owns_drewE HS.out) (fun k e => by cases e; exact Nat.le_trans HW1.out (World.ownsRow.lt HS.out g2 rfl).1), HB.out.drew⟩

theorem ExP.yes {xs : List ByteArray} {a b : Nat} {w w' : World} {v : Value} (h : exchOk xs a b = true) (ho : w'.ownsRow w.heap.size 9 1 v xs.length ((exchTo xs a b).map Value.string)) (hb : Below w.heap.size w w') :
    ExP (exch xs a b) (exchOk xs a b) w (.returned (.tuple #[v, .bool true])) w' := by
  rw [exch_yes h, h]
  exact ⟨v, rfl, by rw [exchTo_length]; exact ho, hb⟩

set_option maxHeartbeats 1600000 in
theorem implExch_any (v : Value) (xs : List ByteArray) (hwf : Short xs) (a b : Int) (w : World) (h : IsStrs w v xs) :
    Calls Try.prog 31 #[v, .int .i64 a, .int .i64 b] w (ExP (exch xs a b) (exchOk xs a b) w) := by
  cases hx : exchOk xs a b with
  | true =>
    obtain ⟨h1, h2, h3, h4⟩ := exchOk_iff.1 hx
    obtain ⟨na, rfl⟩ := Int.eq_ofNat_of_zero_le h2.1
    obtain ⟨nb, rfl⟩ := Int.eq_ofNat_of_zero_le h3.1
    refine (implExch_yes v xs hwf na nb w h h1 (by omega) (by omega) (by omega)).mono ?_
    rintro e w' ⟨u, rfl, ho, hb⟩
    have := ExP.yes hx ho hb
    rw [hx] at this
    exact this
  | false =>
    have HE : Hid (∀ w', Below w.heap.size w w' → ExP (exch xs a b) false w (.returned (.tuple #[.slice none 0 0, .bool false])) w') := by
      have : ∀ w', Below w.heap.size w w' → ExP (exch xs a b) false w (.returned (.tuple #[.slice none 0 0, .bool false])) w' := fun w' hb => by
        have := ExP.no hx (.inl rfl) hb
        rw [hx] at this
        exact this
      exact Lib.hid this
    have HR := Lib.hid (implRosterOk_any v xs hwf w h)
    obtain ⟨ad, cap, rfl, hcp, hmx⟩ := h.form
    have HIN := Lib.hid (fun p W => rowIn_any ad xs.length cap p W (by omega))
    clear h hwf
    cases hr : rosterOk xs with
    | false =>
      rw [hr] at HR
      clear hx
      go_enter Try.func31, Try.ntmps31
      go_wp2_with (go_at_call 18; refine HR.out.mono ?_; rintro e w1 ⟨rfl, hb1⟩)
      go_ret2
      exact HE.out _ hb1
    | true =>
      rw [hr] at HR
      by_cases hab : a = b
      · have hne : (a == b) = true := by simp [hab]
        clear hx hab
        go_enter Try.func31, Try.ntmps31
        go_wp2_with (go_at_call 18; refine HR.out.mono ?_; rintro e w1 ⟨rfl, hb1⟩)
        go_ret2
        exact HE.out _ hb1
      · have hne : (a == b) = false := by simpa using hab
        by_cases ha : (decide (0 ≤ a) && decide (a < xs.length)) = true
        · have hb : (decide (0 ≤ b) && decide (b < xs.length)) = false := by
            cases hb : (decide (0 ≤ b) && decide (b < xs.length)) with
            | false => rfl
            | true =>
              have : exchOk xs a b = true := by rw [exchOk, hr, ha, hb]; simp [hab]
              rw [hx] at this; cases this
          have HA := Lib.hid (HIN.out a)
          have HB := Lib.hid (HIN.out b)
          rw [ha] at HA
          rw [hb] at HB
          clear hx hab ha hb
          go_enter Try.func31, Try.ntmps31
          go_wp2_with fail
          refine HR.out.mono ?_
          rintro e w1 ⟨rfl, hb1⟩
          go_wp2_with fail
          refine (HA.out w1).mono ?_
          rintro e w' ⟨rfl, rfl⟩
          go_wp2_with fail
          refine (HB.out w1).mono ?_
          rintro e w' ⟨rfl, rfl⟩
          go_wp2_with fail
          go_ret2
          exact HE.out _ hb1
        · have haf : (decide (0 ≤ a) && decide (a < xs.length)) = false := by simpa using ha
          have HA := Lib.hid (HIN.out a)
          rw [haf] at HA
          clear hx hab ha haf
          go_enter Try.func31, Try.ntmps31
          go_wp2_with fail
          refine HR.out.mono ?_
          rintro e w1 ⟨rfl, hb1⟩
          go_wp2_with fail
          refine (HA.out w1).mono ?_
          rintro e w' ⟨rfl, rfl⟩
          go_wp2_with fail
          go_ret2
          exact HE.out _ hb1

theorem exch_take {xs : List ByteArray} {a b : Nat} (ha : a < xs.length) (hb : b < xs.length) (k : Nat) (hk : k < xs.length) :
    ((exchTo xs a b).take (k + 1)).map Value.string = ((exchTo xs a b).take k).map Value.string ++ [Value.string (if k = b then xs[a] else if k = a then xs[b] else xs[k])] := by
  have hl := exchTo_length xs a b
  rw [List.take_succ_eq_append_getElem (by omega), List.map_append, exchTo_get ha hb]; rfl

set_option maxHeartbeats 3200000 in
theorem specExch_yes (v : Value) (xs : List ByteArray) (hwf : Short xs) (a b : Nat) (w : World) (h : IsStrs w v xs) (hr : rosterOk xs = true) (ha : a < xs.length) (hb : b < xs.length) (hab : a ≠ b) :
    Calls Try.prog 41 #[v, .int .i64 (a : Int), .int .i64 (b : Int)] w fun e w' => ∃ u, e = .returned (.tuple #[u, .bool true]) ∧ w'.ownsRow w.heap.size 9 1 u xs.length ((exchTo xs a b).map Value.string) ∧ Below w.heap.size w w' := by
  have HR := Lib.hid (specRosterOk_any v xs hwf w h)
  rw [hr] at HR
  obtain ⟨u0, hu, hz0, hz1, hz2⟩ := info_parts infoStrC
  have HU := Lib.hid (And.intro hu (And.intro hz0 (And.intro hz1 hz2)))
  clear hu hz0 hz1 hz2
  obtain ⟨hn1, hn4, -, -⟩ := rosterOk_iff.1 hr
  have hne : ((a : Int) == (b : Int)) = false := by simp; omega
  obtain ⟨ad, cap, rfl, hcp, hmx⟩ := h.form
  obtain ⟨g, off, rfl, hg, hc⟩ := h.at (by omega)
  have HC := Lib.hid hc
  have HG := Lib.hid hg
  have HIN : Hid (∀ (p : Nat) (W : World), p < xs.length → Calls Try.prog 57 #[.int .i64 (p : Int), .int .i64 0, .int .i64 ((xs.length : Int) - 1)] W fun e w' => e = .returned (.bool true) ∧ W = w') := by
    have : ∀ (p : Nat) (W : World), p < xs.length → Calls Try.prog 57 #[.int .i64 (p : Int), .int .i64 0, .int .i64 ((xs.length : Int) - 1)] W fun e w' => e = .returned (.bool true) ∧ W = w' := fun p W hp => by
      have := l1In_any (p : Int) 0 ((xs.length : Int) - 1) W
      rw [show (decide ((0 : Int) ≤ p) && decide ((p : Int) ≤ (xs.length : Int) - 1)) = true by simp; omega] at this
      exact this
    exact Lib.hid this
  have HT := Lib.hid (exch_take ha hb)
  have hl := exchTo_length xs a b
  have HALL : Hid ((exchTo xs a b).take xs.length = exchTo xs a b) := Lib.hid (List.take_of_length_le (by omega))
  generalize exchTo xs a b = ys at *
  have HL := Lib.hid hl
  clear hc hg h hwf hr hl
  go_enter Try.func41, Try.ntmps41
  go_wp2_with fail
  refine HR.out.mono ?_
  rintro e w1 ⟨rfl, hb1⟩
  have B1 := Lib.hid hb1
  have HC1 : Hid (∀ k (hk : k < xs.length), w1.cell? ⟨g, off + k, none⟩ = some (.string xs[k])) := Lib.hid (fun k hk => (hb1.cell (p := ⟨g, off + k, none⟩) HG.out).trans (HC.out k hk))
  have hg1 := Lib.hid (Nat.lt_of_lt_of_le HG.out hb1.size)
  clear hb1
  go_wp2_with fail
  refine (HIN.out a w1 ha).mono ?_
  rintro e w' ⟨rfl, rfl⟩
  go_wp2_with fail
  refine (HIN.out b w1 hb).mono ?_
  rintro e w' ⟨rfl, rfl⟩
  have O1 := Lib.hid ((Own.nil w1).lit 9 #[] 0 rfl (Nat.zero_le _))
  go_wp2_with fail
  go_loopw [8, 9] (fun ov iv wr => ∃ (k n : Nat), k ≤ xs.length ∧ iv = .int .i64 (k : Int) ∧ Hid (n = k) ∧ n ≤ 4 ∧ Own w1 [rowT 9 1 ov n ((ys.take k).map Value.string)] wr) (fun _ iv _ => xs.length - (intOf iv).toNat)
  case atStart => exact ⟨0, 0, Nat.zero_le _, rfl, Lib.hid rfl, Nat.zero_le _, O1.out⟩
  case round =>
    obtain ⟨k, n, hk, rfl, HN, hn, hO⟩ := hrel
    obtain ⟨wa, wc, rfl⟩ := ownsRow_sliceR (hO.row 0 (by simp) rfl)
    have O2 := Lib.hid hO
    by_cases hlt : k < xs.length
    · have xa := (O2.out.keep.cell (p := ⟨g, off + a, none⟩) hg1.out).trans (HC1.out a ha)
      have xb := (O2.out.keep.cell (p := ⟨g, off + b, none⟩) hg1.out).trans (HC1.out b hb)
      have xk := (O2.out.keep.cell (p := ⟨g, off + k, none⟩) hg1.out).trans (HC1.out k hlt)
      have HTK := Lib.hid (HT.out k hlt)
      have hal : (a : Int) < (xs.length : Int) := by omega
      have hbl : (b : Int) < (xs.length : Int) := by omega
      clear hO
      by_cases h1 : k = a
      · have h1' : ((k : Int) == (a : Int)) = true := by simp [h1]
        have HV : Hid ((ys.take (k + 1)).map Value.string = (ys.take k).map Value.string ++ [Value.string xs[b]]) := by
          have : (ys.take (k + 1)).map Value.string = (ys.take k).map Value.string ++ [Value.string xs[b]] := by rw [HTK.out, if_neg (by omega), if_pos h1]
          exact Lib.hid this
        clear h1 HTK
        generalize xs[b] = sb at *
        go_wp2_with (at_builtin; refine wpList_append_lies _ rfl _ _ 23 rfl 0 9 u0 (.string ⟨#[]⟩) 1 16 Try.underlying23 HU.out.1 HU.out.2.1 HU.out.2.2.1 HU.out.2.2.2 rfl (by decide) (.slice wa n wc) n ((ys.take k).map Value.string) rfl ((O2.out.row 0 (by simp) rfl).alloc _) ⟨wr.heap.size, 0, none⟩ 1 1 [.string sb] rfl rfl (cellRD _ _ _) (by simp [Value.oneCell']) (by omega) (by unfold maxLen; omega) (by omega) (Nat.zero_le _) _ rfl ?_; intro g9 cp w6 hown hgrow hat hlt3; have O5 := Lib.hid (O2.out.push (i := 0) (by simp) rfl hgrow hown hat); clear hown hgrow hat hlt3)
        go_roundw
        case rel => exact ⟨k + 1, n + 1, by omega, by go_num, Lib.hid (by rw [HN.out]), by have := HN.out; omega, by rw [HV.out]; exact O5.out⟩
        case measure => simp [intOf]; omega
      · have h1' : ((k : Int) == (a : Int)) = false := by simp; omega
        by_cases h2 : k = b
        · have h2' : ((k : Int) == (b : Int)) = true := by simp [h2]
          have HV : Hid ((ys.take (k + 1)).map Value.string = (ys.take k).map Value.string ++ [Value.string xs[a]]) := by
            have : (ys.take (k + 1)).map Value.string = (ys.take k).map Value.string ++ [Value.string xs[a]] := by rw [HTK.out, if_pos h2]
            exact Lib.hid this
          clear h1 h2 HTK
          generalize xs[a] = sa at *
          go_wp2_with (at_builtin; refine wpList_append_lies _ rfl _ _ 23 rfl 0 9 u0 (.string ⟨#[]⟩) 1 16 Try.underlying23 HU.out.1 HU.out.2.1 HU.out.2.2.1 HU.out.2.2.2 rfl (by decide) (.slice wa n wc) n ((ys.take k).map Value.string) rfl ((O2.out.row 0 (by simp) rfl).alloc _) ⟨wr.heap.size, 0, none⟩ 1 1 [.string sa] rfl rfl (cellRD _ _ _) (by simp [Value.oneCell']) (by omega) (by unfold maxLen; omega) (by omega) (Nat.zero_le _) _ rfl ?_; intro g9 cp w6 hown hgrow hat hlt3; have O5 := Lib.hid (O2.out.push (i := 0) (by simp) rfl hgrow hown hat); clear hown hgrow hat hlt3)
          go_roundw
          case rel => exact ⟨k + 1, n + 1, by omega, by go_num, Lib.hid (by rw [HN.out]), by have := HN.out; omega, by rw [HV.out]; exact O5.out⟩
          case measure => simp [intOf]; omega
        · have h2' : ((k : Int) == (b : Int)) = false := by simp; omega
          have HV : Hid ((ys.take (k + 1)).map Value.string = (ys.take k).map Value.string ++ [Value.string xs[k]]) := by
            have : (ys.take (k + 1)).map Value.string = (ys.take k).map Value.string ++ [Value.string xs[k]] := by rw [HTK.out, if_neg h2, if_neg h1]
            exact Lib.hid this
          clear h1 h2 HTK
          generalize xs[k] = sk at *
          go_wp2_with (at_builtin; refine wpList_append_lies _ rfl _ _ 23 rfl 0 9 u0 (.string ⟨#[]⟩) 1 16 Try.underlying23 HU.out.1 HU.out.2.1 HU.out.2.2.1 HU.out.2.2.2 rfl (by decide) (.slice wa n wc) n ((ys.take k).map Value.string) rfl ((O2.out.row 0 (by simp) rfl).alloc _) ⟨wr.heap.size, 0, none⟩ 1 1 [.string sk] rfl rfl (cellRD _ _ _) (by simp [Value.oneCell']) (by omega) (by unfold maxLen; omega) (by omega) (Nat.zero_le _) _ rfl ?_; intro g9 cp w6 hown hgrow hat hlt3; have O5 := Lib.hid (O2.out.push (i := 0) (by simp) rfl hgrow hown hat); clear hown hgrow hat hlt3)
          go_roundw
          case rel => exact ⟨k + 1, n + 1, by omega, by go_num, Lib.hid (by rw [HN.out]), by have := HN.out; omega, by rw [HV.out]; exact O5.out⟩
          case measure => simp [intOf]; omega
    · obtain rfl : k = xs.length := by omega
      have HF : Hid (wr.ownsRow w.heap.size 9 1 (.slice wa n wc) xs.length (ys.map Value.string)) := by
        have h1 := ownsRow_base (O2.out.row 0 (by simp) rfl) (B := w.heap.size) (fun j e => Nat.le_trans B1.out.size ((O2.out.ap.ltAt 0 (by simp)) j e).1)
        rw [HALL.out, HN.out] at h1
        rw [HN.out]
        exact Lib.hid h1
      clear hO
      go_wp2_with fail
      go_ret2
      exact ⟨_, rfl, HF.out, B1.out.trans (O2.out.keep.mono B1.out.size)⟩

set_option maxHeartbeats 1600000 in
theorem specExch_any (v : Value) (xs : List ByteArray) (hwf : Short xs) (a b : Int) (w : World) (h : IsStrs w v xs) :
    Calls Try.prog 41 #[v, .int .i64 a, .int .i64 b] w (ExP (exch xs a b) (exchOk xs a b) w) := by
  cases hx : exchOk xs a b with
  | true =>
    obtain ⟨h1, h2, h3, h4⟩ := exchOk_iff.1 hx
    obtain ⟨na, rfl⟩ := Int.eq_ofNat_of_zero_le h2.1
    obtain ⟨nb, rfl⟩ := Int.eq_ofNat_of_zero_le h3.1
    refine (specExch_yes v xs hwf na nb w h h1 (by omega) (by omega) (by omega)).mono ?_
    rintro e w' ⟨u, rfl, ho, hb⟩
    have := ExP.yes hx ho hb
    rw [hx] at this
    exact this
  | false =>
    have HE : Hid (∀ W : World, Below w.heap.size w W → ExP (exch xs a b) false w (.returned (.tuple #[.slice (some ⟨W.heap.size, 0, none⟩) 0 0, .bool false])) (W.alloc (.cells #[] 9))) := by
      have : ∀ W : World, Below w.heap.size w W → ExP (exch xs a b) false w (.returned (.tuple #[.slice (some ⟨W.heap.size, 0, none⟩) 0 0, .bool false])) (W.alloc (.cells #[] 9)) := fun W hb => by
        have := ExP.no (w' := W.alloc (.cells #[] 9)) hx (.inr ⟨W.heap.size, rfl, World.ownsRow_made W #[] 0 hb.size (Nat.zero_le _) rfl⟩) (hb.alloc hb.size _)
        rw [hx] at this
        exact this
      exact Lib.hid this
    have HR := Lib.hid (specRosterOk_any v xs hwf w h)
    obtain ⟨ad, cap, rfl, hcp, hmx⟩ := h.form
    have HIN := Lib.hid (fun p W => l1In_any p 0 ((xs.length : Int) - 1) W)
    clear h hwf
    cases hr : rosterOk xs with
    | false =>
      rw [hr] at HR
      clear hx
      go_enter Try.func41, Try.ntmps41
      go_wp2_with fail
      refine HR.out.mono ?_
      rintro e w1 ⟨rfl, hb1⟩
      go_wp2_with fail
      go_ret2
      exact HE.out _ hb1
    | true =>
      rw [hr] at HR
      have h1n := (rosterOk_iff.1 hr).1
      have h4n := (rosterOk_iff.1 hr).2.1
      cases ha : (decide (0 ≤ a) && decide (a ≤ (xs.length : Int) - 1)) with
      | false =>
        have HA := Lib.hid (HIN.out a)
        rw [ha] at HA
        clear hx ha
        go_enter Try.func41, Try.ntmps41
        go_wp2_with fail
        refine HR.out.mono ?_
        rintro e w1 ⟨rfl, hb1⟩
        go_wp2_with fail
        refine (HA.out w1).mono ?_
        rintro e w' ⟨rfl, rfl⟩
        go_wp2_with fail
        go_ret2
        exact HE.out _ hb1
      | true =>
        have HA := Lib.hid (HIN.out a)
        rw [ha] at HA
        cases hb : (decide (0 ≤ b) && decide (b ≤ (xs.length : Int) - 1)) with
        | false =>
          have HB := Lib.hid (HIN.out b)
          rw [hb] at HB
          clear hx ha hb
          go_enter Try.func41, Try.ntmps41
          go_wp2_with fail
          refine HR.out.mono ?_
          rintro e w1 ⟨rfl, hb1⟩
          go_wp2_with fail
          refine (HA.out w1).mono ?_
          rintro e w' ⟨rfl, rfl⟩
          go_wp2_with fail
          refine (HB.out w1).mono ?_
          rintro e w' ⟨rfl, rfl⟩
          go_wp2_with fail
          go_ret2
          exact HE.out _ hb1
        | true =>
          have HB := Lib.hid (HIN.out b)
          rw [hb] at HB
          have hab : a = b := by
            simp only [Bool.and_eq_true, decide_eq_true_eq] at ha hb
            by_cases e : a = b
            · exact e
            · have := exchOk_iff.2 ⟨hr, ⟨ha.1, by omega⟩, ⟨hb.1, by omega⟩, e⟩
              rw [hx] at this; cases this
          have hne : (a == b) = true := by simp [hab]
          clear hx ha hb hab
          go_enter Try.func41, Try.ntmps41
          go_wp2_with fail
          refine HR.out.mono ?_
          rintro e w1 ⟨rfl, hb1⟩
          go_wp2_with fail
          refine (HA.out w1).mono ?_
          rintro e w' ⟨rfl, rfl⟩
          go_wp2_with fail
          refine (HB.out w1).mono ?_
          rintro e w' ⟨rfl, rfl⟩
          go_wp2_with fail
          go_ret2
          exact HE.out _ hb1

end Go.Proofs.Ytlbblfbiiceofaa
