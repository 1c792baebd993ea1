/- spec.l3Next: the state of a rule after a letter. No condition. The machine of a rule, and where a word breaks a rule, as plain data. No program's walk, no condition. MachineFor on the model's side. No condition. spec.BrokenAt. No condition. MachineFor on the model's side, kind by kind. No condition. MachineFor on the model's side, for one kind of rules. No condition. MachineFor on the model's side, for one kind of rules. No condition. MachineFor on the model's side, for one kind of rules. No condition. MachineFor on the model's side, for one kind of rules. No condition. MachineFor on the model's side, for one kind of rules. No condition. MachineFor on the program's side, for every rule. No condition. The laws' copies of slices of ints and of bools: fresh, and equal. The laws' copies of slices of bools: fresh, and equal. The helpers of the exact laws on slices of ints. laws.eqBoolS: whether two lists of truths are the same. No condition. The exact laws' helpers on machines: sizes, copies, equality. The laws' copy of a machine, with its rows in memory of their own. No condition. The laws' numbering of slices of bools and of machines. No condition. The laws' numbering of machines. No condition. Machines in boxes, for the walks of the exact laws. No condition. MachineFor on the model's side, for every rule; the walk of FnExactMachineFor: true at every rule. No condition. -/
import Derived.Test.YtgpjckmmleagbaaKeeps
import Derived.Test.YtgpjckmmleagbaaMakers
import Derived.Test.YtgpjckmmleagbaaForBase
import Derived.Deep.RegionLaw
import Derived.Deep.AppendLies
import Derived.Test.YtgpjckmmleagbaaFor0
import Derived.Test.YtgpjckmmleagbaaFor1
import Derived.Test.YtgpjckmmleagbaaFor2
import Derived.Test.YtgpjckmmleagbaaFor3
import Derived.Test.YtgpjckmmleagbaaFor4
import Derived.Test.YtgpjckmmleagbaaReads
import Derived.Test.YtgpjckmmleagbaaWords
import Derived.WalkSmall
import Derived.Test.YtgpjckmmleagbaaInts
import Derived.Deep.QuietTactic
import Derived.BigQuiet
import Derived.Test.YtgpjckmmleagbaaMach
import Derived.Test.YtgpjckmmleagbaaFromWalk
import Derived.Test.YtgpjckmmleagbaaApart

namespace Go.Proofs.Ytgpjckmmleagbaa
open Go.RowKit
set_option linter.unusedVariables false

/-- the text of a letter -/
def strOf (l : Nat) : ByteArray := ⟨#[byteOf l]⟩
theorem str_eq {t : ByteArray} (ht : letterOk t = true) (l : Nat) (hl : l < 3) : ((strOf l).toList == t.toList) = (byteAt t 0 == byteOf l) := by
  rw [ByteArray.toList_eq, ByteArray.toList_eq]
  match l, hl with
  | 0, _ => rcases letterOk_cases ht with rfl | rfl | rfl <;> decide
  | 1, _ => rcases letterOk_cases ht with rfl | rfl | rfl <;> decide
  | 2, _ => rcases letterOk_cases ht with rfl | rfl | rfl <;> decide

theorem l3Next_0 (letter thn : ByteArray) (many s : Int) (t : ByteArray) (w : World) (h0 : 0 ≤ s) (hs : s ≤ 10) (hb0 : 0 ≤ many) (hb : many ≤ 10) (its : Bool) (hi : (t.toList == letter.toList) = its) :
    Calls Try.prog 91 #[.agg #[.int .i64 0, .string letter, .string thn, .int .i64 many], .int .i64 s, .string t] w fun e w' => e = .returned (.int .i64 (nxR 0 many its false s)) ∧ Below w.heap.size w w' := by
  cases its with
  | true =>
    by_cases hsm : s = many
    · have hsm' : (s == many) = true := by simpa using hsm
      go_enter Try.func91, Try.ntmps91
      go_wp2
      go_ret
      exact ⟨ret_int (by simp [nxR, hsm]), (Below.refl _ _).alloc (Nat.le_refl _) _⟩
    · have hsm' : (s == many) = false := by simpa using hsm
      go_enter Try.func91, Try.ntmps91
      go_wp2
      go_ret
      exact ⟨ret_int (by simp [nxR, hsm]), (Below.refl _ _).alloc (Nat.le_refl _) _⟩
  | false =>
    go_enter Try.func91, Try.ntmps91
    go_wp2
    go_ret
    exact ⟨ret_int (by simp [nxR]), (Below.refl _ _).alloc (Nat.le_refl _) _⟩

theorem l3Next_1 (letter thn : ByteArray) (many s : Int) (t : ByteArray) (w : World) (h0 : 0 ≤ s) (hs : s ≤ 10) (hb0 : 0 ≤ many) (hb : many ≤ 10) (its : Bool) (hi : (t.toList == letter.toList) = its) :
    Calls Try.prog 91 #[.agg #[.int .i64 1, .string letter, .string thn, .int .i64 many], .int .i64 s, .string t] w fun e w' => e = .returned (.int .i64 (nxR 1 many its false s)) ∧ Below w.heap.size w w' := by
  cases its with
  | true =>
    go_enter Try.func91, Try.ntmps91
    go_wp2
    go_ret
    exact ⟨ret_int (by simp [nxR]), (Below.refl _ _).alloc (Nat.le_refl _) _⟩
  | false =>
    by_cases h1 : 0 < s
    · by_cases h2 : s < many
      · go_enter Try.func91, Try.ntmps91
        go_wp2
        go_ret
        exact ⟨ret_int (by simp [nxR, h1, h2]), (Below.refl _ _).alloc (Nat.le_refl _) _⟩
      · go_enter Try.func91, Try.ntmps91
        go_wp2
        go_ret
        exact ⟨ret_int (by simp [nxR, h1, h2]), (Below.refl _ _).alloc (Nat.le_refl _) _⟩
    · go_enter Try.func91, Try.ntmps91
      go_wp2
      go_ret
      exact ⟨ret_int (by simp [nxR]; omega), (Below.refl _ _).alloc (Nat.le_refl _) _⟩

theorem l3Next_2 (letter thn : ByteArray) (many s : Int) (t : ByteArray) (w : World) (h0 : 0 ≤ s) (hs : s ≤ 10) (hb0 : 0 ≤ many) (hb : many ≤ 10) (its : Bool) (hi : (t.toList == letter.toList) = its) (th : Bool) (ht : (t.toList == thn.toList) = th) :
    Calls Try.prog 91 #[.agg #[.int .i64 2, .string letter, .string thn, .int .i64 many], .int .i64 s, .string t] w fun e w' => e = .returned (.int .i64 (nxR 2 many its th s)) ∧ Below w.heap.size w w' := by
  by_cases hx : s = 1
  · have hx' : (s == 1) = true := by simpa using hx
    cases th with
    | true =>
      go_enter Try.func91, Try.ntmps91
      go_wp2
      go_ret
      exact ⟨ret_int (by simp [nxR, hx]), (Below.refl _ _).alloc (Nat.le_refl _) _⟩
    | false =>
      cases its with
      | true =>
        go_enter Try.func91, Try.ntmps91
        go_wp2
        go_ret
        exact ⟨ret_int (by simp [nxR]), (Below.refl _ _).alloc (Nat.le_refl _) _⟩
      | false =>
        go_enter Try.func91, Try.ntmps91
        go_wp2
        go_ret
        exact ⟨ret_int (by simp [nxR]), (Below.refl _ _).alloc (Nat.le_refl _) _⟩
  · have hx' : (s == 1) = false := by simpa using hx
    cases its with
    | true =>
      go_enter Try.func91, Try.ntmps91
      go_wp2
      go_ret
      exact ⟨ret_int (by simp [nxR, hx]), (Below.refl _ _).alloc (Nat.le_refl _) _⟩
    | false =>
      go_enter Try.func91, Try.ntmps91
      go_wp2
      go_ret
      exact ⟨ret_int (by simp [nxR, hx]), (Below.refl _ _).alloc (Nat.le_refl _) _⟩

theorem l3Next_3 (letter thn : ByteArray) (many s : Int) (t : ByteArray) (w : World) (h0 : 0 ≤ s) (hs : s ≤ 10) (hb0 : 0 ≤ many) (hb : many ≤ 10) (its : Bool) (hi : (t.toList == letter.toList) = its) :
    Calls Try.prog 91 #[.agg #[.int .i64 3, .string letter, .string thn, .int .i64 many], .int .i64 s, .string t] w fun e w' => e = .returned (.int .i64 (nxR 3 many its false s)) ∧ Below w.heap.size w w' := by
  cases its with
  | true =>
    by_cases hsm : s = many
    · have hsm' : (s == many) = true := by simpa using hsm
      go_enter Try.func91, Try.ntmps91
      go_wp2
      go_ret
      exact ⟨ret_int (by simp [nxR, hsm]), (Below.refl _ _).alloc (Nat.le_refl _) _⟩
    · have hsm' : (s == many) = false := by simpa using hsm
      go_enter Try.func91, Try.ntmps91
      go_wp2
      go_ret
      exact ⟨ret_int (by simp [nxR, hsm]), (Below.refl _ _).alloc (Nat.le_refl _) _⟩
  | false =>
    go_enter Try.func91, Try.ntmps91
    go_wp2
    go_ret
    exact ⟨ret_int (by simp [nxR]), (Below.refl _ _).alloc (Nat.le_refl _) _⟩

theorem l3Next_4 (letter thn : ByteArray) (many s : Int) (t : ByteArray) (w : World) (h0 : 0 ≤ s) (hs : s ≤ 10) (hb0 : 0 ≤ many) (hb : many ≤ 10) (its : Bool) (hi : (t.toList == letter.toList) = its) :
    Calls Try.prog 91 #[.agg #[.int .i64 4, .string letter, .string thn, .int .i64 many], .int .i64 s, .string t] w fun e w' => e = .returned (.int .i64 (nxR 4 many its false s)) ∧ Below w.heap.size w w' := by
  cases its with
  | true =>
    go_enter Try.func91, Try.ntmps91
    go_wp2
    go_ret
    exact ⟨ret_int (by simp [nxR]), (Below.refl _ _).alloc (Nat.le_refl _) _⟩
  | false =>
    go_enter Try.func91, Try.ntmps91
    go_wp2
    go_ret
    exact ⟨ret_int (by simp [nxR]), (Below.refl _ _).alloc (Nat.le_refl _) _⟩

/-- the state of a rule after a letter -/
theorem l3Next_any {r : Ru} (hok : r.ok = true) (s : Int) (w : World) (h0 : 0 ≤ s) (hs : s < (r.st : Int)) (l : Nat) (hl : l < 3) :
    Calls Try.prog 91 #[.agg #[.int .i64 r.kind, .string r.letter, .string r.thn, .int .i64 r.many], .int .i64 s, .string (strOf l)] w fun e w' => e = .returned (.int .i64 (r.nx s l)) ∧ Below w.heap.size w w' := by
  obtain ⟨kind, letter, thn, many⟩ := r
  obtain ⟨hL, hr⟩ := Ru.ok_iff.1 hok
  simp only at hL hr
  have hi := str_eq hL l hl
  simp only [Ru.st] at hs
  rcases hr with ⟨rfl, rfl, a, b⟩ | ⟨rfl, rfl, a, b⟩ | ⟨rfl, ht, rfl⟩ | ⟨rfl, rfl, a, b⟩ | ⟨rfl, rfl, a, b⟩
  · simp at hs
    exact l3Next_0 letter _ many s (strOf l) w h0 (by omega) (by omega) (by omega) _ hi
  · simp at hs
    exact l3Next_1 letter _ many s (strOf l) w h0 (by omega) (by omega) (by omega) _ hi
  · simp at hs
    exact l3Next_2 letter thn 0 s (strOf l) w h0 (by omega) (by omega) (by omega) _ hi _ (str_eq ht l hl)
  · simp at hs
    exact l3Next_3 letter _ many s (strOf l) w h0 (by omega) (by omega) (by omega) _ hi
  · simp at hs
    exact l3Next_4 letter _ many s (strOf l) w h0 (by omega) (by omega) (by omega) _ hi
end Go.Proofs.Ytgpjckmmleagbaa

namespace Go.Proofs.Ytgpjckmmleagbaa

theorem tabTo_get (f : Int → Nat → Int) (n i l : Nat) (hi : i < n) (hl : l < 3) : (tabTo f n)[3 * i + l]? = some (f (i : Int) l) := by
  induction n with
  | zero => exact absurd hi (Nat.not_lt_zero _)
  | succ n ih =>
    simp only [tabTo]
    rcases Nat.lt_succ_iff_lt_or_eq.1 hi with h | rfl
    · rw [List.getElem?_append_left (by rw [tabTo_length]; omega)]
      exact ih h
    · rw [List.getElem?_append_right (by rw [tabTo_length]; omega), tabTo_length, show 3 * i + l - 3 * i = l from by omega]
      match l, hl with
      | 0, _ => rfl
      | 1, _ => rfl
      | 2, _ => rfl
theorem mfT_nx {r : Ru} (_hok : r.ok = true) {x : Int} (hx : r.inP x) {l : Nat} (hl : l < 3) : (mfT r).nx x (l : Int) = r.nx x l := by
  obtain ⟨i, rfl⟩ := Int.eq_ofNat_of_zero_le hx.1
  have hi : i < r.st := by have := hx.2; omega
  have e : (3 * (i : Int) + (l : Int)).toNat = 3 * i + l := by omega
  rw [M.nx, if_neg (by omega), e, List.getD_eq_getElem?_getD]
  show ((tabTo r.nx r.st)[3 * i + l]?).getD (-1) = _
  rw [tabTo_get _ _ _ _ hi hl]; rfl
theorem mfT_end {r : Ru} {x : Int} (hx : r.inP x) : (mfT r).endAt x = r.endAt x := by
  obtain ⟨i, rfl⟩ := Int.eq_ofNat_of_zero_le hx.1
  have hi : i < r.st := by have := hx.2; omega
  rw [M.endAt, if_neg (by omega), List.getD_eq_getElem?_getD, Int.toNat_natCast]
  show ((endsTo r.endAt r.st)[i]?).getD false = _
  simp [endsTo, hi]
theorem tab_all {r : Ru} (hok : r.ok = true) : ∀ n, n ≤ r.st → ∀ x ∈ tabTo r.nx n, -1 ≤ x ∧ x ≤ (r.st : Int) - 1 := by
  intro n
  induction n with
  | zero => intro _ x hx; simp [tabTo] at hx
  | succ n ih =>
    intro hn x hx
    simp only [tabTo, List.mem_append, List.mem_cons, List.not_mem_nil, or_false] at hx
    have hp : r.inP (n : Int) := ⟨by omega, by omega⟩
    have b := fun l => Ru.nx_bd hok hp l
    rcases hx with hx | rfl | rfl | rfl
    · exact ih (by omega) x hx
    · have := b 0; omega
    · have := b 1; omega
    · have := b 2; omega
theorem mfT_ok {r : Ru} (hok : r.ok = true) : (mfT r).ok = true := by
  have h1 := Ru.st_bd hok
  have hl1 : (mfT r).next.length = 3 * r.st := tabTo_length _ _
  have hl2 : (mfT r).ends.length = r.st := endsTo_length _ _
  have hst : (mfT r).st = (r.st : Int) := rfl
  rw [M.ok, Bool.and_eq_true, M.shape_iff, List.all_eq_true]
  refine ⟨⟨by omega, by omega, by omega, by omega⟩, fun x hx => ?_⟩
  have := tab_all hok r.st (Nat.le_refl _) x hx
  rw [nextOk, Bool.and_eq_true, decide_eq_true_eq, decide_eq_true_eq, hst]
  exact this

/-- the number of a letter of a word -/
def lix (w : ByteArray) (k : Nat) : Nat := (letterOf (byteAt w k).toNat).toNat
theorem lix_bd {w : ByteArray} (hw : wordOk w = true) {k : Nat} (hk : k < w.size) : lix w k < 3 ∧ byteOf (lix w k) = byteAt w k ∧ (lix w k : Int) = letterOf (byteAt w k).toNat := by
  have h := wordOk_at hw k hk
  rw [byteAt_eq w k hk] at h
  unfold lix
  generalize byteAt w k = c at *
  simp only [isL, Bool.or_eq_true, beq_iff_eq] at h
  rcases h with (rfl | rfl) | rfl <;> decide
/-- the state after so many letters -/
def Ru.to (r : Ru) (w : ByteArray) : Nat → Int
  | 0 => 0
  | k + 1 => if r.to w k < 0 then -1 else r.nx (r.to w k) (lix w k)
/-- how many letters were read till it stopped -/
def Ru.lets (r : Ru) (w : ByteArray) : Nat → Int
  | 0 => 0
  | k + 1 => if r.to w k < 0 then r.lets w k else r.lets w k + 1
/-- BrokenAt -/
def Ru.broken (r : Ru) (w : ByteArray) : Int := if (r.ok && wordOk w) = true then (if r.to w w.size < 0 then r.lets w w.size else -1) else -1
theorem Ru.to_bd {r : Ru} (hok : r.ok = true) (w : ByteArray) (k : Nat) : r.to w k = -1 ∨ r.inP (r.to w k) := by
  induction k with
  | zero => exact .inr (Ru.in0 hok)
  | succ k ih =>
    rcases ih with h | h
    · exact .inl (by rw [Ru.to, h]; rfl)
    · rw [Ru.to, if_neg (by have := h.1; omega)]
      have := Ru.nx_bd hok h (lix w k)
      by_cases e : r.nx (r.to w k) (lix w k) = -1
      · exact .inl e
      · exact .inr ⟨by omega, this.2⟩
theorem Ru.lets_of {r : Ru} (w : ByteArray) (k : Nat) (h : 0 ≤ r.to w k) : r.lets w k = k := by
  induction k with
  | zero => rfl
  | succ k ih =>
    by_cases e : r.to w k < 0
    · rw [Ru.to, if_pos e] at h; omega
    · rw [Ru.lets, if_neg e, ih (by omega)]; omega
theorem Ru.stuck {r : Ru} (w : ByteArray) (k j : Nat) (h : r.to w k < 0) : r.to w (k + j) < 0 ∧ r.lets w (k + j) = r.lets w k := by
  induction j with
  | zero => exact ⟨h, rfl⟩
  | succ j ih =>
    constructor
    · show r.to w (k + j + 1) < 0
      rw [Ru.to, if_pos ih.1]; omega
    · show r.lets w (k + j + 1) = _
      rw [Ru.lets, if_pos ih.1, ih.2]
theorem extract_str {w : ByteArray} (hw : wordOk w = true) {k : Nat} (hk : k < w.size) : w.extract k (k + 1) = ⟨#[byteOf (lix w k)]⟩ := by
  rw [(lix_bd hw hk).2.1, ← byteAt_eq w k hk]
  apply bytes_ext
  have hl : k < w.data.toList.length := by rw [len_data]; exact hk
  have e : w.data.toList.drop k = w.data.toList[k] :: w.data.toList.drop (k + 1) := List.drop_eq_getElem_cons hl
  rw [ByteArray.data_extract, Array.toList_extract, List.extract_eq_take_drop, show k + 1 - k = 1 from by omega, e, List.take_succ_cons, List.take_zero]
  rfl
end Go.Proofs.Ytgpjckmmleagbaa

namespace Go.Proofs.Ytgpjckmmleagbaa
open Go.RowKit

/-- a machine that is being made, with its number of states -/
structure Mk (w0 : World) (R7 : Nat) (st : Int) (nx : List Int) (nv : Value) (es : List Bool) (ev : Value) (w : World) : Prop where
  keep : Below w0.heap.size w0 w
  ap : Apart w0.heap.size [cellsT R7 #[.int .i64 st, nv, ev] 28, rowT 3 1 nv nx.length (nx.map (Value.int .i64)), rowT 4 1 ev es.length (es.map Value.bool)] w
section
variable {w0 : World} {R7 : Nat} {st : Int} {nx : List Int} {nv : Value} {es : List Bool} {ev : Value} {w w' : World}
theorem Mk.size (h : Mk w0 R7 st nx nv es ev w) : w0.heap.size ≤ w.heap.size := h.keep.size
theorem Mk.same (h : Mk w0 R7 st nx nv es ev w) (hg : w.grownBy w' none) : Mk w0 R7 st nx nv es ev w' := ⟨h.keep.grown hg h.size (fun _ e => by cases e), h.ap.same hg⟩
theorem Mk.below (h : Mk w0 R7 st nx nv es ev w) (hb : Below w.heap.size w w') : Mk w0 R7 st nx nv es ev w' := ⟨h.keep.trans (hb.mono h.size), h.ap.below hb⟩
theorem Mk.cell (h : Mk w0 R7 st nx nv es ev w) : w.cell? ⟨R7, 0, none⟩ = some (.int .i64 st) ∧ w.cell? ⟨R7, 1, none⟩ = some nv ∧ w.cell? ⟨R7, 2, none⟩ = some ev :=
  ⟨cellsT_cell h.ap.head 0, cellsT_cell h.ap.head 1, cellsT_cell h.ap.head 2⟩
theorem Mk.froz (h : Mk w0 R7 st nx nv es ev w) (i : Nat) : w.frozen? ⟨R7, i, none⟩ = false := cellsT_frozen h.ap.head i
theorem Mk.rowN (h : Mk w0 R7 st nx nv es ev w) : w.ownsRow 0 3 1 nv nx.length (nx.map (Value.int .i64)) := h.ap.at 1 (by simp)
theorem Mk.rowE (h : Mk w0 R7 st nx nv es ev w) : w.ownsRow 0 4 1 ev es.length (es.map Value.bool) := h.ap.at 2 (by simp)
theorem Mk.nextN {x : Int} {t : TypeId} {g cp : Nat} {w1 : World} (h : Mk w0 R7 st nx nv es ev w) (hg : (w.alloc (.cells #[.int .i64 x] t)).grownBy w1 nv.ownBlock)
    (ho : w1.ownsRow 0 3 1 (.slice (some ⟨g, 0, none⟩) (nx.length + 1) cp) (nx.length + 1) (nx.map (Value.int .i64) ++ [.int .i64 x])) (hat : nv.ownBlock = some g ∨ g = (w.alloc (.cells #[.int .i64 x] t)).heap.size) :
    Mk w0 R7 st (nx ++ [x]) (.slice (some ⟨g, 0, none⟩) (nx.length + 1) cp) es ev (w1.setCell ⟨R7, 1, none⟩ (.slice (some ⟨g, 0, none⟩) (nx.length + 1) cp)) ∧ w1.cell? ⟨R7, 1, none⟩ = some nv ∧ w1.frozen? ⟨R7, 1, none⟩ = false := by
  have h1 := h.same (World.grownBy_alloc w (.cells #[.int .i64 x] t) none)
  have hlt := h1.ap.ltAt 1 (by simp)
  have a1 := h1.ap.turnAt 1 (by simp) hg (rowT 3 1 (.slice (some ⟨g, 0, none⟩) (nx.length + 1) cp) (nx ++ [x]).length ((nx ++ [x]).map (Value.int .i64)))
    (by show w1.ownsRow 0 _ _ _ _ _; rw [List.length_append, List.map_append]; exact ho) h1.size
    (fun j e => ⟨by cases e; exact hat.imp id (fun e => Nat.le_of_eq e.symm), (World.ownsRow.lt ho j e).2⟩)
  have hs1 : w0.heap.size ≤ w1.heap.size := Nat.le_trans h1.size hg.size
  have hb1 := (h.ap.lt R7 rfl).1
  exact ⟨⟨((h1.keep.grown hg h1.size (fun j e => (hlt j e).1)).setCell (p := ⟨R7, 1, none⟩) hb1 _), Apart.set a1 hs1 1 _⟩, cellsT_cell a1.head 1, cellsT_frozen a1.head 1⟩
theorem Mk.nextE {x : Bool} {t : TypeId} {g cp : Nat} {w1 : World} (h : Mk w0 R7 st nx nv es ev w) (hg : (w.alloc (.cells #[.bool x] t)).grownBy w1 ev.ownBlock)
    (ho : w1.ownsRow 0 4 1 (.slice (some ⟨g, 0, none⟩) (es.length + 1) cp) (es.length + 1) (es.map Value.bool ++ [.bool x])) (hat : ev.ownBlock = some g ∨ g = (w.alloc (.cells #[.bool x] t)).heap.size) :
    Mk w0 R7 st nx nv (es ++ [x]) (.slice (some ⟨g, 0, none⟩) (es.length + 1) cp) (w1.setCell ⟨R7, 2, none⟩ (.slice (some ⟨g, 0, none⟩) (es.length + 1) cp)) ∧ w1.cell? ⟨R7, 2, none⟩ = some ev ∧ w1.frozen? ⟨R7, 2, none⟩ = false := by
  have h1 := h.same (World.grownBy_alloc w (.cells #[.bool x] t) none)
  have hlt := h1.ap.ltAt 2 (by simp)
  have a1 := h1.ap.turnAt 2 (by simp) hg (rowT 4 1 (.slice (some ⟨g, 0, none⟩) (es.length + 1) cp) (es ++ [x]).length ((es ++ [x]).map Value.bool))
    (by show w1.ownsRow 0 _ _ _ _ _; rw [List.length_append, List.map_append]; exact ho) h1.size
    (fun j e => ⟨by cases e; exact hat.imp id (fun e => Nat.le_of_eq e.symm), (World.ownsRow.lt ho j e).2⟩)
  have hs1 : w0.heap.size ≤ w1.heap.size := Nat.le_trans h1.size hg.size
  have hb1 := (h.ap.lt R7 rfl).1
  exact ⟨⟨((h1.keep.grown hg h1.size (fun j e => (hlt j e).1)).setCell (p := ⟨R7, 2, none⟩) hb1 _), Apart.set a1 hs1 2 _⟩, cellsT_cell a1.head 2, cellsT_frozen a1.head 2⟩
end
theorem mk_start (w0 : World) (st : Int) : Mk w0 w0.heap.size st [] (.slice none 0 0) [] (.slice none 0 0) (w0.alloc (.cells #[.int .i64 st, .slice none 0 0, .slice none 0 0] 28)) := by
  have A1 := (Apart.nil w0.heap.size w0).more (World.grownBy_alloc w0 _ none) (cellsT w0.heap.size #[.int .i64 st, .slice none 0 0, .slice none 0 0] 28) (heap_alloc_new w0 _) (Nat.le_refl _) (fun j e => by cases e; simp)
  have A6 := (A1.idle (rowT 4 1 (.slice none 0 0) 0 []) (World.ownsRow_nil _ _ _ _) rfl).idle (rowT 3 1 (.slice none 0 0) 0 []) (World.ownsRow_nil _ _ _ _) rfl
  refine ⟨(Below.refl w0.heap.size w0).alloc (Nat.le_refl _) _, A6.perm ?_⟩
  have p : ∀ (a b r7 : Thing), [a, b, r7].Perm [r7, a, b] := fun a b r7 => List.perm_middle (l₁ := [a, b]) (l₂ := [])
  exact p _ _ _
end Go.Proofs.Ytgpjckmmleagbaa

namespace Go.Proofs.Ytgpjckmmleagbaa
open Go.RowKit

theorem broken_yes {r : Ru} {s : ByteArray} (h : r.ok = true) (hw : wordOk s = true) : r.broken s = if r.to s s.size < 0 then r.lets s s.size else -1 := by simp [Ru.broken, h, hw]
theorem broken_no {r : Ru} {s : ByteArray} (h : (r.ok && wordOk s) = false) : r.broken s = -1 := by rw [Ru.broken, if_neg (by rw [h]; simp)]

theorem l3Next_at (kind : Int) (letter thn : ByteArray) (many : Int) (hok : (Ru.mk kind letter thn many).ok = true) (s : Int) (w : World) (h0 : 0 ≤ s) (hs : s < ((Ru.mk kind letter thn many).st : Int)) (l : Nat) (hl : l < 3) :
    Calls Try.prog 91 #[.agg #[.int .i64 kind, .string letter, .string thn, .int .i64 many], .int .i64 s, .string (strOf l)] w fun e w' => e = .returned (.int .i64 ((Ru.mk kind letter thn many).nx s l)) ∧ Below w.heap.size w w' :=
  l3Next_any (r := Ru.mk kind letter thn many) hok s w h0 hs l hl

set_option maxHeartbeats 1600000 in
set_option maxRecDepth 100000 in
theorem specBroken_yes (kind : Int) (letter thn : ByteArray) (many : Int) (s : ByteArray) (w : World) (hok : (Ru.mk kind letter thn many).ok = true) (hw : wordOk s = true) :
    Calls Try.prog 44 #[.agg #[.int .i64 kind, .string letter, .string thn, .int .i64 many], .string s] w
      fun e w' => e = .returned (.int .i64 ((Ru.mk kind letter thn many).broken s)) ∧ Below w.heap.size w w' := by
  have hsm : s.size ≤ maxLen := Nat.le_trans (wordOk_size hw) (by decide)
  have h14 := wordOk_size hw
  have HB := Lib.hid (broken_yes hok hw)
  have HTO := Lib.hid (fun k => Ru.to_bd hok s k)
  have HLX := Lib.hid (fun k hk => lix_bd hw (k := k) hk)
  have HEX := Lib.hid (fun k hk => extract_str hw (k := k) hk)
  go_enter Try.func44, Try.ntmps44
  go_wp2_with fail
  refine (specRuleOk_any kind letter thn many _).mono ?_
  rintro e w1 ⟨rfl, hb1⟩
  rw [hok]
  simp only [World.size_alloc] at hb1
  have B1 := Lib.hid hb1
  have HOK := Lib.hid hok
  clear hok hb1
  go_wp2_with (go_at_call 82; refine (specWordOk_any _ _ hsm).mono ?_; rintro e w' ⟨rfl, rfl⟩)
  go_loopw [5, 6] (fun st i wr => ∃ k : Nat, k ≤ s.size ∧ i = .int .i64 (k : Int) ∧ st = .int .i64 ((Ru.mk kind letter thn many).to s k) ∧ 0 ≤ (Ru.mk kind letter thn many).to s k ∧ Below (w.heap.size + 1) (w.alloc (.cells #[.int .i64 kind, .string letter, .string thn, .int .i64 many] 45)) wr) (fun _ i _ => s.size - (intOf i).toNat)
  case atStart => exact ⟨0, Nat.zero_le _, rfl, rfl, Int.le_refl _, B1.out⟩
  case round =>
    obtain ⟨k, hk, rfl, rfl, hst, hb⟩ := hrel
    have HBB := Lib.hid hb
    obtain ⟨y0, y1, y2, y3, q1, s1⟩ := ru_cells kind letter thn many hb
    have Q1 := Lib.hid q1
    have S1 := Lib.hid s1
    clear hb q1 s1
    by_cases hlt : k < s.size
    · have hin : (Ru.mk kind letter thn many).inP ((Ru.mk kind letter thn many).to s k) := (HTO.out k).resolve_left (by omega)
      have HS : Hid ((Ru.mk kind letter thn many).to s (k + 1) = (Ru.mk kind letter thn many).nx ((Ru.mk kind letter thn many).to s k) (lix s k)) := by
        have : (Ru.mk kind letter thn many).to s (k + 1) = (Ru.mk kind letter thn many).nx ((Ru.mk kind letter thn many).to s k) (lix s k) := by rw [Ru.to, if_neg (by omega)]
        exact Lib.hid this
      have HN := HTO.out (k + 1)
      rw [HS.out] at HN
      have HLET := Lib.hid (Ru.lets_of s k hst)
      have HNN := Lib.hid HN
      have HIN := Lib.hid hin
      have hl3 := (HLX.out k hlt).1
      have hsl := fun w => slice_one s k hlt w
      have hex : s.extract k (k + 1) = strOf (lix s k) := HEX.out k hlt
      rw [hex] at hsl
      have HLS : Hid ((Ru.mk kind letter thn many).lets s (k + 1) = (k : Int) + 1) := by
        have : (Ru.mk kind letter thn many).lets s (k + 1) = (k : Int) + 1 := by rw [Ru.lets, if_neg (by omega), HLET.out]
        exact Lib.hid this
      clear HN hin hex
      generalize hx0 : (Ru.mk kind letter thn many).to s k = x0 at *
      have HX0 := Lib.hid hx0
      clear hx0
      generalize hll : lix s k = ll at *
      have HLL := Lib.hid hll
      clear hll
      have hq1 : IntKind.i64.wrap ((k : Int) + 1) = (k : Int) + 1 := IntWalk.i64_in _ (by omega)
      go_wp2_with fail
      go_region_with (go_at_call 91; refine (l3Next_at kind letter thn many HOK.out x0 _ HIN.out.1 HIN.out.2 ll hl3).mono ?_; rintro e w2 ⟨rfl, hb2⟩)
      all_goals
        have HB2 := Lib.hid (HBB.out.drew.trans (hb2.mono S1.out))
        clear hb2 hq1 hsl y0 y1 y2 y3
        generalize hx1 : (Ru.mk kind letter thn many).nx x0 ll = x1 at *
        rcases HNN.out with h1 | h1
        · have HRES : Hid ((Ru.mk kind letter thn many).broken s = (k : Int) + 1) := by
            have hneg : (Ru.mk kind letter thn many).to s (k + 1) < 0 := by rw [HS.out, h1]; decide
            have hst := Ru.stuck s (k + 1) (s.size - (k + 1)) hneg
            rw [show k + 1 + (s.size - (k + 1)) = s.size from by omega] at hst
            have : (Ru.mk kind letter thn many).broken s = (k : Int) + 1 := by rw [HB.out, if_pos hst.1, hst.2, HLS.out]
            exact Lib.hid this
          clear hx1 HS HNN
          subst h1
          go_wp2
          go_ret
          exact ⟨ret_int HRES.out.symm, (ru_cells kind letter thn many HB2.out).2.2.2.2.1⟩
        · have h1a := h1.1
          clear hx1
          go_wp2
          go_roundw
          case rel => exact ⟨k + 1, hlt, by go_num, by rw [HS.out], by rw [HS.out]; exact h1a, HB2.out⟩
          case measure => simp [intOf]; omega
    · obtain rfl : k = s.size := by omega
      have HRES : Hid ((Ru.mk kind letter thn many).broken s = -1) := by
        have : (Ru.mk kind letter thn many).broken s = -1 := by rw [HB.out, if_neg (by omega)]
        exact Lib.hid this
      go_wp2
      go_ret
      exact ⟨ret_int HRES.out.symm, Q1.out⟩

theorem specBroken_any (kind : Int) (letter thn : ByteArray) (many : Int) (s : ByteArray) (w : World) (hs : s.size ≤ maxLen) :
    Calls Try.prog 44 #[.agg #[.int .i64 kind, .string letter, .string thn, .int .i64 many], .string s] w
      fun e w' => e = .returned (.int .i64 ((Ru.mk kind letter thn many).broken s)) ∧ Below w.heap.size w w' := by
  by_cases hok : (Ru.mk kind letter thn many).ok = true
  · by_cases hw : wordOk s = true
    · exact specBroken_yes kind letter thn many s w hok hw
    · have hw' : wordOk s = false := by simpa using hw
      have HF := Lib.hid (broken_no (r := (Ru.mk kind letter thn many)) (s := s) (by simp [hw']))
      clear hw
      go_enter Try.func44, Try.ntmps44
      go_wp2_with fail
      refine (specRuleOk_any kind letter thn many _).mono ?_
      rintro e w1 ⟨rfl, hb1⟩
      rw [hok]
      simp only [World.size_alloc] at hb1
      have q1 := (ru_cells kind letter thn many hb1).2.2.2.2.1
      go_wp2_with (go_at_call 82; refine (specWordOk_any _ _ hs).mono ?_; rintro e w' ⟨rfl, rfl⟩)
      go_ret
      exact ⟨ret_int HF.out.symm, q1⟩
  · have hok' : (Ru.mk kind letter thn many).ok = false := by simpa using hok
    have HF := Lib.hid (broken_no (r := (Ru.mk kind letter thn many)) (s := s) (by simp [hok']))
    clear hok
    go_enter Try.func44, Try.ntmps44
    go_wp2_with fail
    refine (specRuleOk_any kind letter thn many _).mono ?_
    rintro e w1 ⟨rfl, hb1⟩
    rw [hok']
    simp only [World.size_alloc] at hb1
    have q1 := (ru_cells kind letter thn many hb1).2.2.2.2.1
    go_wp2_with fail
    go_ret
    exact ⟨ret_int HF.out.symm, q1⟩
end Go.Proofs.Ytgpjckmmleagbaa

namespace Go.Proofs.Ytgpjckmmleagbaa
open Go.RowKit

/-- the first letters of a row of the table -/
def part (f : Int → Nat → Int) (j l : Nat) : List Int := (List.range l).map (f (j : Int))
theorem part_succ (f : Int → Nat → Int) (j l : Nat) : part f j (l + 1) = part f j l ++ [f (j : Int) l] := by simp [part, List.range_succ]
theorem tabTo_part (f : Int → Nat → Int) (j : Nat) : tabTo f (j + 1) = tabTo f j ++ part f j 3 := rfl
theorem part_length (f : Int → Nat → Int) (j l : Nat) : (part f j l).length = l := by simp [part]
theorem rdn_cut : ∀ l, l < 3 → ((⟨#[114, 100, 110]⟩ : ByteArray).extract l (l + 1)).data.toList = [byteOf l]
  | 0, _ => by kernel_rfl
  | 1, _ => by kernel_rfl
  | 2, _ => by kernel_rfl
theorem rdn_at (l : Nat) (hl : l < 3) (w : World) : (Instr.slice 9 (.string ⟨#[114, 100, 110]⟩) (some (.int .i64 (l : Int))) (some (.int .i64 ((l : Int) + 1))) none).run Try.prog w = .ok (.string (strOf l)) w := by
  have hs : (⟨#[114, 100, 110]⟩ : ByteArray).size = 3 := by kernel_rfl
  have h := slice_one ⟨#[114, 100, 110]⟩ l (by omega) w
  have e : (⟨#[114, 100, 110]⟩ : ByteArray).extract l (l + 1) = strOf l := bytes_ext (rdn_cut l hl)
  rw [e] at h; exact h
end Go.Proofs.Ytgpjckmmleagbaa

namespace Go.Proofs.Ytgpjckmmleagbaa
open Go.RowKit

set_option maxHeartbeats 4000000 in
set_option maxRecDepth 100000 in
theorem specMachineFor_0 (letter : ByteArray) (many : Int) (w : World) (hl : letterOk letter = true) (hk0 : 0 ≤ many) (hk4 : many ≤ 4) :
    Calls Try.prog 42 #[.agg #[.int .i64 0, .string letter, .string ⟨#[]⟩, .int .i64 many]] w (MachNewB (mfT (Ru.mk 0 letter ⟨#[]⟩ many)) true w) := by
  have hok : (Ru.mk 0 letter ⟨#[]⟩ many).ok = true := Ru.ok_iff.2 ⟨hl, .inl ⟨rfl, rfl, hk0, hk4⟩⟩
  obtain ⟨i0, hi, hz0, hz1, hz2⟩ := info_parts infoIntF
  obtain ⟨j0, hj, hj0, hj1, hj2⟩ := info_parts infoBoolF
  have HI := Lib.hid (And.intro hi (And.intro hz0 (And.intro hz1 hz2)))
  have HJ := Lib.hid (And.intro hj (And.intro hj0 (And.intro hj1 hj2)))
  clear hi hz0 hz1 hz2 hj hj0 hj1 hj2
  have HST : Hid (((Ru.mk 0 letter ⟨#[]⟩ many).st : Int) = many + 1) := by
    have : ((Ru.mk 0 letter ⟨#[]⟩ many).st : Int) = many + 1 := by simp [Ru.st]; omega
    exact Lib.hid this
  have HSB := Lib.hid (Ru.st_bd hok)
  have HEND : Hid (∀ x : Int, (Ru.mk 0 letter ⟨#[]⟩ many).endAt x = true) := Lib.hid (fun x => rfl)
  have hs0 : ((w.alloc (.cells #[.int .i64 0, .string letter, .string ⟨#[]⟩, .int .i64 many] 45)).alloc (.cells #[.int .i64 0, .slice none 0 0, .slice none 0 0] 28)).heap.size = w.heap.size + 1 + 1 := by simp
  have B1 := Lib.hid ((RuBox.new (w := w) 0 letter ⟨#[]⟩ many 45).below ((Below.refl _ _).alloc (Nat.le_refl _) (.cells #[.int .i64 0, .slice none 0 0, .slice none 0 0] 28)))
  have c0 := fun i => World.cell?_alloc_new (w.alloc (.cells #[.int .i64 0, .string letter, .string ⟨#[]⟩, .int .i64 many] 45)) #[.int .i64 0, .slice none 0 0, .slice none 0 0] 28 i
  have f0 := fun i => World.frozen?_alloc_new (w.alloc (.cells #[.int .i64 0, .string letter, .string ⟨#[]⟩, .int .i64 many] 45)) #[.int .i64 0, .slice none 0 0, .slice none 0 0] 28 i
  simp only [World.size_alloc] at c0 f0
  have q0 : Below w.heap.size w ((w.alloc (.cells #[.int .i64 0, .string letter, .string ⟨#[]⟩, .int .i64 many] 45)).alloc (.cells #[.int .i64 0, .slice none 0 0, .slice none 0 0] 28)) := ((Below.refl w.heap.size w).alloc (Nat.le_refl _) _).alloc (by simp) _
  have C0 := Lib.hid c0
  have F0 := Lib.hid f0
  have Q0 := Lib.hid q0
  have HS0 := Lib.hid hs0
  clear c0 f0 q0
  go_enter Try.func42, Try.ntmps42
  go_wp2_with fail
  refine (specRuleOk_any 0 letter ⟨#[]⟩ many _).mono ?_
  rintro e w1 ⟨rfl, hb1⟩
  rw [hok]
  rw [hs0] at hb1
  have hB1 := Lib.hid hb1
  have BX := Lib.hid (B1.out.below (by rw [hs0]; exact hb1))
  have y0 := BX.out.c0
  have y1 := BX.out.c1
  have y2 := BX.out.c2
  have y3 := BX.out.c3
  have HOK := Lib.hid hok
  clear hs0 hb1 hok
  have M0 := Lib.hid (mk_start w1 (many + 1))
  go_wp2_with fail
  clear y0 y1 y2 y3
  go_loopw [6] (fun i wr => ∃ (j : Nat) (nv ev : Value), j ≤ (Ru.mk 0 letter ⟨#[]⟩ many).st ∧ i = .int .i64 (j : Int) ∧ Mk w1 w1.heap.size (many + 1) (tabTo (Ru.mk 0 letter ⟨#[]⟩ many).nx j) nv (endsTo (Ru.mk 0 letter ⟨#[]⟩ many).endAt j) ev wr) (fun i _ => (Ru.mk 0 letter ⟨#[]⟩ many).st - (intOf i).toNat)
  case atStart => exact ⟨0, _, _, Nat.zero_le _, rfl, M0.out⟩
  case round =>
    obtain ⟨j, nv, ev, hj, rfl, hM⟩ := hrel
    have M1 := Lib.hid hM
    clear hM
    have hj6 : j ≤ 6 := Nat.le_trans hj HSB.out.2
    by_cases hlt : j < (Ru.mk 0 letter ⟨#[]⟩ many).st
    · have hlt' : (j : Int) < many + 1 := by have := HST.out; omega
      go_wp2_with fail
      go_loopw [7] (fun i wr => ∃ (l : Nat) (nv : Value), l ≤ 3 ∧ i = .int .i64 (l : Int) ∧ Mk w1 w1.heap.size (many + 1) (tabTo (Ru.mk 0 letter ⟨#[]⟩ many).nx j ++ part (Ru.mk 0 letter ⟨#[]⟩ many).nx j l) nv (endsTo (Ru.mk 0 letter ⟨#[]⟩ many).endAt j) ev wr) (fun i _ => 3 - (intOf i).toNat)
      case atStart => exact ⟨0, nv, Nat.zero_le _, rfl, by rw [show part (Ru.mk 0 letter ⟨#[]⟩ many).nx j 0 = [] from rfl, List.append_nil]; exact M1.out⟩
      case round =>
        obtain ⟨l, nv', hl3, rfl, hM⟩ := hrel
        have M2 := Lib.hid hM
        clear hM
        by_cases hl : l < 3
        · have hlen : (tabTo (Ru.mk 0 letter ⟨#[]⟩ many).nx j ++ part (Ru.mk 0 letter ⟨#[]⟩ many).nx j l).length ≤ 100 := by rw [List.length_append, tabTo_length, part_length]; omega
          have HPS : Hid (tabTo (Ru.mk 0 letter ⟨#[]⟩ many).nx j ++ part (Ru.mk 0 letter ⟨#[]⟩ many).nx j (l + 1) = (tabTo (Ru.mk 0 letter ⟨#[]⟩ many).nx j ++ part (Ru.mk 0 letter ⟨#[]⟩ many).nx j l) ++ [(Ru.mk 0 letter ⟨#[]⟩ many).nx (j : Int) l]) := by
            have : tabTo (Ru.mk 0 letter ⟨#[]⟩ many).nx j ++ part (Ru.mk 0 letter ⟨#[]⟩ many).nx j (l + 1) = (tabTo (Ru.mk 0 letter ⟨#[]⟩ many).nx j ++ part (Ru.mk 0 letter ⟨#[]⟩ many).nx j l) ++ [(Ru.mk 0 letter ⟨#[]⟩ many).nx (j : Int) l] := by rw [part_succ, List.append_assoc]
            exact Lib.hid this
          have hjst : (j : Int) < ((Ru.mk 0 letter ⟨#[]⟩ many).st : Int) := by omega
          have HCALL := Lib.hid (fun W => l3Next_at 0 letter ⟨#[]⟩ many HOK.out (j : Int) W (by omega) hjst l hl)
          have hsl := fun W => rdn_at l hl W
          have hq1 : IntKind.i64.wrap ((l : Int) + 1) = (l : Int) + 1 := IntWalk.i64_in _ (by omega)
          clear hjst
          generalize tabTo (Ru.mk 0 letter ⟨#[]⟩ many).nx j ++ part (Ru.mk 0 letter ⟨#[]⟩ many).nx j l = nx at *
          generalize (Ru.mk 0 letter ⟨#[]⟩ many).nx (j : Int) l = x at *
          have Md := Lib.hid (M2.out.same (grown_drew _ none))
          have BXd := Lib.hid (BX.out.below (by have := Md.out.keep; exact this))
          have z0 := Md.out.cell.1
          have z1 := Md.out.cell.2.1
          have y0 := BXd.out.c0
          have y1 := BXd.out.c1
          have y2 := BXd.out.c2
          have y3 := BXd.out.c3
          go_wp2_with fail
          go_region_law (first | (go_simp; go_at_call 91; (try rw [hq1]); refine (HCALL.out _).mono ?_; rintro e w2 ⟨rfl, hb⟩; have M3 := Lib.hid (Md.out.below hb); have x11 := M3.out.cell.2.1; have x13 := fun x => (M3.out.same (World.grownBy_alloc w2 (.cells #[.int .i64 x] 3) none)).cell.2.1) | (refine step_append_lies _ rfl _ _ 22 rfl 0 3 i0 (.int .i64 0) 1 8 Try.underlying22 HI.out.1 HI.out.2.1 HI.out.2.2.1 HI.out.2.2.2 rfl (by decide) nv' nx.length (nx.map (Value.int .i64)) rfl (M3.out.rowN.alloc _) ⟨w2.heap.size, 0, none⟩ 1 1 [.int .i64 x] rfl rfl (cell_one_new _ _ _) (by simp [Value.oneCell']) (by omega) (by unfold maxLen; omega) (by omega) (Nat.zero_le _) _ rfl ?_; intro g cp w4 hown hgrow hat hlt3; obtain ⟨M4, x31, f31⟩ := M3.out.nextN hgrow hown hat))
          all_goals
            clear z0 z1 y0 y1 y2 y3 x11 x13 hb hsl hq1
            go_wp2
            go_roundw
            case rel => exact ⟨l + 1, _, by omega, by go_num, by rw [HPS.out]; exact M4⟩
            case measure => simp [intOf]; omega
        · obtain rfl : l = 3 := by omega
          have hT : tabTo (Ru.mk 0 letter ⟨#[]⟩ many).nx j ++ part (Ru.mk 0 letter ⟨#[]⟩ many).nx j 3 = tabTo (Ru.mk 0 letter ⟨#[]⟩ many).nx (j + 1) := rfl
          rw [hT] at M2
          have hEJ : (Ru.mk 0 letter ⟨#[]⟩ many).endAt (j : Int) = true := HEND.out _
          have hEE : Hid (endsTo (Ru.mk 0 letter ⟨#[]⟩ many).endAt (j + 1) = endsTo (Ru.mk 0 letter ⟨#[]⟩ many).endAt j ++ [true]) := by
            have : endsTo (Ru.mk 0 letter ⟨#[]⟩ many).endAt (j + 1) = endsTo (Ru.mk 0 letter ⟨#[]⟩ many).endAt j ++ [true] := by rw [endsTo_succ, hEJ]
            exact Lib.hid this
          have hes : (endsTo (Ru.mk 0 letter ⟨#[]⟩ many).endAt j).length ≤ 100 := by rw [endsTo_length]; omega
          clear hT hEJ
          generalize hnx : tabTo (Ru.mk 0 letter ⟨#[]⟩ many).nx (j + 1) = nx at *
          have HNX := Lib.hid hnx
          clear hnx
          generalize endsTo (Ru.mk 0 letter ⟨#[]⟩ many).endAt j = es at *
          have BXd := Lib.hid (BX.out.below M2.out.keep)
          have z0 := M2.out.cell.1
          have z2 := M2.out.cell.2.2
          have y0 := BXd.out.c0
          have y3 := BXd.out.c3
          go_wp2_with (at_builtin; refine wpList_append_lies _ rfl _ _ 23 rfl 0 4 j0 (.bool false) 1 1 Try.underlying23 HJ.out.1 HJ.out.2.1 HJ.out.2.2.1 HJ.out.2.2.2 rfl (by decide) ev es.length (es.map Value.bool) rfl (M2.out.rowE.alloc _) ⟨wr.heap.size, 0, none⟩ 1 1 [.bool true] rfl rfl (cell_one_new _ _ _) (by simp [Value.oneCell']) (by omega) (by unfold maxLen; omega) (by omega) (Nat.zero_le _) _ rfl ?_; intro g cp w4 hown hgrow hat hlt3; obtain ⟨M4, x31, f31⟩ := M2.out.nextE hgrow hown hat)
          go_roundw
          case rel => exact ⟨j + 1, _, _, hlt, by go_num, by rw [hEE.out, HNX.out]; exact M4⟩
          case measure => simp [intOf]; omega
    · obtain rfl : j = (Ru.mk 0 letter ⟨#[]⟩ many).st := by omega
      have hlt' : ¬ ((((Ru.mk 0 letter ⟨#[]⟩ many).st : Nat) : Int) < many + 1) := by have := HST.out; omega
      obtain ⟨a1, c1, rfl⟩ := ownsRow_slice M1.out.rowN
      obtain ⟨a2, c2, rfl⟩ := ownsRow_slice M1.out.rowE
      have hT : Hid (mfT (Ru.mk 0 letter ⟨#[]⟩ many) = ⟨many + 1, tabTo (Ru.mk 0 letter ⟨#[]⟩ many).nx (Ru.mk 0 letter ⟨#[]⟩ many).st, endsTo (Ru.mk 0 letter ⟨#[]⟩ many).endAt (Ru.mk 0 letter ⟨#[]⟩ many).st⟩) := by
        have : mfT (Ru.mk 0 letter ⟨#[]⟩ many) = ⟨many + 1, tabTo (Ru.mk 0 letter ⟨#[]⟩ many).nx (Ru.mk 0 letter ⟨#[]⟩ many).st, endsTo (Ru.mk 0 letter ⟨#[]⟩ many).endAt (Ru.mk 0 letter ⟨#[]⟩ many).st⟩ := by rw [mfT, HST.out]
        exact Lib.hid this
      generalize hnx : tabTo (Ru.mk 0 letter ⟨#[]⟩ many).nx (Ru.mk 0 letter ⟨#[]⟩ many).st = nx at *
      generalize hes : endsTo (Ru.mk 0 letter ⟨#[]⟩ many).endAt (Ru.mk 0 letter ⟨#[]⟩ many).st = es at *
      clear hnx hes
      have hn2 : w.heap.size + 1 + 1 ≤ w1.heap.size := by have := hB1.out.size; rw [HS0.out] at this; exact this
      obtain ⟨⟨h0, h1, h2⟩, k0, k1, k2⟩ := zeros_kept C0.out F0.out hB1.out (Nat.lt_succ_self _) M1.out.keep hn2
      have z0 := M1.out.cell.1
      have z1 := M1.out.cell.2.1
      have z2 := M1.out.cell.2.2
      have hA := M1.out.ap.tail
      have q3 : Below w.heap.size w wr := (Q0.out.trans (hB1.out.mono (by omega))).trans (M1.out.keep.mono (by omega))
      have FI := Lib.hid (fin_cells (x := .int .i64 (many + 1)) (y := .slice a1 nx.length c1) (z := .slice a2 es.length c2) (B := w.heap.size) (b := w.heap.size + 1) hA q3 (Nat.le_succ _) (by omega) (some3 h0 h1 h2) (by omega))
      clear q3 hA
      go_wp2
      obtain ⟨r1, r2, r3, r4, r5⟩ := FI.out _ rfl
      refine bodyPost_ret (v := .tuple #[.agg #[.int .i64 (many + 1), .slice a1 nx.length c1, .slice a2 es.length c2], .bool true]) ?_ rfl (by rw [hT.out]; exact ⟨a1, a2, c1, c2, rfl, r1, r2⟩)
      simp [results, Try.results42, go_sem, r3, r4, r5]
end Go.Proofs.Ytgpjckmmleagbaa

namespace Go.Proofs.Ytgpjckmmleagbaa
open Go.RowKit

set_option maxHeartbeats 4000000 in
set_option maxRecDepth 100000 in
theorem specMachineFor_1 (letter : ByteArray) (many : Int) (w : World) (hl : letterOk letter = true) (hk0 : 2 ≤ many) (hk4 : many ≤ 4) :
    Calls Try.prog 42 #[.agg #[.int .i64 1, .string letter, .string ⟨#[]⟩, .int .i64 many]] w (MachNewB (mfT (Ru.mk 1 letter ⟨#[]⟩ many)) true w) := by
  have hok : (Ru.mk 1 letter ⟨#[]⟩ many).ok = true := Ru.ok_iff.2 ⟨hl, .inr (.inl ⟨rfl, rfl, hk0, hk4⟩)⟩
  obtain ⟨i0, hi, hz0, hz1, hz2⟩ := info_parts infoIntF
  obtain ⟨j0, hj, hj0, hj1, hj2⟩ := info_parts infoBoolF
  have HI := Lib.hid (And.intro hi (And.intro hz0 (And.intro hz1 hz2)))
  have HJ := Lib.hid (And.intro hj (And.intro hj0 (And.intro hj1 hj2)))
  clear hi hz0 hz1 hz2 hj hj0 hj1 hj2
  have HST : Hid (((Ru.mk 1 letter ⟨#[]⟩ many).st : Int) = many + 1) := by
    have : ((Ru.mk 1 letter ⟨#[]⟩ many).st : Int) = many + 1 := by simp [Ru.st]; omega
    exact Lib.hid this
  have HSB := Lib.hid (Ru.st_bd hok)
  have HEND : Hid (∀ x : Int, (Ru.mk 1 letter ⟨#[]⟩ many).endAt x = (x == 0 || x == many)) := Lib.hid (fun x => rfl)
  have hs0 : ((w.alloc (.cells #[.int .i64 1, .string letter, .string ⟨#[]⟩, .int .i64 many] 45)).alloc (.cells #[.int .i64 0, .slice none 0 0, .slice none 0 0] 28)).heap.size = w.heap.size + 1 + 1 := by simp
  have B1 := Lib.hid ((RuBox.new (w := w) 1 letter ⟨#[]⟩ many 45).below ((Below.refl _ _).alloc (Nat.le_refl _) (.cells #[.int .i64 0, .slice none 0 0, .slice none 0 0] 28)))
  have c0 := fun i => World.cell?_alloc_new (w.alloc (.cells #[.int .i64 1, .string letter, .string ⟨#[]⟩, .int .i64 many] 45)) #[.int .i64 0, .slice none 0 0, .slice none 0 0] 28 i
  have f0 := fun i => World.frozen?_alloc_new (w.alloc (.cells #[.int .i64 1, .string letter, .string ⟨#[]⟩, .int .i64 many] 45)) #[.int .i64 0, .slice none 0 0, .slice none 0 0] 28 i
  simp only [World.size_alloc] at c0 f0
  have q0 : Below w.heap.size w ((w.alloc (.cells #[.int .i64 1, .string letter, .string ⟨#[]⟩, .int .i64 many] 45)).alloc (.cells #[.int .i64 0, .slice none 0 0, .slice none 0 0] 28)) := ((Below.refl w.heap.size w).alloc (Nat.le_refl _) _).alloc (by simp) _
  have C0 := Lib.hid c0
  have F0 := Lib.hid f0
  have Q0 := Lib.hid q0
  have HS0 := Lib.hid hs0
  clear c0 f0 q0
  go_enter Try.func42, Try.ntmps42
  go_wp2_with fail
  refine (specRuleOk_any 1 letter ⟨#[]⟩ many _).mono ?_
  rintro e w1 ⟨rfl, hb1⟩
  rw [hok]
  rw [hs0] at hb1
  have hB1 := Lib.hid hb1
  have BX := Lib.hid (B1.out.below (by rw [hs0]; exact hb1))
  have y0 := BX.out.c0
  have y1 := BX.out.c1
  have y2 := BX.out.c2
  have y3 := BX.out.c3
  have HOK := Lib.hid hok
  clear hs0 hb1 hok
  have M0 := Lib.hid (mk_start w1 (many + 1))
  go_wp2_with fail
  clear y0 y1 y2 y3
  go_loopw [6] (fun i wr => ∃ (j : Nat) (nv ev : Value), j ≤ (Ru.mk 1 letter ⟨#[]⟩ many).st ∧ i = .int .i64 (j : Int) ∧ Mk w1 w1.heap.size (many + 1) (tabTo (Ru.mk 1 letter ⟨#[]⟩ many).nx j) nv (endsTo (Ru.mk 1 letter ⟨#[]⟩ many).endAt j) ev wr) (fun i _ => (Ru.mk 1 letter ⟨#[]⟩ many).st - (intOf i).toNat)
  case atStart => exact ⟨0, _, _, Nat.zero_le _, rfl, M0.out⟩
  case round =>
    obtain ⟨j, nv, ev, hj, rfl, hM⟩ := hrel
    have M1 := Lib.hid hM
    clear hM
    have hj6 : j ≤ 6 := Nat.le_trans hj HSB.out.2
    by_cases hlt : j < (Ru.mk 1 letter ⟨#[]⟩ many).st
    · have hlt' : (j : Int) < many + 1 := by have := HST.out; omega
      go_wp2_with fail
      go_loopw [7] (fun i wr => ∃ (l : Nat) (nv : Value), l ≤ 3 ∧ i = .int .i64 (l : Int) ∧ Mk w1 w1.heap.size (many + 1) (tabTo (Ru.mk 1 letter ⟨#[]⟩ many).nx j ++ part (Ru.mk 1 letter ⟨#[]⟩ many).nx j l) nv (endsTo (Ru.mk 1 letter ⟨#[]⟩ many).endAt j) ev wr) (fun i _ => 3 - (intOf i).toNat)
      case atStart => exact ⟨0, nv, Nat.zero_le _, rfl, by rw [show part (Ru.mk 1 letter ⟨#[]⟩ many).nx j 0 = [] from rfl, List.append_nil]; exact M1.out⟩
      case round =>
        obtain ⟨l, nv', hl3, rfl, hM⟩ := hrel
        have M2 := Lib.hid hM
        clear hM
        by_cases hl : l < 3
        · have hlen : (tabTo (Ru.mk 1 letter ⟨#[]⟩ many).nx j ++ part (Ru.mk 1 letter ⟨#[]⟩ many).nx j l).length ≤ 100 := by rw [List.length_append, tabTo_length, part_length]; omega
          have HPS : Hid (tabTo (Ru.mk 1 letter ⟨#[]⟩ many).nx j ++ part (Ru.mk 1 letter ⟨#[]⟩ many).nx j (l + 1) = (tabTo (Ru.mk 1 letter ⟨#[]⟩ many).nx j ++ part (Ru.mk 1 letter ⟨#[]⟩ many).nx j l) ++ [(Ru.mk 1 letter ⟨#[]⟩ many).nx (j : Int) l]) := by
            have : tabTo (Ru.mk 1 letter ⟨#[]⟩ many).nx j ++ part (Ru.mk 1 letter ⟨#[]⟩ many).nx j (l + 1) = (tabTo (Ru.mk 1 letter ⟨#[]⟩ many).nx j ++ part (Ru.mk 1 letter ⟨#[]⟩ many).nx j l) ++ [(Ru.mk 1 letter ⟨#[]⟩ many).nx (j : Int) l] := by rw [part_succ, List.append_assoc]
            exact Lib.hid this
          have hjst : (j : Int) < ((Ru.mk 1 letter ⟨#[]⟩ many).st : Int) := by omega
          have HCALL := Lib.hid (fun W => l3Next_at 1 letter ⟨#[]⟩ many HOK.out (j : Int) W (by omega) hjst l hl)
          have hsl := fun W => rdn_at l hl W
          have hq1 : IntKind.i64.wrap ((l : Int) + 1) = (l : Int) + 1 := IntWalk.i64_in _ (by omega)
          clear hjst
          generalize tabTo (Ru.mk 1 letter ⟨#[]⟩ many).nx j ++ part (Ru.mk 1 letter ⟨#[]⟩ many).nx j l = nx at *
          generalize (Ru.mk 1 letter ⟨#[]⟩ many).nx (j : Int) l = x at *
          have Md := Lib.hid (M2.out.same (grown_drew _ none))
          have BXd := Lib.hid (BX.out.below (by have := Md.out.keep; exact this))
          have z0 := Md.out.cell.1
          have z1 := Md.out.cell.2.1
          have y0 := BXd.out.c0
          have y1 := BXd.out.c1
          have y2 := BXd.out.c2
          have y3 := BXd.out.c3
          go_wp2_with fail
          go_region_law (first | (go_simp; go_at_call 91; (try rw [hq1]); refine (HCALL.out _).mono ?_; rintro e w2 ⟨rfl, hb⟩; have M3 := Lib.hid (Md.out.below hb); have x11 := M3.out.cell.2.1; have x13 := fun x => (M3.out.same (World.grownBy_alloc w2 (.cells #[.int .i64 x] 3) none)).cell.2.1) | (refine step_append_lies _ rfl _ _ 22 rfl 0 3 i0 (.int .i64 0) 1 8 Try.underlying22 HI.out.1 HI.out.2.1 HI.out.2.2.1 HI.out.2.2.2 rfl (by decide) nv' nx.length (nx.map (Value.int .i64)) rfl (M3.out.rowN.alloc _) ⟨w2.heap.size, 0, none⟩ 1 1 [.int .i64 x] rfl rfl (cell_one_new _ _ _) (by simp [Value.oneCell']) (by omega) (by unfold maxLen; omega) (by omega) (Nat.zero_le _) _ rfl ?_; intro g cp w4 hown hgrow hat hlt3; obtain ⟨M4, x31, f31⟩ := M3.out.nextN hgrow hown hat))
          all_goals
            clear z0 z1 y0 y1 y2 y3 x11 x13 hb hsl hq1
            go_wp2
            go_roundw
            case rel => exact ⟨l + 1, _, by omega, by go_num, by rw [HPS.out]; exact M4⟩
            case measure => simp [intOf]; omega
        · obtain rfl : l = 3 := by omega
          have hT : tabTo (Ru.mk 1 letter ⟨#[]⟩ many).nx j ++ part (Ru.mk 1 letter ⟨#[]⟩ many).nx j 3 = tabTo (Ru.mk 1 letter ⟨#[]⟩ many).nx (j + 1) := rfl
          rw [hT] at M2
          obtain ⟨b0, hj0⟩ : ∃ b, ((j : Int) == 0) = b := ⟨_, rfl⟩
          obtain ⟨bm, hjm⟩ : ∃ b, ((j : Int) == many) = b := ⟨_, rfl⟩
          have hEJ : (Ru.mk 1 letter ⟨#[]⟩ many).endAt (j : Int) = (b0 || bm) := by rw [HEND.out, hj0, hjm]
          have hEE : Hid (endsTo (Ru.mk 1 letter ⟨#[]⟩ many).endAt (j + 1) = endsTo (Ru.mk 1 letter ⟨#[]⟩ many).endAt j ++ [b0 || bm]) := by
            have : endsTo (Ru.mk 1 letter ⟨#[]⟩ many).endAt (j + 1) = endsTo (Ru.mk 1 letter ⟨#[]⟩ many).endAt j ++ [b0 || bm] := by rw [endsTo_succ, hEJ]
            exact Lib.hid this
          have hes : (endsTo (Ru.mk 1 letter ⟨#[]⟩ many).endAt j).length ≤ 100 := by rw [endsTo_length]; omega
          clear hT hEJ
          generalize hnx : tabTo (Ru.mk 1 letter ⟨#[]⟩ many).nx (j + 1) = nx at *
          have HNX := Lib.hid hnx
          clear hnx
          generalize endsTo (Ru.mk 1 letter ⟨#[]⟩ many).endAt j = es at *
          have BXd := Lib.hid (BX.out.below M2.out.keep)
          have z0 := M2.out.cell.1
          have z2 := M2.out.cell.2.2
          have y0 := BXd.out.c0
          have y3 := BXd.out.c3
          cases b0 <;> cases bm
          all_goals
            go_wp2_with (at_builtin; refine wpList_append_lies _ rfl _ _ 23 rfl 0 4 j0 (.bool false) 1 1 Try.underlying23 HJ.out.1 HJ.out.2.1 HJ.out.2.2.1 HJ.out.2.2.2 rfl (by decide) ev es.length (es.map Value.bool) rfl (M2.out.rowE.alloc _) ⟨wr.heap.size, 0, none⟩ 1 1 [.bool _] rfl rfl (cell_one_new _ _ _) (by simp [Value.oneCell']) (by omega) (by unfold maxLen; omega) (by omega) (Nat.zero_le _) _ rfl ?_; intro g cp w4 hown hgrow hat hlt3; obtain ⟨M4, x31, f31⟩ := M2.out.nextE hgrow hown hat)
            go_roundw
            case rel => exact ⟨j + 1, _, _, hlt, by go_num, by rw [hEE.out, HNX.out]; exact M4⟩
            case measure => simp [intOf]; omega
    · obtain rfl : j = (Ru.mk 1 letter ⟨#[]⟩ many).st := by omega
      have hlt' : ¬ ((((Ru.mk 1 letter ⟨#[]⟩ many).st : Nat) : Int) < many + 1) := by have := HST.out; omega
      obtain ⟨a1, c1, rfl⟩ := ownsRow_slice M1.out.rowN
      obtain ⟨a2, c2, rfl⟩ := ownsRow_slice M1.out.rowE
      have hT : Hid (mfT (Ru.mk 1 letter ⟨#[]⟩ many) = ⟨many + 1, tabTo (Ru.mk 1 letter ⟨#[]⟩ many).nx (Ru.mk 1 letter ⟨#[]⟩ many).st, endsTo (Ru.mk 1 letter ⟨#[]⟩ many).endAt (Ru.mk 1 letter ⟨#[]⟩ many).st⟩) := by
        have : mfT (Ru.mk 1 letter ⟨#[]⟩ many) = ⟨many + 1, tabTo (Ru.mk 1 letter ⟨#[]⟩ many).nx (Ru.mk 1 letter ⟨#[]⟩ many).st, endsTo (Ru.mk 1 letter ⟨#[]⟩ many).endAt (Ru.mk 1 letter ⟨#[]⟩ many).st⟩ := by rw [mfT, HST.out]
        exact Lib.hid this
      generalize hnx : tabTo (Ru.mk 1 letter ⟨#[]⟩ many).nx (Ru.mk 1 letter ⟨#[]⟩ many).st = nx at *
      generalize hes : endsTo (Ru.mk 1 letter ⟨#[]⟩ many).endAt (Ru.mk 1 letter ⟨#[]⟩ many).st = es at *
      clear hnx hes
      have hn2 : w.heap.size + 1 + 1 ≤ w1.heap.size := by have := hB1.out.size; rw [HS0.out] at this; exact this
      obtain ⟨⟨h0, h1, h2⟩, k0, k1, k2⟩ := zeros_kept C0.out F0.out hB1.out (Nat.lt_succ_self _) M1.out.keep hn2
      have z0 := M1.out.cell.1
      have z1 := M1.out.cell.2.1
      have z2 := M1.out.cell.2.2
      have hA := M1.out.ap.tail
      have q3 : Below w.heap.size w wr := (Q0.out.trans (hB1.out.mono (by omega))).trans (M1.out.keep.mono (by omega))
      have FI := Lib.hid (fin_cells (x := .int .i64 (many + 1)) (y := .slice a1 nx.length c1) (z := .slice a2 es.length c2) (B := w.heap.size) (b := w.heap.size + 1) hA q3 (Nat.le_succ _) (by omega) (some3 h0 h1 h2) (by omega))
      clear q3 hA
      go_wp2
      obtain ⟨r1, r2, r3, r4, r5⟩ := FI.out _ rfl
      refine bodyPost_ret (v := .tuple #[.agg #[.int .i64 (many + 1), .slice a1 nx.length c1, .slice a2 es.length c2], .bool true]) ?_ rfl (by rw [hT.out]; exact ⟨a1, a2, c1, c2, rfl, r1, r2⟩)
      simp [results, Try.results42, go_sem, r3, r4, r5]
end Go.Proofs.Ytgpjckmmleagbaa

namespace Go.Proofs.Ytgpjckmmleagbaa
open Go.RowKit

set_option maxHeartbeats 4000000 in
set_option maxRecDepth 100000 in
theorem specMachineFor_2 (letter thn : ByteArray) (w : World) (hl : letterOk letter = true) (ht : letterOk thn = true) :
    Calls Try.prog 42 #[.agg #[.int .i64 2, .string letter, .string thn, .int .i64 0]] w (MachNewB (mfT (Ru.mk 2 letter thn 0)) true w) := by
  have hok : (Ru.mk 2 letter thn 0).ok = true := Ru.ok_iff.2 ⟨hl, .inr (.inr (.inl ⟨rfl, ht, rfl⟩))⟩
  obtain ⟨i0, hi, hz0, hz1, hz2⟩ := info_parts infoIntF
  obtain ⟨j0, hj, hj0, hj1, hj2⟩ := info_parts infoBoolF
  have HI := Lib.hid (And.intro hi (And.intro hz0 (And.intro hz1 hz2)))
  have HJ := Lib.hid (And.intro hj (And.intro hj0 (And.intro hj1 hj2)))
  clear hi hz0 hz1 hz2 hj hj0 hj1 hj2
  have HST : Hid (((Ru.mk 2 letter thn 0).st : Int) = 2) := by
    have : ((Ru.mk 2 letter thn 0).st : Int) = 2 := by simp [Ru.st]
    exact Lib.hid this
  have HSB := Lib.hid (Ru.st_bd hok)
  have HEND : Hid (∀ x : Int, (Ru.mk 2 letter thn 0).endAt x = true) := Lib.hid (fun x => rfl)
  have hs0 : ((w.alloc (.cells #[.int .i64 2, .string letter, .string thn, .int .i64 0] 45)).alloc (.cells #[.int .i64 0, .slice none 0 0, .slice none 0 0] 28)).heap.size = w.heap.size + 1 + 1 := by simp
  have B1 := Lib.hid ((RuBox.new (w := w) 2 letter thn 0 45).below ((Below.refl _ _).alloc (Nat.le_refl _) (.cells #[.int .i64 0, .slice none 0 0, .slice none 0 0] 28)))
  have c0 := fun i => World.cell?_alloc_new (w.alloc (.cells #[.int .i64 2, .string letter, .string thn, .int .i64 0] 45)) #[.int .i64 0, .slice none 0 0, .slice none 0 0] 28 i
  have f0 := fun i => World.frozen?_alloc_new (w.alloc (.cells #[.int .i64 2, .string letter, .string thn, .int .i64 0] 45)) #[.int .i64 0, .slice none 0 0, .slice none 0 0] 28 i
  simp only [World.size_alloc] at c0 f0
  have q0 : Below w.heap.size w ((w.alloc (.cells #[.int .i64 2, .string letter, .string thn, .int .i64 0] 45)).alloc (.cells #[.int .i64 0, .slice none 0 0, .slice none 0 0] 28)) := ((Below.refl w.heap.size w).alloc (Nat.le_refl _) _).alloc (by simp) _
  have C0 := Lib.hid c0
  have F0 := Lib.hid f0
  have Q0 := Lib.hid q0
  have HS0 := Lib.hid hs0
  clear c0 f0 q0
  go_enter Try.func42, Try.ntmps42
  go_wp2_with fail
  refine (specRuleOk_any 2 letter thn 0 _).mono ?_
  rintro e w1 ⟨rfl, hb1⟩
  rw [hok]
  rw [hs0] at hb1
  have hB1 := Lib.hid hb1
  have BX := Lib.hid (B1.out.below (by rw [hs0]; exact hb1))
  have y0 := BX.out.c0
  have y1 := BX.out.c1
  have y2 := BX.out.c2
  have y3 := BX.out.c3
  have HOK := Lib.hid hok
  clear hs0 hb1 hok
  have M0 := Lib.hid (mk_start w1 (2))
  go_wp2_with fail
  clear y0 y1 y2 y3
  go_loopw [6] (fun i wr => ∃ (j : Nat) (nv ev : Value), j ≤ (Ru.mk 2 letter thn 0).st ∧ i = .int .i64 (j : Int) ∧ Mk w1 w1.heap.size (2) (tabTo (Ru.mk 2 letter thn 0).nx j) nv (endsTo (Ru.mk 2 letter thn 0).endAt j) ev wr) (fun i _ => (Ru.mk 2 letter thn 0).st - (intOf i).toNat)
  case atStart => exact ⟨0, _, _, Nat.zero_le _, rfl, M0.out⟩
  case round =>
    obtain ⟨j, nv, ev, hj, rfl, hM⟩ := hrel
    have M1 := Lib.hid hM
    clear hM
    have hj6 : j ≤ 6 := Nat.le_trans hj HSB.out.2
    by_cases hlt : j < (Ru.mk 2 letter thn 0).st
    · have hlt' : (j : Int) < 2 := by have := HST.out; omega
      go_wp2_with fail
      go_loopw [7] (fun i wr => ∃ (l : Nat) (nv : Value), l ≤ 3 ∧ i = .int .i64 (l : Int) ∧ Mk w1 w1.heap.size (2) (tabTo (Ru.mk 2 letter thn 0).nx j ++ part (Ru.mk 2 letter thn 0).nx j l) nv (endsTo (Ru.mk 2 letter thn 0).endAt j) ev wr) (fun i _ => 3 - (intOf i).toNat)
      case atStart => exact ⟨0, nv, Nat.zero_le _, rfl, by rw [show part (Ru.mk 2 letter thn 0).nx j 0 = [] from rfl, List.append_nil]; exact M1.out⟩
      case round =>
        obtain ⟨l, nv', hl3, rfl, hM⟩ := hrel
        have M2 := Lib.hid hM
        clear hM
        by_cases hl : l < 3
        · have hlen : (tabTo (Ru.mk 2 letter thn 0).nx j ++ part (Ru.mk 2 letter thn 0).nx j l).length ≤ 100 := by rw [List.length_append, tabTo_length, part_length]; omega
          have HPS : Hid (tabTo (Ru.mk 2 letter thn 0).nx j ++ part (Ru.mk 2 letter thn 0).nx j (l + 1) = (tabTo (Ru.mk 2 letter thn 0).nx j ++ part (Ru.mk 2 letter thn 0).nx j l) ++ [(Ru.mk 2 letter thn 0).nx (j : Int) l]) := by
            have : tabTo (Ru.mk 2 letter thn 0).nx j ++ part (Ru.mk 2 letter thn 0).nx j (l + 1) = (tabTo (Ru.mk 2 letter thn 0).nx j ++ part (Ru.mk 2 letter thn 0).nx j l) ++ [(Ru.mk 2 letter thn 0).nx (j : Int) l] := by rw [part_succ, List.append_assoc]
            exact Lib.hid this
          have hjst : (j : Int) < ((Ru.mk 2 letter thn 0).st : Int) := by omega
          have HCALL := Lib.hid (fun W => l3Next_at 2 letter thn 0 HOK.out (j : Int) W (by omega) hjst l hl)
          have hsl := fun W => rdn_at l hl W
          have hq1 : IntKind.i64.wrap ((l : Int) + 1) = (l : Int) + 1 := IntWalk.i64_in _ (by omega)
          clear hjst
          generalize tabTo (Ru.mk 2 letter thn 0).nx j ++ part (Ru.mk 2 letter thn 0).nx j l = nx at *
          generalize (Ru.mk 2 letter thn 0).nx (j : Int) l = x at *
          have Md := Lib.hid (M2.out.same (grown_drew _ none))
          have BXd := Lib.hid (BX.out.below (by have := Md.out.keep; exact this))
          have z0 := Md.out.cell.1
          have z1 := Md.out.cell.2.1
          have y0 := BXd.out.c0
          have y1 := BXd.out.c1
          have y2 := BXd.out.c2
          have y3 := BXd.out.c3
          go_wp2_with fail
          go_region_law (first | (go_simp; go_at_call 91; (try rw [hq1]); refine (HCALL.out _).mono ?_; rintro e w2 ⟨rfl, hb⟩; have M3 := Lib.hid (Md.out.below hb); have x11 := M3.out.cell.2.1; have x13 := fun x => (M3.out.same (World.grownBy_alloc w2 (.cells #[.int .i64 x] 3) none)).cell.2.1) | (refine step_append_lies _ rfl _ _ 22 rfl 0 3 i0 (.int .i64 0) 1 8 Try.underlying22 HI.out.1 HI.out.2.1 HI.out.2.2.1 HI.out.2.2.2 rfl (by decide) nv' nx.length (nx.map (Value.int .i64)) rfl (M3.out.rowN.alloc _) ⟨w2.heap.size, 0, none⟩ 1 1 [.int .i64 x] rfl rfl (cell_one_new _ _ _) (by simp [Value.oneCell']) (by omega) (by unfold maxLen; omega) (by omega) (Nat.zero_le _) _ rfl ?_; intro g cp w4 hown hgrow hat hlt3; obtain ⟨M4, x31, f31⟩ := M3.out.nextN hgrow hown hat))
          all_goals
            clear z0 z1 y0 y1 y2 y3 x11 x13 hb hsl hq1
            go_wp2
            go_roundw
            case rel => exact ⟨l + 1, _, by omega, by go_num, by rw [HPS.out]; exact M4⟩
            case measure => simp [intOf]; omega
        · obtain rfl : l = 3 := by omega
          have hT : tabTo (Ru.mk 2 letter thn 0).nx j ++ part (Ru.mk 2 letter thn 0).nx j 3 = tabTo (Ru.mk 2 letter thn 0).nx (j + 1) := rfl
          rw [hT] at M2
          have hEJ : (Ru.mk 2 letter thn 0).endAt (j : Int) = true := HEND.out _
          have hEE : Hid (endsTo (Ru.mk 2 letter thn 0).endAt (j + 1) = endsTo (Ru.mk 2 letter thn 0).endAt j ++ [true]) := by
            have : endsTo (Ru.mk 2 letter thn 0).endAt (j + 1) = endsTo (Ru.mk 2 letter thn 0).endAt j ++ [true] := by rw [endsTo_succ, hEJ]
            exact Lib.hid this
          have hes : (endsTo (Ru.mk 2 letter thn 0).endAt j).length ≤ 100 := by rw [endsTo_length]; omega
          clear hT hEJ
          generalize hnx : tabTo (Ru.mk 2 letter thn 0).nx (j + 1) = nx at *
          have HNX := Lib.hid hnx
          clear hnx
          generalize endsTo (Ru.mk 2 letter thn 0).endAt j = es at *
          have BXd := Lib.hid (BX.out.below M2.out.keep)
          have z0 := M2.out.cell.1
          have z2 := M2.out.cell.2.2
          have y0 := BXd.out.c0
          have y3 := BXd.out.c3
          go_wp2_with (at_builtin; refine wpList_append_lies _ rfl _ _ 23 rfl 0 4 j0 (.bool false) 1 1 Try.underlying23 HJ.out.1 HJ.out.2.1 HJ.out.2.2.1 HJ.out.2.2.2 rfl (by decide) ev es.length (es.map Value.bool) rfl (M2.out.rowE.alloc _) ⟨wr.heap.size, 0, none⟩ 1 1 [.bool true] rfl rfl (cell_one_new _ _ _) (by simp [Value.oneCell']) (by omega) (by unfold maxLen; omega) (by omega) (Nat.zero_le _) _ rfl ?_; intro g cp w4 hown hgrow hat hlt3; obtain ⟨M4, x31, f31⟩ := M2.out.nextE hgrow hown hat)
          go_roundw
          case rel => exact ⟨j + 1, _, _, hlt, by go_num, by rw [hEE.out, HNX.out]; exact M4⟩
          case measure => simp [intOf]; omega
    · obtain rfl : j = (Ru.mk 2 letter thn 0).st := by omega
      have hlt' : ¬ ((((Ru.mk 2 letter thn 0).st : Nat) : Int) < 2) := by have := HST.out; omega
      obtain ⟨a1, c1, rfl⟩ := ownsRow_slice M1.out.rowN
      obtain ⟨a2, c2, rfl⟩ := ownsRow_slice M1.out.rowE
      have hT : Hid (mfT (Ru.mk 2 letter thn 0) = ⟨2, tabTo (Ru.mk 2 letter thn 0).nx (Ru.mk 2 letter thn 0).st, endsTo (Ru.mk 2 letter thn 0).endAt (Ru.mk 2 letter thn 0).st⟩) := by
        have : mfT (Ru.mk 2 letter thn 0) = ⟨2, tabTo (Ru.mk 2 letter thn 0).nx (Ru.mk 2 letter thn 0).st, endsTo (Ru.mk 2 letter thn 0).endAt (Ru.mk 2 letter thn 0).st⟩ := by rw [mfT, HST.out]
        exact Lib.hid this
      generalize hnx : tabTo (Ru.mk 2 letter thn 0).nx (Ru.mk 2 letter thn 0).st = nx at *
      generalize hes : endsTo (Ru.mk 2 letter thn 0).endAt (Ru.mk 2 letter thn 0).st = es at *
      clear hnx hes
      have hn2 : w.heap.size + 1 + 1 ≤ w1.heap.size := by have := hB1.out.size; rw [HS0.out] at this; exact this
      obtain ⟨⟨h0, h1, h2⟩, k0, k1, k2⟩ := zeros_kept C0.out F0.out hB1.out (Nat.lt_succ_self _) M1.out.keep hn2
      have z0 := M1.out.cell.1
      have z1 := M1.out.cell.2.1
      have z2 := M1.out.cell.2.2
      have hA := M1.out.ap.tail
      have q3 : Below w.heap.size w wr := (Q0.out.trans (hB1.out.mono (by omega))).trans (M1.out.keep.mono (by omega))
      have FI := Lib.hid (fin_cells (x := .int .i64 (2)) (y := .slice a1 nx.length c1) (z := .slice a2 es.length c2) (B := w.heap.size) (b := w.heap.size + 1) hA q3 (Nat.le_succ _) (by omega) (some3 h0 h1 h2) (by omega))
      clear q3 hA
      go_wp2
      obtain ⟨r1, r2, r3, r4, r5⟩ := FI.out _ rfl
      refine bodyPost_ret (v := .tuple #[.agg #[.int .i64 (2), .slice a1 nx.length c1, .slice a2 es.length c2], .bool true]) ?_ rfl (by rw [hT.out]; exact ⟨a1, a2, c1, c2, rfl, r1, r2⟩)
      simp [results, Try.results42, go_sem, r3, r4, r5]
end Go.Proofs.Ytgpjckmmleagbaa

namespace Go.Proofs.Ytgpjckmmleagbaa
open Go.RowKit

set_option maxHeartbeats 4000000 in
set_option maxRecDepth 100000 in
theorem specMachineFor_3 (letter : ByteArray) (many : Int) (w : World) (hl : letterOk letter = true) (hk0 : 0 ≤ many) (hk4 : many ≤ 5) :
    Calls Try.prog 42 #[.agg #[.int .i64 3, .string letter, .string ⟨#[]⟩, .int .i64 many]] w (MachNewB (mfT (Ru.mk 3 letter ⟨#[]⟩ many)) true w) := by
  have hok : (Ru.mk 3 letter ⟨#[]⟩ many).ok = true := Ru.ok_iff.2 ⟨hl, .inr (.inr (.inr (.inl ⟨rfl, rfl, hk0, hk4⟩)))⟩
  obtain ⟨i0, hi, hz0, hz1, hz2⟩ := info_parts infoIntF
  obtain ⟨j0, hj, hj0, hj1, hj2⟩ := info_parts infoBoolF
  have HI := Lib.hid (And.intro hi (And.intro hz0 (And.intro hz1 hz2)))
  have HJ := Lib.hid (And.intro hj (And.intro hj0 (And.intro hj1 hj2)))
  clear hi hz0 hz1 hz2 hj hj0 hj1 hj2
  have HST : Hid (((Ru.mk 3 letter ⟨#[]⟩ many).st : Int) = many + 1) := by
    have : ((Ru.mk 3 letter ⟨#[]⟩ many).st : Int) = many + 1 := by simp [Ru.st]; omega
    exact Lib.hid this
  have HSB := Lib.hid (Ru.st_bd hok)
  have HEND : Hid (∀ x : Int, (Ru.mk 3 letter ⟨#[]⟩ many).endAt x = true) := Lib.hid (fun x => rfl)
  have hs0 : ((w.alloc (.cells #[.int .i64 3, .string letter, .string ⟨#[]⟩, .int .i64 many] 45)).alloc (.cells #[.int .i64 0, .slice none 0 0, .slice none 0 0] 28)).heap.size = w.heap.size + 1 + 1 := by simp
  have B1 := Lib.hid ((RuBox.new (w := w) 3 letter ⟨#[]⟩ many 45).below ((Below.refl _ _).alloc (Nat.le_refl _) (.cells #[.int .i64 0, .slice none 0 0, .slice none 0 0] 28)))
  have c0 := fun i => World.cell?_alloc_new (w.alloc (.cells #[.int .i64 3, .string letter, .string ⟨#[]⟩, .int .i64 many] 45)) #[.int .i64 0, .slice none 0 0, .slice none 0 0] 28 i
  have f0 := fun i => World.frozen?_alloc_new (w.alloc (.cells #[.int .i64 3, .string letter, .string ⟨#[]⟩, .int .i64 many] 45)) #[.int .i64 0, .slice none 0 0, .slice none 0 0] 28 i
  simp only [World.size_alloc] at c0 f0
  have q0 : Below w.heap.size w ((w.alloc (.cells #[.int .i64 3, .string letter, .string ⟨#[]⟩, .int .i64 many] 45)).alloc (.cells #[.int .i64 0, .slice none 0 0, .slice none 0 0] 28)) := ((Below.refl w.heap.size w).alloc (Nat.le_refl _) _).alloc (by simp) _
  have C0 := Lib.hid c0
  have F0 := Lib.hid f0
  have Q0 := Lib.hid q0
  have HS0 := Lib.hid hs0
  clear c0 f0 q0
  go_enter Try.func42, Try.ntmps42
  go_wp2_with fail
  refine (specRuleOk_any 3 letter ⟨#[]⟩ many _).mono ?_
  rintro e w1 ⟨rfl, hb1⟩
  rw [hok]
  rw [hs0] at hb1
  have hB1 := Lib.hid hb1
  have BX := Lib.hid (B1.out.below (by rw [hs0]; exact hb1))
  have y0 := BX.out.c0
  have y1 := BX.out.c1
  have y2 := BX.out.c2
  have y3 := BX.out.c3
  have HOK := Lib.hid hok
  clear hs0 hb1 hok
  have M0 := Lib.hid (mk_start w1 (many + 1))
  go_wp2_with fail
  clear y0 y1 y2 y3
  go_loopw [6] (fun i wr => ∃ (j : Nat) (nv ev : Value), j ≤ (Ru.mk 3 letter ⟨#[]⟩ many).st ∧ i = .int .i64 (j : Int) ∧ Mk w1 w1.heap.size (many + 1) (tabTo (Ru.mk 3 letter ⟨#[]⟩ many).nx j) nv (endsTo (Ru.mk 3 letter ⟨#[]⟩ many).endAt j) ev wr) (fun i _ => (Ru.mk 3 letter ⟨#[]⟩ many).st - (intOf i).toNat)
  case atStart => exact ⟨0, _, _, Nat.zero_le _, rfl, M0.out⟩
  case round =>
    obtain ⟨j, nv, ev, hj, rfl, hM⟩ := hrel
    have M1 := Lib.hid hM
    clear hM
    have hj6 : j ≤ 6 := Nat.le_trans hj HSB.out.2
    by_cases hlt : j < (Ru.mk 3 letter ⟨#[]⟩ many).st
    · have hlt' : (j : Int) < many + 1 := by have := HST.out; omega
      go_wp2_with fail
      go_loopw [7] (fun i wr => ∃ (l : Nat) (nv : Value), l ≤ 3 ∧ i = .int .i64 (l : Int) ∧ Mk w1 w1.heap.size (many + 1) (tabTo (Ru.mk 3 letter ⟨#[]⟩ many).nx j ++ part (Ru.mk 3 letter ⟨#[]⟩ many).nx j l) nv (endsTo (Ru.mk 3 letter ⟨#[]⟩ many).endAt j) ev wr) (fun i _ => 3 - (intOf i).toNat)
      case atStart => exact ⟨0, nv, Nat.zero_le _, rfl, by rw [show part (Ru.mk 3 letter ⟨#[]⟩ many).nx j 0 = [] from rfl, List.append_nil]; exact M1.out⟩
      case round =>
        obtain ⟨l, nv', hl3, rfl, hM⟩ := hrel
        have M2 := Lib.hid hM
        clear hM
        by_cases hl : l < 3
        · have hlen : (tabTo (Ru.mk 3 letter ⟨#[]⟩ many).nx j ++ part (Ru.mk 3 letter ⟨#[]⟩ many).nx j l).length ≤ 100 := by rw [List.length_append, tabTo_length, part_length]; omega
          have HPS : Hid (tabTo (Ru.mk 3 letter ⟨#[]⟩ many).nx j ++ part (Ru.mk 3 letter ⟨#[]⟩ many).nx j (l + 1) = (tabTo (Ru.mk 3 letter ⟨#[]⟩ many).nx j ++ part (Ru.mk 3 letter ⟨#[]⟩ many).nx j l) ++ [(Ru.mk 3 letter ⟨#[]⟩ many).nx (j : Int) l]) := by
            have : tabTo (Ru.mk 3 letter ⟨#[]⟩ many).nx j ++ part (Ru.mk 3 letter ⟨#[]⟩ many).nx j (l + 1) = (tabTo (Ru.mk 3 letter ⟨#[]⟩ many).nx j ++ part (Ru.mk 3 letter ⟨#[]⟩ many).nx j l) ++ [(Ru.mk 3 letter ⟨#[]⟩ many).nx (j : Int) l] := by rw [part_succ, List.append_assoc]
            exact Lib.hid this
          have hjst : (j : Int) < ((Ru.mk 3 letter ⟨#[]⟩ many).st : Int) := by omega
          have HCALL := Lib.hid (fun W => l3Next_at 3 letter ⟨#[]⟩ many HOK.out (j : Int) W (by omega) hjst l hl)
          have hsl := fun W => rdn_at l hl W
          have hq1 : IntKind.i64.wrap ((l : Int) + 1) = (l : Int) + 1 := IntWalk.i64_in _ (by omega)
          clear hjst
          generalize tabTo (Ru.mk 3 letter ⟨#[]⟩ many).nx j ++ part (Ru.mk 3 letter ⟨#[]⟩ many).nx j l = nx at *
          generalize (Ru.mk 3 letter ⟨#[]⟩ many).nx (j : Int) l = x at *
          have Md := Lib.hid (M2.out.same (grown_drew _ none))
          have BXd := Lib.hid (BX.out.below (by have := Md.out.keep; exact this))
          have z0 := Md.out.cell.1
          have z1 := Md.out.cell.2.1
          have y0 := BXd.out.c0
          have y1 := BXd.out.c1
          have y2 := BXd.out.c2
          have y3 := BXd.out.c3
          go_wp2_with fail
          go_region_law (first | (go_simp; go_at_call 91; (try rw [hq1]); refine (HCALL.out _).mono ?_; rintro e w2 ⟨rfl, hb⟩; have M3 := Lib.hid (Md.out.below hb); have x11 := M3.out.cell.2.1; have x13 := fun x => (M3.out.same (World.grownBy_alloc w2 (.cells #[.int .i64 x] 3) none)).cell.2.1) | (refine step_append_lies _ rfl _ _ 22 rfl 0 3 i0 (.int .i64 0) 1 8 Try.underlying22 HI.out.1 HI.out.2.1 HI.out.2.2.1 HI.out.2.2.2 rfl (by decide) nv' nx.length (nx.map (Value.int .i64)) rfl (M3.out.rowN.alloc _) ⟨w2.heap.size, 0, none⟩ 1 1 [.int .i64 x] rfl rfl (cell_one_new _ _ _) (by simp [Value.oneCell']) (by omega) (by unfold maxLen; omega) (by omega) (Nat.zero_le _) _ rfl ?_; intro g cp w4 hown hgrow hat hlt3; obtain ⟨M4, x31, f31⟩ := M3.out.nextN hgrow hown hat))
          all_goals
            clear z0 z1 y0 y1 y2 y3 x11 x13 hb hsl hq1
            go_wp2
            go_roundw
            case rel => exact ⟨l + 1, _, by omega, by go_num, by rw [HPS.out]; exact M4⟩
            case measure => simp [intOf]; omega
        · obtain rfl : l = 3 := by omega
          have hT : tabTo (Ru.mk 3 letter ⟨#[]⟩ many).nx j ++ part (Ru.mk 3 letter ⟨#[]⟩ many).nx j 3 = tabTo (Ru.mk 3 letter ⟨#[]⟩ many).nx (j + 1) := rfl
          rw [hT] at M2
          have hEJ : (Ru.mk 3 letter ⟨#[]⟩ many).endAt (j : Int) = true := HEND.out _
          have hEE : Hid (endsTo (Ru.mk 3 letter ⟨#[]⟩ many).endAt (j + 1) = endsTo (Ru.mk 3 letter ⟨#[]⟩ many).endAt j ++ [true]) := by
            have : endsTo (Ru.mk 3 letter ⟨#[]⟩ many).endAt (j + 1) = endsTo (Ru.mk 3 letter ⟨#[]⟩ many).endAt j ++ [true] := by rw [endsTo_succ, hEJ]
            exact Lib.hid this
          have hes : (endsTo (Ru.mk 3 letter ⟨#[]⟩ many).endAt j).length ≤ 100 := by rw [endsTo_length]; omega
          clear hT hEJ
          generalize hnx : tabTo (Ru.mk 3 letter ⟨#[]⟩ many).nx (j + 1) = nx at *
          have HNX := Lib.hid hnx
          clear hnx
          generalize endsTo (Ru.mk 3 letter ⟨#[]⟩ many).endAt j = es at *
          have BXd := Lib.hid (BX.out.below M2.out.keep)
          have z0 := M2.out.cell.1
          have z2 := M2.out.cell.2.2
          have y0 := BXd.out.c0
          have y3 := BXd.out.c3
          go_wp2_with (at_builtin; refine wpList_append_lies _ rfl _ _ 23 rfl 0 4 j0 (.bool false) 1 1 Try.underlying23 HJ.out.1 HJ.out.2.1 HJ.out.2.2.1 HJ.out.2.2.2 rfl (by decide) ev es.length (es.map Value.bool) rfl (M2.out.rowE.alloc _) ⟨wr.heap.size, 0, none⟩ 1 1 [.bool true] rfl rfl (cell_one_new _ _ _) (by simp [Value.oneCell']) (by omega) (by unfold maxLen; omega) (by omega) (Nat.zero_le _) _ rfl ?_; intro g cp w4 hown hgrow hat hlt3; obtain ⟨M4, x31, f31⟩ := M2.out.nextE hgrow hown hat)
          go_roundw
          case rel => exact ⟨j + 1, _, _, hlt, by go_num, by rw [hEE.out, HNX.out]; exact M4⟩
          case measure => simp [intOf]; omega
    · obtain rfl : j = (Ru.mk 3 letter ⟨#[]⟩ many).st := by omega
      have hlt' : ¬ ((((Ru.mk 3 letter ⟨#[]⟩ many).st : Nat) : Int) < many + 1) := by have := HST.out; omega
      obtain ⟨a1, c1, rfl⟩ := ownsRow_slice M1.out.rowN
      obtain ⟨a2, c2, rfl⟩ := ownsRow_slice M1.out.rowE
      have hT : Hid (mfT (Ru.mk 3 letter ⟨#[]⟩ many) = ⟨many + 1, tabTo (Ru.mk 3 letter ⟨#[]⟩ many).nx (Ru.mk 3 letter ⟨#[]⟩ many).st, endsTo (Ru.mk 3 letter ⟨#[]⟩ many).endAt (Ru.mk 3 letter ⟨#[]⟩ many).st⟩) := by
        have : mfT (Ru.mk 3 letter ⟨#[]⟩ many) = ⟨many + 1, tabTo (Ru.mk 3 letter ⟨#[]⟩ many).nx (Ru.mk 3 letter ⟨#[]⟩ many).st, endsTo (Ru.mk 3 letter ⟨#[]⟩ many).endAt (Ru.mk 3 letter ⟨#[]⟩ many).st⟩ := by rw [mfT, HST.out]
        exact Lib.hid this
      generalize hnx : tabTo (Ru.mk 3 letter ⟨#[]⟩ many).nx (Ru.mk 3 letter ⟨#[]⟩ many).st = nx at *
      generalize hes : endsTo (Ru.mk 3 letter ⟨#[]⟩ many).endAt (Ru.mk 3 letter ⟨#[]⟩ many).st = es at *
      clear hnx hes
      have hn2 : w.heap.size + 1 + 1 ≤ w1.heap.size := by have := hB1.out.size; rw [HS0.out] at this; exact this
      obtain ⟨⟨h0, h1, h2⟩, k0, k1, k2⟩ := zeros_kept C0.out F0.out hB1.out (Nat.lt_succ_self _) M1.out.keep hn2
      have z0 := M1.out.cell.1
      have z1 := M1.out.cell.2.1
      have z2 := M1.out.cell.2.2
      have hA := M1.out.ap.tail
      have q3 : Below w.heap.size w wr := (Q0.out.trans (hB1.out.mono (by omega))).trans (M1.out.keep.mono (by omega))
      have FI := Lib.hid (fin_cells (x := .int .i64 (many + 1)) (y := .slice a1 nx.length c1) (z := .slice a2 es.length c2) (B := w.heap.size) (b := w.heap.size + 1) hA q3 (Nat.le_succ _) (by omega) (some3 h0 h1 h2) (by omega))
      clear q3 hA
      go_wp2
      obtain ⟨r1, r2, r3, r4, r5⟩ := FI.out _ rfl
      refine bodyPost_ret (v := .tuple #[.agg #[.int .i64 (many + 1), .slice a1 nx.length c1, .slice a2 es.length c2], .bool true]) ?_ rfl (by rw [hT.out]; exact ⟨a1, a2, c1, c2, rfl, r1, r2⟩)
      simp [results, Try.results42, go_sem, r3, r4, r5]
end Go.Proofs.Ytgpjckmmleagbaa

namespace Go.Proofs.Ytgpjckmmleagbaa
open Go.RowKit

set_option maxHeartbeats 4000000 in
set_option maxRecDepth 100000 in
theorem specMachineFor_4 (letter : ByteArray) (many : Int) (w : World) (hl : letterOk letter = true) (hk0 : 1 ≤ many) (hk4 : many ≤ 5) :
    Calls Try.prog 42 #[.agg #[.int .i64 4, .string letter, .string ⟨#[]⟩, .int .i64 many]] w (MachNewB (mfT (Ru.mk 4 letter ⟨#[]⟩ many)) true w) := by
  have hok : (Ru.mk 4 letter ⟨#[]⟩ many).ok = true := Ru.ok_iff.2 ⟨hl, .inr (.inr (.inr (.inr ⟨rfl, rfl, hk0, hk4⟩)))⟩
  obtain ⟨i0, hi, hz0, hz1, hz2⟩ := info_parts infoIntF
  obtain ⟨j0, hj, hj0, hj1, hj2⟩ := info_parts infoBoolF
  have HI := Lib.hid (And.intro hi (And.intro hz0 (And.intro hz1 hz2)))
  have HJ := Lib.hid (And.intro hj (And.intro hj0 (And.intro hj1 hj2)))
  clear hi hz0 hz1 hz2 hj hj0 hj1 hj2
  have HST : Hid (((Ru.mk 4 letter ⟨#[]⟩ many).st : Int) = many + 1) := by
    have : ((Ru.mk 4 letter ⟨#[]⟩ many).st : Int) = many + 1 := by simp [Ru.st]; omega
    exact Lib.hid this
  have HSB := Lib.hid (Ru.st_bd hok)
  have HEND : Hid (∀ x : Int, (Ru.mk 4 letter ⟨#[]⟩ many).endAt x = (x == many)) := Lib.hid (fun x => rfl)
  have hs0 : ((w.alloc (.cells #[.int .i64 4, .string letter, .string ⟨#[]⟩, .int .i64 many] 45)).alloc (.cells #[.int .i64 0, .slice none 0 0, .slice none 0 0] 28)).heap.size = w.heap.size + 1 + 1 := by simp
  have B1 := Lib.hid ((RuBox.new (w := w) 4 letter ⟨#[]⟩ many 45).below ((Below.refl _ _).alloc (Nat.le_refl _) (.cells #[.int .i64 0, .slice none 0 0, .slice none 0 0] 28)))
  have c0 := fun i => World.cell?_alloc_new (w.alloc (.cells #[.int .i64 4, .string letter, .string ⟨#[]⟩, .int .i64 many] 45)) #[.int .i64 0, .slice none 0 0, .slice none 0 0] 28 i
  have f0 := fun i => World.frozen?_alloc_new (w.alloc (.cells #[.int .i64 4, .string letter, .string ⟨#[]⟩, .int .i64 many] 45)) #[.int .i64 0, .slice none 0 0, .slice none 0 0] 28 i
  simp only [World.size_alloc] at c0 f0
  have q0 : Below w.heap.size w ((w.alloc (.cells #[.int .i64 4, .string letter, .string ⟨#[]⟩, .int .i64 many] 45)).alloc (.cells #[.int .i64 0, .slice none 0 0, .slice none 0 0] 28)) := ((Below.refl w.heap.size w).alloc (Nat.le_refl _) _).alloc (by simp) _
  have C0 := Lib.hid c0
  have F0 := Lib.hid f0
  have Q0 := Lib.hid q0
  have HS0 := Lib.hid hs0
  clear c0 f0 q0
  go_enter Try.func42, Try.ntmps42
  go_wp2_with fail
  refine (specRuleOk_any 4 letter ⟨#[]⟩ many _).mono ?_
  rintro e w1 ⟨rfl, hb1⟩
  rw [hok]
  rw [hs0] at hb1
  have hB1 := Lib.hid hb1
  have BX := Lib.hid (B1.out.below (by rw [hs0]; exact hb1))
  have y0 := BX.out.c0
  have y1 := BX.out.c1
  have y2 := BX.out.c2
  have y3 := BX.out.c3
  have HOK := Lib.hid hok
  clear hs0 hb1 hok
  have M0 := Lib.hid (mk_start w1 (many + 1))
  go_wp2_with fail
  clear y0 y1 y2 y3
  go_loopw [6] (fun i wr => ∃ (j : Nat) (nv ev : Value), j ≤ (Ru.mk 4 letter ⟨#[]⟩ many).st ∧ i = .int .i64 (j : Int) ∧ Mk w1 w1.heap.size (many + 1) (tabTo (Ru.mk 4 letter ⟨#[]⟩ many).nx j) nv (endsTo (Ru.mk 4 letter ⟨#[]⟩ many).endAt j) ev wr) (fun i _ => (Ru.mk 4 letter ⟨#[]⟩ many).st - (intOf i).toNat)
  case atStart => exact ⟨0, _, _, Nat.zero_le _, rfl, M0.out⟩
  case round =>
    obtain ⟨j, nv, ev, hj, rfl, hM⟩ := hrel
    have M1 := Lib.hid hM
    clear hM
    have hj6 : j ≤ 6 := Nat.le_trans hj HSB.out.2
    by_cases hlt : j < (Ru.mk 4 letter ⟨#[]⟩ many).st
    · have hlt' : (j : Int) < many + 1 := by have := HST.out; omega
      go_wp2_with fail
      go_loopw [7] (fun i wr => ∃ (l : Nat) (nv : Value), l ≤ 3 ∧ i = .int .i64 (l : Int) ∧ Mk w1 w1.heap.size (many + 1) (tabTo (Ru.mk 4 letter ⟨#[]⟩ many).nx j ++ part (Ru.mk 4 letter ⟨#[]⟩ many).nx j l) nv (endsTo (Ru.mk 4 letter ⟨#[]⟩ many).endAt j) ev wr) (fun i _ => 3 - (intOf i).toNat)
      case atStart => exact ⟨0, nv, Nat.zero_le _, rfl, by rw [show part (Ru.mk 4 letter ⟨#[]⟩ many).nx j 0 = [] from rfl, List.append_nil]; exact M1.out⟩
      case round =>
        obtain ⟨l, nv', hl3, rfl, hM⟩ := hrel
        have M2 := Lib.hid hM
        clear hM
        by_cases hl : l < 3
        · have hlen : (tabTo (Ru.mk 4 letter ⟨#[]⟩ many).nx j ++ part (Ru.mk 4 letter ⟨#[]⟩ many).nx j l).length ≤ 100 := by rw [List.length_append, tabTo_length, part_length]; omega
          have HPS : Hid (tabTo (Ru.mk 4 letter ⟨#[]⟩ many).nx j ++ part (Ru.mk 4 letter ⟨#[]⟩ many).nx j (l + 1) = (tabTo (Ru.mk 4 letter ⟨#[]⟩ many).nx j ++ part (Ru.mk 4 letter ⟨#[]⟩ many).nx j l) ++ [(Ru.mk 4 letter ⟨#[]⟩ many).nx (j : Int) l]) := by
            have : tabTo (Ru.mk 4 letter ⟨#[]⟩ many).nx j ++ part (Ru.mk 4 letter ⟨#[]⟩ many).nx j (l + 1) = (tabTo (Ru.mk 4 letter ⟨#[]⟩ many).nx j ++ part (Ru.mk 4 letter ⟨#[]⟩ many).nx j l) ++ [(Ru.mk 4 letter ⟨#[]⟩ many).nx (j : Int) l] := by rw [part_succ, List.append_assoc]
            exact Lib.hid this
          have hjst : (j : Int) < ((Ru.mk 4 letter ⟨#[]⟩ many).st : Int) := by omega
          have HCALL := Lib.hid (fun W => l3Next_at 4 letter ⟨#[]⟩ many HOK.out (j : Int) W (by omega) hjst l hl)
          have hsl := fun W => rdn_at l hl W
          have hq1 : IntKind.i64.wrap ((l : Int) + 1) = (l : Int) + 1 := IntWalk.i64_in _ (by omega)
          clear hjst
          generalize tabTo (Ru.mk 4 letter ⟨#[]⟩ many).nx j ++ part (Ru.mk 4 letter ⟨#[]⟩ many).nx j l = nx at *
          generalize (Ru.mk 4 letter ⟨#[]⟩ many).nx (j : Int) l = x at *
          have Md := Lib.hid (M2.out.same (grown_drew _ none))
          have BXd := Lib.hid (BX.out.below (by have := Md.out.keep; exact this))
          have z0 := Md.out.cell.1
          have z1 := Md.out.cell.2.1
          have y0 := BXd.out.c0
          have y1 := BXd.out.c1
          have y2 := BXd.out.c2
          have y3 := BXd.out.c3
          go_wp2_with fail
          go_region_law (first | (go_simp; go_at_call 91; (try rw [hq1]); refine (HCALL.out _).mono ?_; rintro e w2 ⟨rfl, hb⟩; have M3 := Lib.hid (Md.out.below hb); have x11 := M3.out.cell.2.1; have x13 := fun x => (M3.out.same (World.grownBy_alloc w2 (.cells #[.int .i64 x] 3) none)).cell.2.1) | (refine step_append_lies _ rfl _ _ 22 rfl 0 3 i0 (.int .i64 0) 1 8 Try.underlying22 HI.out.1 HI.out.2.1 HI.out.2.2.1 HI.out.2.2.2 rfl (by decide) nv' nx.length (nx.map (Value.int .i64)) rfl (M3.out.rowN.alloc _) ⟨w2.heap.size, 0, none⟩ 1 1 [.int .i64 x] rfl rfl (cell_one_new _ _ _) (by simp [Value.oneCell']) (by omega) (by unfold maxLen; omega) (by omega) (Nat.zero_le _) _ rfl ?_; intro g cp w4 hown hgrow hat hlt3; obtain ⟨M4, x31, f31⟩ := M3.out.nextN hgrow hown hat))
          all_goals
            clear z0 z1 y0 y1 y2 y3 x11 x13 hb hsl hq1
            go_wp2
            go_roundw
            case rel => exact ⟨l + 1, _, by omega, by go_num, by rw [HPS.out]; exact M4⟩
            case measure => simp [intOf]; omega
        · obtain rfl : l = 3 := by omega
          have hT : tabTo (Ru.mk 4 letter ⟨#[]⟩ many).nx j ++ part (Ru.mk 4 letter ⟨#[]⟩ many).nx j 3 = tabTo (Ru.mk 4 letter ⟨#[]⟩ many).nx (j + 1) := rfl
          rw [hT] at M2
          obtain ⟨bm, hjm⟩ : ∃ b, ((j : Int) == many) = b := ⟨_, rfl⟩
          have hEJ : (Ru.mk 4 letter ⟨#[]⟩ many).endAt (j : Int) = bm := by rw [HEND.out, hjm]
          have hEE : Hid (endsTo (Ru.mk 4 letter ⟨#[]⟩ many).endAt (j + 1) = endsTo (Ru.mk 4 letter ⟨#[]⟩ many).endAt j ++ [bm]) := by
            have : endsTo (Ru.mk 4 letter ⟨#[]⟩ many).endAt (j + 1) = endsTo (Ru.mk 4 letter ⟨#[]⟩ many).endAt j ++ [bm] := by rw [endsTo_succ, hEJ]
            exact Lib.hid this
          have hes : (endsTo (Ru.mk 4 letter ⟨#[]⟩ many).endAt j).length ≤ 100 := by rw [endsTo_length]; omega
          clear hT hEJ
          generalize hnx : tabTo (Ru.mk 4 letter ⟨#[]⟩ many).nx (j + 1) = nx at *
          have HNX := Lib.hid hnx
          clear hnx
          generalize endsTo (Ru.mk 4 letter ⟨#[]⟩ many).endAt j = es at *
          have BXd := Lib.hid (BX.out.below M2.out.keep)
          have z0 := M2.out.cell.1
          have z2 := M2.out.cell.2.2
          have y0 := BXd.out.c0
          have y3 := BXd.out.c3
          cases bm
          all_goals
            go_wp2_with (at_builtin; refine wpList_append_lies _ rfl _ _ 23 rfl 0 4 j0 (.bool false) 1 1 Try.underlying23 HJ.out.1 HJ.out.2.1 HJ.out.2.2.1 HJ.out.2.2.2 rfl (by decide) ev es.length (es.map Value.bool) rfl (M2.out.rowE.alloc _) ⟨wr.heap.size, 0, none⟩ 1 1 [.bool _] rfl rfl (cell_one_new _ _ _) (by simp [Value.oneCell']) (by omega) (by unfold maxLen; omega) (by omega) (Nat.zero_le _) _ rfl ?_; intro g cp w4 hown hgrow hat hlt3; obtain ⟨M4, x31, f31⟩ := M2.out.nextE hgrow hown hat)
            go_roundw
            case rel => exact ⟨j + 1, _, _, hlt, by go_num, by rw [hEE.out, HNX.out]; exact M4⟩
            case measure => simp [intOf]; omega
    · obtain rfl : j = (Ru.mk 4 letter ⟨#[]⟩ many).st := by omega
      have hlt' : ¬ ((((Ru.mk 4 letter ⟨#[]⟩ many).st : Nat) : Int) < many + 1) := by have := HST.out; omega
      obtain ⟨a1, c1, rfl⟩ := ownsRow_slice M1.out.rowN
      obtain ⟨a2, c2, rfl⟩ := ownsRow_slice M1.out.rowE
      have hT : Hid (mfT (Ru.mk 4 letter ⟨#[]⟩ many) = ⟨many + 1, tabTo (Ru.mk 4 letter ⟨#[]⟩ many).nx (Ru.mk 4 letter ⟨#[]⟩ many).st, endsTo (Ru.mk 4 letter ⟨#[]⟩ many).endAt (Ru.mk 4 letter ⟨#[]⟩ many).st⟩) := by
        have : mfT (Ru.mk 4 letter ⟨#[]⟩ many) = ⟨many + 1, tabTo (Ru.mk 4 letter ⟨#[]⟩ many).nx (Ru.mk 4 letter ⟨#[]⟩ many).st, endsTo (Ru.mk 4 letter ⟨#[]⟩ many).endAt (Ru.mk 4 letter ⟨#[]⟩ many).st⟩ := by rw [mfT, HST.out]
        exact Lib.hid this
      generalize hnx : tabTo (Ru.mk 4 letter ⟨#[]⟩ many).nx (Ru.mk 4 letter ⟨#[]⟩ many).st = nx at *
      generalize hes : endsTo (Ru.mk 4 letter ⟨#[]⟩ many).endAt (Ru.mk 4 letter ⟨#[]⟩ many).st = es at *
      clear hnx hes
      have hn2 : w.heap.size + 1 + 1 ≤ w1.heap.size := by have := hB1.out.size; rw [HS0.out] at this; exact this
      obtain ⟨⟨h0, h1, h2⟩, k0, k1, k2⟩ := zeros_kept C0.out F0.out hB1.out (Nat.lt_succ_self _) M1.out.keep hn2
      have z0 := M1.out.cell.1
      have z1 := M1.out.cell.2.1
      have z2 := M1.out.cell.2.2
      have hA := M1.out.ap.tail
      have q3 : Below w.heap.size w wr := (Q0.out.trans (hB1.out.mono (by omega))).trans (M1.out.keep.mono (by omega))
      have FI := Lib.hid (fin_cells (x := .int .i64 (many + 1)) (y := .slice a1 nx.length c1) (z := .slice a2 es.length c2) (B := w.heap.size) (b := w.heap.size + 1) hA q3 (Nat.le_succ _) (by omega) (some3 h0 h1 h2) (by omega))
      clear q3 hA
      go_wp2
      obtain ⟨r1, r2, r3, r4, r5⟩ := FI.out _ rfl
      refine bodyPost_ret (v := .tuple #[.agg #[.int .i64 (many + 1), .slice a1 nx.length c1, .slice a2 es.length c2], .bool true]) ?_ rfl (by rw [hT.out]; exact ⟨a1, a2, c1, c2, rfl, r1, r2⟩)
      simp [results, Try.results42, go_sem, r3, r4, r5]
end Go.Proofs.Ytgpjckmmleagbaa

namespace Go.Proofs.Ytgpjckmmleagbaa
open Go.RowKit

theorem mf_yes {r : Ru} (h : r.ok = true) : mf r = mfT r := by rw [mf, if_pos h]
theorem mf_no {r : Ru} (h : r.ok = false) : mf r = ⟨0, [], []⟩ := by rw [mf, if_neg (by simp [h])]

set_option maxHeartbeats 1000000 in
theorem implMachineFor_any (kind : Int) (letter thn : ByteArray) (many : Int) (w : World) (h1 : letter.size ≤ maxLen) (h2 : thn.size ≤ maxLen) :
    Calls Try.prog 43 #[.agg #[.int .i64 kind, .string letter, .string thn, .int .i64 many]] w (MachNewB (mf (Ru.mk kind letter thn many)) (Ru.mk kind letter thn many).ok w) := by
  by_cases hok : (Ru.mk kind letter thn many).ok = true
  · rw [mf_yes hok, hok]
    obtain ⟨hl, hr⟩ := Ru.ok_iff.1 hok
    simp only at hl hr
    rcases hr with ⟨rfl, rfl, h0, h4⟩ | ⟨rfl, rfl, h0, h4⟩ | ⟨rfl, ht, rfl⟩ | ⟨rfl, rfl, h0, h4⟩ | ⟨rfl, rfl, h0, h4⟩
    · exact implMachineFor_0 letter many w hl h0 h4
    · exact implMachineFor_1 letter many w hl h0 h4
    · exact implMachineFor_2 letter thn w hl ht
    · exact implMachineFor_3 letter many w hl h0 h4
    · exact implMachineFor_4 letter many w hl h0 h4
  · have hok' : (Ru.mk kind letter thn many).ok = false := by simpa using hok
    rw [mf_no hok', hok']
    clear hok
    have c0 := fun i => World.cell?_alloc_new (w.alloc (.cells #[.int .i64 kind, .string letter, .string thn, .int .i64 many] 45)) #[.int .i64 0, .slice none 0 0, .slice none 0 0] 28 i
    have f0 := fun i => World.frozen?_alloc_new (w.alloc (.cells #[.int .i64 kind, .string letter, .string thn, .int .i64 many] 45)) #[.int .i64 0, .slice none 0 0, .slice none 0 0] 28 i
    simp only [World.size_alloc] at c0 f0
    have q0 := ((Below.refl w.heap.size w).alloc (Nat.le_refl _) (.cells #[.int .i64 kind, .string letter, .string thn, .int .i64 many] 45)).alloc (by simp) (.cells #[.int .i64 0, .slice none 0 0, .slice none 0 0] 28)
    have C0 := Lib.hid c0
    have F0 := Lib.hid f0
    have Q0 := Lib.hid q0
    clear c0 f0 q0
    go_enter Try.func43, Try.ntmps43
    go_wp2_with fail
    refine (implRuleOk_any kind letter thn many _ h1 h2).mono ?_
    rintro e w1 ⟨rfl, hb1⟩
    rw [hok']
    simp only [World.size_alloc] at hb1
    have h0 : w1.cell? ⟨w.heap.size + 1, 0, none⟩ = some (.int .i64 0) := (hb1.cell (p := ⟨w.heap.size + 1, 0, none⟩) (Nat.lt_succ_self _)).trans (C0.out 0)
    have h1 : w1.cell? ⟨w.heap.size + 1, 1, none⟩ = some (.slice none 0 0) := (hb1.cell (p := ⟨w.heap.size + 1, 1, none⟩) (Nat.lt_succ_self _)).trans (C0.out 1)
    have h2 : w1.cell? ⟨w.heap.size + 1, 2, none⟩ = some (.slice none 0 0) := (hb1.cell (p := ⟨w.heap.size + 1, 2, none⟩) (Nat.lt_succ_self _)).trans (C0.out 2)
    have k0 := (hb1.frozen (p := ⟨w.heap.size + 1, 0, none⟩) (Nat.lt_succ_self _)).trans (F0.out 0)
    have k1 := (hb1.frozen (p := ⟨w.heap.size + 1, 1, none⟩) (Nat.lt_succ_self _)).trans (F0.out 1)
    have k2 := (hb1.frozen (p := ⟨w.heap.size + 1, 2, none⟩) (Nat.lt_succ_self _)).trans (F0.out 2)
    have q1 : Below w.heap.size w w1 := Q0.out.trans (hb1.mono (by omega))
    have FI := Lib.hid (fin_cells (x := .int .i64 0) (y := .slice none 0 0) (z := .slice none 0 0) (apart_nils (w.heap.size + 2) w1) q1 (Nat.le_succ _) (by omega) (some3 h0 h1 h2) (by omega))
    clear q1 hb1
    go_wp2
    obtain ⟨r1, r2, r3, r4, r5⟩ := FI.out _ rfl
    refine bodyPost_ret (v := .tuple #[.agg #[.int .i64 0, .slice none 0 0, .slice none 0 0], .bool false]) ?_ rfl ⟨none, none, 0, 0, rfl, r1, r2⟩
    simp [results, Try.results43, go_sem, r3, r4, r5]
end Go.Proofs.Ytgpjckmmleagbaa

namespace Go.Proofs.Ytgpjckmmleagbaa
open Go.RowKit

theorem infoIntC : (Try.prog.info? 3).map (fun i => (i.zero, i.size, i.bytes)) = some (some (.int .i64 0), 1, 8) := by kernel_rfl

/-- a list of which the first k are copied -/
def cpTo (xs : List Int) (k : Nat) : List Int := xs.take k ++ List.replicate (xs.length - k) 0
theorem cpTo_length (xs : List Int) (k : Nat) (h : k ≤ xs.length) : (cpTo xs k).length = xs.length := by
  rw [cpTo, List.length_append, List.length_take, List.length_replicate]; omega
theorem cpTo_zero (xs : List Int) : cpTo xs 0 = List.replicate xs.length 0 := by simp [cpTo]
theorem cpTo_all (xs : List Int) : cpTo xs xs.length = xs := by simp [cpTo]
theorem cpTo_step (xs : List Int) (k : Nat) (h : k < xs.length) : (cpTo xs k).set k xs[k] = cpTo xs (k + 1) := by
  have e : xs.length - k = (xs.length - (k + 1)) + 1 := by omega
  have hl : (xs.take k).length = k := by rw [List.length_take]; omega
  rw [cpTo, cpTo, List.set_append_right _ _ (by rw [hl]; exact Nat.le_refl _), hl, Nat.sub_self, e, List.replicate_succ, List.set_cons_zero, List.take_succ_eq_append_getElem h, List.append_assoc]
  rfl

/-- a fresh slice that holds a list of numbers -/
def CopyPost (xs : List Int) (w : World) (e : Ending) (w' : World) : Prop :=
  ∃ v, e = .returned v ∧ w'.ownsRow w.heap.size 3 1 v xs.length (xs.map (Value.int .i64)) ∧ Below w.heap.size w w'

set_option maxHeartbeats 800000 in
theorem toIntS_any (v : Value) (xs : List Int) (w : World) (h : IsInts w v xs) (hx : xs.length ≤ 1048576) :
    Calls Try.prog 49 #[v] w (CopyPost xs w) := by
  obtain ⟨i0, hi, hz0, hz1, hz2⟩ := info_parts infoIntC
  have hsz : i0.bytes * xs.length ≤ 281474976710656 := by rw [hz2]; omega
  have HI := Lib.hid hi
  have HZ0 := Lib.hid hz0
  have HZ1 := Lib.hid hz1
  have HSZ := Lib.hid hsz
  clear hi hz0 hz1 hz2 hsz
  obtain ⟨a, cap, rfl, ha1, ha2, ha⟩ := h
  have HA := Lib.hid ha
  unfold maxLen at ha2
  clear ha
  go_enter Try.func49, Try.ntmps49
  go_wp2_with (at_make; refine wpList_make_full _ rfl _ _ 22 rfl w.heap.size 3 i0 (.int .i64 0) 1 Try.underlying22 HI.out HZ0.out HZ1.out .i64 .i64 _ _ xs.length rfl rfl rfl rfl HSZ.out (by unfold maxLen; omega) (Nat.le_refl _) ?_; intro w1 hown1 hgrow1)
  have hown0 : w1.ownsRow w.heap.size 3 1 (.slice (some ⟨w.heap.size, 0, none⟩) xs.length xs.length) xs.length ((cpTo xs 0).map (Value.int .i64)) := by
    have e : (madeCells (Value.int .i64 0).cells (xs.length * 1)).toList = (cpTo xs 0).map (Value.int .i64) := by
      rw [cpTo_zero, Nat.mul_one, List.map_replicate]
      exact toList_madeCells_one _ _
    rw [← e]; exact hown1
  have HOWN := Lib.hid hown0
  have hbel1 : Below w.heap.size w w1 := (Below.refl _ _).grown hgrow1 (Nat.le_refl _) (fun k e => by cases e)
  clear hown0 hown1 hgrow1
  go_loopw [4] (fun i wr => ∃ k : Nat, k ≤ xs.length ∧ i = .int .i64 k ∧ wr.ownsRow w.heap.size 3 1 (.slice (some ⟨w.heap.size, 0, none⟩) xs.length xs.length) xs.length ((cpTo xs k).map (Value.int .i64)) ∧ Below w.heap.size w wr) (fun i _ => xs.length - (intOf i).toNat)
  case atStart => exact ⟨0, Nat.zero_le _, rfl, HOWN.out, hbel1⟩
  case round =>
    obtain ⟨k, hk, rfl, hown, hbel⟩ := hrel
    by_cases hlt : k < xs.length
    · obtain ⟨g, off, rfl, hg, hc⟩ := HA.out.resolve_left (fun h => by rw [h] at hlt; exact absurd hlt (Nat.not_lt_zero k))
      have hcell := (hbel.cell (p := ⟨g, off + k, none⟩) hg).trans (hc k hlt)
      have hst := hown.stored k (.int .i64 xs[k])
      rw [← List.map_set, cpTo_step xs k hlt] at hst
      have hml := cpTo_length xs k hk
      have hcl := hown.cellAt k (by omega)
      obtain ⟨c, hdell⟩ : ∃ c, wr.cell? ⟨w.heap.size, k, none⟩ = some (.int .i64 c) := ⟨(cpTo xs k)[k]'(by omega), by rw [hcl]; simp [hml, hlt]⟩
      have hfr := hown.frozenAt k
      have HST := Lib.hid hst
      have hsz := hbel.size
      clear hst hcl hml hown hc
      generalize xs[k] = c0 at hcell HST
      go_wp2
      go_roundw
      case rel => exact ⟨k + 1, by omega, by go_num, HST.out.1, hbel.setCell (p := ⟨w.heap.size, k, none⟩) (Nat.le_refl _) _⟩
      case measure => simp [intOf]; omega
    · obtain rfl : k = xs.length := by omega
      have HC := Lib.hid (cpTo_all xs)
      go_wp2
      go_ret
      refine ⟨_, rfl, ?_, hbel⟩
      rw [HC.out] at hown
      exact hown
end Go.Proofs.Ytgpjckmmleagbaa

namespace Go.Proofs.Ytgpjckmmleagbaa
open Go.RowKit

theorem infoBoolC : (Try.prog.info? 4).map (fun i => (i.zero, i.size, i.bytes)) = some (some (.bool false), 1, 1) := by kernel_rfl

/-- a list of which the first k are copied -/
def cpToB (xs : List Bool) (k : Nat) : List Bool := xs.take k ++ List.replicate (xs.length - k) false
theorem cpToB_length (xs : List Bool) (k : Nat) (h : k ≤ xs.length) : (cpToB xs k).length = xs.length := by
  rw [cpToB, List.length_append, List.length_take, List.length_replicate]; omega
theorem cpToB_zero (xs : List Bool) : cpToB xs 0 = List.replicate xs.length false := by simp [cpToB]
theorem cpToB_all (xs : List Bool) : cpToB xs xs.length = xs := by simp [cpToB]
theorem cpToB_step (xs : List Bool) (k : Nat) (h : k < xs.length) : (cpToB xs k).set k xs[k] = cpToB xs (k + 1) := by
  have e : xs.length - k = (xs.length - (k + 1)) + 1 := by omega
  have hl : (xs.take k).length = k := by rw [List.length_take]; omega
  rw [cpToB, cpToB, List.set_append_right _ _ (by rw [hl]; exact Nat.le_refl _), hl, Nat.sub_self, e, List.replicate_succ, List.set_cons_zero, List.take_succ_eq_append_getElem h, List.append_assoc]
  rfl

/-- a fresh slice that holds a list of numbers -/
def CopyPostB (xs : List Bool) (w : World) (e : Ending) (w' : World) : Prop :=
  ∃ v, e = .returned v ∧ w'.ownsRow w.heap.size 4 1 v xs.length (xs.map (Value.bool)) ∧ Below w.heap.size w w'

set_option maxHeartbeats 800000 in
theorem toBoolS_any (v : Value) (xs : List Bool) (w : World) (h : IsBools w v xs) (hx : xs.length ≤ 1048576) :
    Calls Try.prog 50 #[v] w (CopyPostB xs w) := by
  obtain ⟨i0, hi, hz0, hz1, hz2⟩ := info_parts infoBoolC
  have hsz : i0.bytes * xs.length ≤ 281474976710656 := by rw [hz2]; omega
  have HI := Lib.hid hi
  have HZ0 := Lib.hid hz0
  have HZ1 := Lib.hid hz1
  have HSZ := Lib.hid hsz
  clear hi hz0 hz1 hz2 hsz
  obtain ⟨a, cap, rfl, ha1, ha2, ha⟩ := h
  have HA := Lib.hid ha
  unfold maxLen at ha2
  clear ha
  go_enter Try.func50, Try.ntmps50
  go_wp2_with (at_make; refine wpList_make_full _ rfl _ _ 23 rfl w.heap.size 4 i0 (.bool false) 1 Try.underlying23 HI.out HZ0.out HZ1.out .i64 .i64 _ _ xs.length rfl rfl rfl rfl HSZ.out (by unfold maxLen; omega) (Nat.le_refl _) ?_; intro w1 hown1 hgrow1)
  have hown0 : w1.ownsRow w.heap.size 4 1 (.slice (some ⟨w.heap.size, 0, none⟩) xs.length xs.length) xs.length ((cpToB xs 0).map (Value.bool)) := by
    have e : (madeCells (Value.bool false).cells (xs.length * 1)).toList = (cpToB xs 0).map (Value.bool) := by
      rw [cpToB_zero, Nat.mul_one, List.map_replicate]
      exact toList_madeCells_one _ _
    rw [← e]; exact hown1
  have HOWN := Lib.hid hown0
  have hbel1 : Below w.heap.size w w1 := (Below.refl _ _).grown hgrow1 (Nat.le_refl _) (fun k e => by cases e)
  clear hown0 hown1 hgrow1
  go_loopw [4] (fun i wr => ∃ k : Nat, k ≤ xs.length ∧ i = .int .i64 k ∧ wr.ownsRow w.heap.size 4 1 (.slice (some ⟨w.heap.size, 0, none⟩) xs.length xs.length) xs.length ((cpToB xs k).map (Value.bool)) ∧ Below w.heap.size w wr) (fun i _ => xs.length - (intOf i).toNat)
  case atStart => exact ⟨0, Nat.zero_le _, rfl, HOWN.out, hbel1⟩
  case round =>
    obtain ⟨k, hk, rfl, hown, hbel⟩ := hrel
    by_cases hlt : k < xs.length
    · obtain ⟨g, off, rfl, hg, hc⟩ := HA.out.resolve_left (fun h => by rw [h] at hlt; exact absurd hlt (Nat.not_lt_zero k))
      have hcell := (hbel.cell (p := ⟨g, off + k, none⟩) hg).trans (hc k hlt)
      have hst := hown.stored k (.bool xs[k])
      rw [← List.map_set, cpToB_step xs k hlt] at hst
      have hml := cpToB_length xs k hk
      have hcl := hown.cellAt k (by omega)
      obtain ⟨c, hdell⟩ : ∃ c, wr.cell? ⟨w.heap.size, k, none⟩ = some (.bool c) := ⟨(cpToB xs k)[k]'(by omega), by rw [hcl]; simp [hml, hlt]⟩
      have hfr := hown.frozenAt k
      have HST := Lib.hid hst
      have hsz := hbel.size
      clear hst hcl hml hown hc
      generalize xs[k] = c0 at hcell HST
      go_wp2
      go_roundw
      case rel => exact ⟨k + 1, by omega, by go_num, HST.out.1, hbel.setCell (p := ⟨w.heap.size, k, none⟩) (Nat.le_refl _) _⟩
      case measure => simp [intOf]; omega
    · obtain rfl : k = xs.length := by omega
      have HC := Lib.hid (cpToB_all xs)
      go_wp2
      go_ret
      refine ⟨_, rfl, ?_, hbel⟩
      rw [HC.out] at hown
      exact hown
end Go.Proofs.Ytgpjckmmleagbaa

namespace Go.Proofs.Ytgpjckmmleagbaa
open Go.RowKit

set_option maxHeartbeats 800000 in
theorem eqIntS_any (u v : Value) (xs ys : List Int) (w : World) (hu : IsInts w u xs) (hv : IsInts w v ys) :
    Calls Try.prog 52 #[u, v] w fun e w' => e = .returned (.bool (xs == ys)) ∧ ∃ n, w' = w.drewN n := by
  obtain ⟨a, cap, rfl, ha1, ha2, ha⟩ := hu
  obtain ⟨b, cbp, rfl, hb1, hb2, hb⟩ := hv
  unfold maxLen at ha2 hb2
  by_cases hlen : xs.length = ys.length
  · have hl' : ((xs.length : Int) != (ys.length : Int)) = false := by simp [hlen]
    have HA := Lib.hid ha
    have HB := Lib.hid hb
    clear ha hb
    have hle : xs.length ≤ ys.length := by omega
    have HLN := Lib.hid hlen
    clear hlen
    go_enter Try.func52, Try.ntmps52
    go_wp2
    go_loopw [5] (fun i wr => ∃ k : Nat, k ≤ xs.length ∧ i = .int .i64 k ∧ (∀ j, j < k → xs.getD j 0 = ys.getD j 0) ∧ ∃ n, wr = w.drewN n) (fun i _ => xs.length - (intOf i).toNat)
    case atStart => exact ⟨0, Nat.zero_le _, rfl, (fun j h => absurd h (Nat.not_lt_zero j)), 0, rfl⟩
    case round =>
      obtain ⟨k, hk, rfl, heq, n, rfl⟩ := hrel
      have HE := Lib.hid heq
      clear heq
      by_cases hlt : k < xs.length
      · obtain ⟨g, off, rfl, hg, hc⟩ := HA.out.resolve_left (fun h => by rw [h] at hlt; exact absurd hlt (Nat.not_lt_zero k))
        obtain ⟨g2, off2, rfl, hg2, hc2⟩ := HB.out.resolve_left (fun h => by rw [h] at hle; have : xs.length ≤ 0 := hle; omega)
        have hlt2 : k < ys.length := by omega
        have hc1 := hc k hlt
        have hd1 := hc2 k hlt2
        clear hc hc2
        have e1 : xs.getD k 0 = xs[k] := by simp [List.getD, hlt]
        have e2 : ys.getD k 0 = ys[k] := by simp [List.getD, hlt2]
        by_cases hb : xs[k] = ys[k]
        · have hb' : (xs[k] != ys[k]) = false := by simp [hb]
          have HN : Hid (∀ j, j < k + 1 → xs.getD j 0 = ys.getD j 0) := by
            have : ∀ j, j < k + 1 → xs.getD j 0 = ys.getD j 0 := fun j hj => by
              by_cases hjk : j = k
              · subst hjk; rw [e1, e2, hb]
              · exact HE.out j (by omega)
            exact Lib.hid this
          clear hb e1 e2
          generalize hW : w.drewN n = W at *
          have HW := Lib.hid hW
          have hc1' : W.cell? ⟨g, off + k, none⟩ = some (.int .i64 xs[k]) := by rw [← hW]; exact hc1
          have hd1' : W.cell? ⟨g2, off2 + k, none⟩ = some (.int .i64 ys[k]) := by rw [← hW]; exact hd1
          clear hW hc1 hd1
          go_wp2
          go_quiet (fail)
          go_wp2
          go_roundw
          case rel => exact ⟨k + 1, by omega, by go_num, HN.out, _, by rw [← HW.out, World.drewN_drewN]⟩
          case measure => simp [intOf]; omega
        · have hb' : (xs[k] != ys[k]) = true := by simp [hb]
          have HN : Hid ((xs == ys) = false) := by
            have : (xs == ys) = false := by
              rw [beq_eq_false_iff_ne]
              intro h
              exact hb (by simp only [h])
            exact Lib.hid this
          clear hb e1 e2
          generalize hW : w.drewN n = W at *
          have HW := Lib.hid hW
          have hc1' : W.cell? ⟨g, off + k, none⟩ = some (.int .i64 xs[k]) := by rw [← hW]; exact hc1
          have hd1' : W.cell? ⟨g2, off2 + k, none⟩ = some (.int .i64 ys[k]) := by rw [← hW]; exact hd1
          clear hW hc1 hd1
          go_wp2
          go_quiet (fail)
          go_wp2
          go_ret
          exact ⟨ret_bool HN.out.symm, _, by rw [← HW.out, World.drewN_drewN]⟩
      · obtain rfl : k = xs.length := by omega
        have HN : Hid ((xs == ys) = true) := by
          have : (xs == ys) = true := by
            rw [beq_iff_eq]
            refine List.ext_getElem HLN.out fun i h1 h2 => ?_
            have := HE.out i h1
            simpa [List.getD, h1, h2] using this
          exact Lib.hid this
        go_wp2
        go_ret
        exact ⟨ret_bool HN.out.symm, _, rfl⟩
  · have hl' : ((xs.length : Int) != (ys.length : Int)) = true := by simp; omega
    have HN : Hid ((xs == ys) = false) := by
      have : (xs == ys) = false := by
        rw [beq_eq_false_iff_ne]
        intro h
        exact hlen (by rw [h])
      exact Lib.hid this
    clear hlen ha hb
    go_enter Try.func52, Try.ntmps52
    go_wp2
    go_ret
    exact ⟨ret_bool HN.out.symm, 0, rfl⟩

/-- numbers one after the other -/
def seqL (m : Int) (n : Nat) : List Int := (List.range n).map (fun i : Nat => m + (i : Int))
theorem seqL_length (m : Int) (n : Nat) : (seqL m n).length = n := by simp [seqL]
theorem seqL_succ (m : Int) (n : Nat) : seqL m (n + 1) = seqL m n ++ [m + n] := by simp [seqL, List.range_succ]
theorem seqL_get (m : Int) (n k : Nat) (h : k < (seqL m n).length) : (seqL m n)[k] = m + k := by simp [seqL]
/-- a list of which the first k are numbered -/
def markTo (xs : List Int) (m : Int) (k : Nat) : List Int := seqL m k ++ xs.drop k
theorem markTo_zero (xs : List Int) (m : Int) : markTo xs m 0 = xs := by simp [markTo, seqL]
theorem markTo_all (xs : List Int) (m : Int) : markTo xs m xs.length = seqL m xs.length := by simp [markTo]
theorem markTo_length (xs : List Int) (m : Int) (k : Nat) (h : k ≤ xs.length) : (markTo xs m k).length = xs.length := by
  rw [markTo, List.length_append, seqL_length, List.length_drop]; omega
theorem markTo_step (xs : List Int) (m : Int) (k : Nat) (h : k < xs.length) : (markTo xs m k).set k (m + k) = markTo xs m (k + 1) := by
  have e : xs.drop k = xs[k] :: xs.drop (k + 1) := List.drop_eq_getElem_cons h
  rw [markTo, markTo, seqL_succ, List.set_append_right _ _ (by rw [seqL_length]; exact Nat.le_refl _), seqL_length, Nat.sub_self, e, List.set_cons_zero, List.append_assoc]
  rfl
theorem grown_trans {a b c : World} {row : Option Nat} (h : a.grownBy b row) (k : b.grownBy c row) : a.grownBy c row :=
  ⟨k.os.trans h.os, k.tape.trans h.tape, k.output.trans h.output, Nat.le_trans h.size k.size, fun i hi hr => (k.block i (Nat.lt_of_lt_of_le hi h.size) hr).trans (h.block i hi hr)⟩
theorem grown_refl (a : World) (row : Option Nat) : a.grownBy a row := ⟨rfl, rfl, rfl, Nat.le_refl _, fun _ _ _ => rfl⟩

/-- what numbering a slice leaves -/
def MarkPost (base : Nat) (v : Value) (n : Nat) (m : Int) (w : World) (e : Ending) (w' : World) : Prop :=
  e = .returned (.int .i64 (m + n)) ∧ w'.ownsRow base 3 1 v n ((seqL m n).map (Value.int .i64)) ∧ w.grownBy w' v.ownBlock

set_option maxHeartbeats 800000 in
theorem markIntS_any (base : Nat) (v : Value) (xs : List Int) (m : Int) (w : World) (h : w.ownsRow base 3 1 v xs.length (xs.map (Value.int .i64))) (hx : xs.length ≤ 1100000) (hm0 : 0 ≤ m) (hm : m ≤ 1000000000) :
    Calls Try.prog 59 #[v, .int .i64 m] w (MarkPost base v xs.length m w) := by
  obtain ⟨a, len, cap, hv, hlen⟩ : ∃ a len cap, v = .slice a len cap ∧ len = xs.length := by
    rcases h.2 with ⟨hv, hn⟩ | ⟨g, cap, cur, hv, _⟩
    · exact ⟨none, 0, 0, hv, hn.symm⟩
    · exact ⟨_, _, _, hv, rfl⟩
  subst hlen
  subst hv
  have HO := Lib.hid h
  clear h
  generalize hL : xs.length = L at *
  have HL := Lib.hid hL
  clear hL
  go_enter Try.func59, Try.ntmps59
  go_wp2
  go_loopw [1, 5] (fun q i wr => ∃ k : Nat, k ≤ L ∧ i = .int .i64 k ∧ q = .int .i64 (m + k) ∧ wr.ownsRow base 3 1 (.slice a L cap) L ((markTo xs m k).map (Value.int .i64)) ∧ w.grownBy wr (Value.slice a L cap).ownBlock) (fun _ i _ => L - (intOf i).toNat)
  case atStart => exact ⟨0, Nat.zero_le _, rfl, by go_num, by rw [markTo_zero]; exact HO.out, grown_refl _ _⟩
  case round =>
    obtain ⟨k, hk, rfl, rfl, hown, hgr⟩ := hrel
    have HG := Lib.hid hgr
    clear hgr
    by_cases hlt : k < L
    · obtain ⟨g, rfl⟩ : ∃ g, a = some ⟨g, 0, none⟩ := by
        rcases hown.2 with ⟨h, _⟩ | ⟨g, cap', cur, h, _⟩
        · cases h; omega
        · cases h; exact ⟨g, rfl⟩
      have hcap : L ≤ cap := by
        rcases hown.2 with ⟨h, _⟩ | ⟨g', cap', cur, h, _, _, h4, _⟩
        · cases h
        · cases h; exact h4
      have hml : (markTo xs m k).length = L := by rw [markTo_length xs m k (by rw [HL.out]; exact hk), HL.out]
      have hcl := hown.cellAt k (by omega)
      obtain ⟨c, hcell⟩ : ∃ c, wr.cell? ⟨g, k, none⟩ = some (.int .i64 c) := ⟨(markTo xs m k)[k]'(by omega), by rw [hcl]; simp [hml, hlt]⟩
      have hfr := hown.frozenAt k
      have hst := hown.stored k (.int .i64 (m + k))
      rw [← List.map_set, markTo_step xs m k (by rw [HL.out]; exact hlt)] at hst
      have HST := Lib.hid hst
      clear hst hcl hml hown
      go_wp2
      go_roundw
      case rel => exact ⟨k + 1, by omega, by go_num, by go_num, HST.out.1, grown_trans HG.out HST.out.2⟩
      case measure => simp [intOf]; omega
    · obtain rfl : k = L := by omega
      have HM := Lib.hid (markTo_all xs m)
      go_wp2
      go_ret
      refine ⟨rfl, ?_, HG.out⟩
      rw [← HL.out, ← HM.out, HL.out]
      exact hown

theorem heldIntS_any (v : Value) (m : Int) (L : Nat) (w : World) (h : IsInts w v (seqL m L)) (hx : L ≤ 1100000) (hm0 : 0 ≤ m) (hm : m ≤ 1000000000) :
    Calls Try.prog 61 #[v, .int .i64 m] w fun e w' => e = .returned (.int .i64 (m + L)) ∧ w = w' := by
  obtain ⟨a, cap, rfl, ha1, ha2, ha⟩ := h
  unfold maxLen at ha2
  rw [seqL_length] at ha1 ⊢
  have HA := Lib.hid ha
  clear ha
  go_enter Try.func61, Try.ntmps61
  go_wp2
  go_loop [1, 5] (fun q i => ∃ k : Nat, k ≤ L ∧ i = .int .i64 k ∧ q = .int .i64 (m + k)) (fun _ i => L - (intOf i).toNat)
  case atStart => exact ⟨0, Nat.zero_le _, rfl, by go_num⟩
  case round =>
    obtain ⟨k, hk, rfl, rfl⟩ := hrel
    by_cases hlt : k < L
    · obtain ⟨g, off, rfl, hg, hc⟩ := HA.out.resolve_left (fun h => by have := seqL_length m L; rw [h] at this; simp at this; omega)
      have hcell := hc k (by rw [seqL_length]; exact hlt)
      rw [seqL_get] at hcell
      clear hc
      have hne : (m + (k : Int) != m + (k : Int)) = false := by simp
      go_wp2
      go_round
      case rel => exact ⟨k + 1, by omega, by go_num, by go_num⟩
      case measure => simp [intOf]; omega
    · obtain rfl : k = L := by omega
      go_wp2
      go_ret
      exact ⟨rfl, rfl⟩
end Go.Proofs.Ytgpjckmmleagbaa

namespace Go.Proofs.Ytgpjckmmleagbaa
open Go.RowKit

set_option maxHeartbeats 800000 in
theorem eqBoolS_any (u v : Value) (xs ys : List Bool) (w : World) (hu : IsBools w u xs) (hv : IsBools w v ys) :
    Calls Try.prog 53 #[u, v] w fun e w' => e = .returned (.bool (xs == ys)) ∧ ∃ n, w' = w.drewN n := by
  obtain ⟨a, cap, rfl, ha1, ha2, ha⟩ := hu
  obtain ⟨b, cbp, rfl, hb1, hb2, hb⟩ := hv
  unfold maxLen at ha2 hb2
  by_cases hlen : xs.length = ys.length
  · have hl' : ((xs.length : Int) != (ys.length : Int)) = false := by simp [hlen]
    have HA := Lib.hid ha
    have HB := Lib.hid hb
    clear ha hb
    have hle : xs.length ≤ ys.length := by omega
    have HLN := Lib.hid hlen
    clear hlen
    go_enter Try.func53, Try.ntmps53
    go_wp2
    go_loopw [5] (fun i wr => ∃ k : Nat, k ≤ xs.length ∧ i = .int .i64 k ∧ (∀ j, j < k → xs.getD j false = ys.getD j false) ∧ ∃ n, wr = w.drewN n) (fun i _ => xs.length - (intOf i).toNat)
    case atStart => exact ⟨0, Nat.zero_le _, rfl, (fun j h => absurd h (Nat.not_lt_zero j)), 0, rfl⟩
    case round =>
      obtain ⟨k, hk, rfl, heq, n, rfl⟩ := hrel
      have HE := Lib.hid heq
      clear heq
      by_cases hlt : k < xs.length
      · obtain ⟨g, off, rfl, hg, hc⟩ := HA.out.resolve_left (fun h => by rw [h] at hlt; exact absurd hlt (Nat.not_lt_zero k))
        obtain ⟨g2, off2, rfl, hg2, hc2⟩ := HB.out.resolve_left (fun h => by rw [h] at hle; have : xs.length ≤ 0 := hle; omega)
        have hlt2 : k < ys.length := by omega
        have hc1 := hc k hlt
        have hd1 := hc2 k hlt2
        clear hc hc2
        have e1 : xs.getD k false = xs[k] := by simp [List.getD, hlt]
        have e2 : ys.getD k false = ys[k] := by simp [List.getD, hlt2]
        by_cases hb : xs[k] = ys[k]
        · have hb' : (xs[k] != ys[k]) = false := by simp [hb]
          have hb2 : (xs[k] == ys[k]) = true := by simp [hb]
          have hb3 : (xs[k] ^^ ys[k]) = false := by simp [hb]
          have HN : Hid (∀ j, j < k + 1 → xs.getD j false = ys.getD j false) := by
            have : ∀ j, j < k + 1 → xs.getD j false = ys.getD j false := fun j hj => by
              by_cases hjk : j = k
              · subst hjk; rw [e1, e2, hb]
              · exact HE.out j (by omega)
            exact Lib.hid this
          clear hb e1 e2
          generalize hW : w.drewN n = W at *
          have HW := Lib.hid hW
          have hc1' : W.cell? ⟨g, off + k, none⟩ = some (.bool xs[k]) := by rw [← hW]; exact hc1
          have hd1' : W.cell? ⟨g2, off2 + k, none⟩ = some (.bool ys[k]) := by rw [← hW]; exact hd1
          clear hW hc1 hd1
          go_wp2
          go_quiet (fail)
          go_wp2
          go_roundw
          case rel => exact ⟨k + 1, by omega, by go_num, HN.out, _, by rw [← HW.out, World.drewN_drewN]⟩
          case measure => simp [intOf]; omega
        · have hb' : (xs[k] != ys[k]) = true := by simpa using hb
          have hb2 : (xs[k] == ys[k]) = false := by simpa using hb
          have hb3 : (xs[k] ^^ ys[k]) = true := by simpa using hb
          have HN : Hid ((xs == ys) = false) := by
            have : (xs == ys) = false := by
              rw [beq_eq_false_iff_ne]
              intro h
              exact hb (by simp only [h])
            exact Lib.hid this
          clear hb e1 e2
          generalize hW : w.drewN n = W at *
          have HW := Lib.hid hW
          have hc1' : W.cell? ⟨g, off + k, none⟩ = some (.bool xs[k]) := by rw [← hW]; exact hc1
          have hd1' : W.cell? ⟨g2, off2 + k, none⟩ = some (.bool ys[k]) := by rw [← hW]; exact hd1
          clear hW hc1 hd1
          go_wp2
          go_quiet (fail)
          go_wp2
          go_ret
          exact ⟨ret_bool HN.out.symm, _, by rw [← HW.out, World.drewN_drewN]⟩
      · obtain rfl : k = xs.length := by omega
        have HN : Hid ((xs == ys) = true) := by
          have : (xs == ys) = true := by
            rw [beq_iff_eq]
            refine List.ext_getElem HLN.out fun i h1 h2 => ?_
            have := HE.out i h1
            simpa [List.getD, h1, h2] using this
          exact Lib.hid this
        go_wp2
        go_ret
        exact ⟨ret_bool HN.out.symm, _, rfl⟩
  · have hl' : ((xs.length : Int) != (ys.length : Int)) = true := by simp; omega
    have HN : Hid ((xs == ys) = false) := by
      have : (xs == ys) = false := by
        rw [beq_eq_false_iff_ne]
        intro h
        exact hlen (by rw [h])
      exact Lib.hid this
    clear hlen ha hb
    go_enter Try.func53, Try.ntmps53
    go_wp2
    go_ret
    exact ⟨ret_bool HN.out.symm, 0, rfl⟩

end Go.Proofs.Ytgpjckmmleagbaa

namespace Go.Proofs.Ytgpjckmmleagbaa
open Go.RowKit

/-- what is left of a room -/
def szOf (n : Nat) (left : Int) : Int := if left < n then -1 else left - n
theorem szIntS_any (v : Value) (xs : List Int) (left : Int) (w : World) (h : IsInts w v xs) (h0 : 0 ≤ left) (h1 : left ≤ 1048576) :
    Calls Try.prog 46 #[v, .int .i64 left] w fun e w' => e = .returned (.int .i64 (szOf xs.length left)) ∧ w = w' := by
  obtain ⟨a, cap, rfl, ha1, ha2, ha⟩ := h
  unfold maxLen at ha2
  clear ha
  by_cases hlt : left < xs.length
  · have HS : Hid (szOf xs.length left = -1) := by have : szOf xs.length left = -1 := by simp [szOf, hlt]
                                                   exact Lib.hid this
    have hlt' : left - xs.length < 0 := by omega
    go_enter Try.func46, Try.ntmps46
    go_wp2
    go_ret
    exact ⟨ret_int HS.out.symm, rfl⟩
  · have HS : Hid (szOf xs.length left = left - xs.length) := by have : szOf xs.length left = left - xs.length := by simp [szOf, hlt]
                                                                 exact Lib.hid this
    have hlt' : ¬ left - xs.length < 0 := by omega
    go_enter Try.func46, Try.ntmps46
    go_wp2
    go_ret
    exact ⟨ret_int HS.out.symm, rfl⟩

theorem szBoolS_any (v : Value) (xs : List Bool) (left : Int) (w : World) (h : IsBools w v xs) (h0 : 0 ≤ left) (h1 : left ≤ 1048576) :
    Calls Try.prog 47 #[v, .int .i64 left] w fun e w' => e = .returned (.int .i64 (szOf xs.length left)) ∧ w = w' := by
  obtain ⟨a, cap, rfl, ha1, ha2, ha⟩ := h
  unfold maxLen at ha2
  clear ha
  by_cases hlt : left < xs.length
  · have HS : Hid (szOf xs.length left = -1) := by have : szOf xs.length left = -1 := by simp [szOf, hlt]
                                                   exact Lib.hid this
    have hlt' : left - xs.length < 0 := by omega
    go_enter Try.func47, Try.ntmps47
    go_wp2
    go_ret
    exact ⟨ret_int HS.out.symm, rfl⟩
  · have HS : Hid (szOf xs.length left = left - xs.length) := by have : szOf xs.length left = left - xs.length := by simp [szOf, hlt]
                                                                 exact Lib.hid this
    have hlt' : ¬ left - xs.length < 0 := by omega
    go_enter Try.func47, Try.ntmps47
    go_wp2
    go_ret
    exact ⟨ret_int HS.out.symm, rfl⟩

/-- szMachine's number -/
def szM (m : M) (left : Int) : Int := if szOf m.next.length left < 0 then -1 else szOf m.ends.length (szOf m.next.length left)
theorem szM_bd {m : M} {left : Int} (h : 0 ≤ szM m left) : m.next.length + m.ends.length ≤ left := by
  by_cases h1 : left < m.next.length
  · simp [szM, szOf, h1] at h
  · by_cases h2 : left - m.next.length < m.ends.length
    · have : ¬ left - m.next.length < 0 := by omega
      simp [szM, szOf, h1, h2, this] at h
    · omega

set_option maxHeartbeats 400000 in
theorem szMachine_any (m : M) (nv ev : Value) (left : Int) (w : World) (h1 : IsInts w nv m.next) (h2 : IsBools w ev m.ends) (h0 : 0 ≤ left) (hl : left ≤ 1048576) :
    Calls Try.prog 15 #[.agg #[.int .i64 m.st, nv, ev], .int .i64 left] w fun e w' => e = .returned (.int .i64 (szM m left)) ∧ Below w.heap.size w w' := by
  obtain ⟨st, xs, bs⟩ := m
  simp only at h1 h2
  have hb : Below w.heap.size w (w.alloc (.cells #[.int .i64 st, nv, ev] 25)) := (Below.refl _ _).alloc (Nat.le_refl _) _
  have C1 := Lib.hid (szIntS_any nv xs left _ (h1.below hb) h0 hl)
  have H2 := Lib.hid (h2.below hb)
  have HB := Lib.hid hb
  have hsz : szOf xs.length left ≤ 1048576 := by unfold szOf; split <;> omega
  clear h1 h2 hb
  by_cases hn : szOf xs.length left < 0
  · have HM : Hid (szM ⟨st, xs, bs⟩ left = -1) := by have : szM ⟨st, xs, bs⟩ left = -1 := by simp [szM, hn]
                                                     exact Lib.hid this
    go_enter Try.func15, Try.ntmps15
    go_wp2_with fail
    refine C1.out.mono ?_
    rintro e w1 ⟨rfl, rfl⟩
    go_wp2_with fail
    go_ret
    exact ⟨ret_int HM.out.symm, HB.out⟩
  · have HM : Hid (szM ⟨st, xs, bs⟩ left = szOf bs.length (szOf xs.length left)) := by have : szM ⟨st, xs, bs⟩ left = szOf bs.length (szOf xs.length left) := by simp [szM, hn]
                                                                                       exact Lib.hid this
    have C2 := Lib.hid (szBoolS_any ev bs (szOf xs.length left) _ H2.out (by omega) hsz)
    generalize szOf xs.length left = l1 at *
    go_enter Try.func15, Try.ntmps15
    go_wp2_with fail
    refine C1.out.mono ?_
    rintro e w1 ⟨rfl, rfl⟩
    go_wp2_with fail
    refine C2.out.mono ?_
    rintro e w1 ⟨rfl, rfl⟩
    by_cases hn2 : szOf bs.length l1 < 0
    · have HE : Hid (szOf bs.length l1 = -1) := by
        have : szOf bs.length l1 = -1 := by unfold szOf at hn2 ⊢; split <;> rename_i h <;> simp only [h, if_true, if_false] at hn2 <;> omega
        exact Lib.hid this
      go_wp2_with fail
      go_ret
      exact ⟨ret_int (by rw [HM.out, HE.out]), HB.out⟩
    · go_wp2_with fail
      go_ret
      exact ⟨ret_int HM.out.symm, HB.out⟩

theorem owns_slice {w : World} {base : Nat} {e : TypeId} {size : Nat} {v : Value} {n : Nat} {xs : List Value} (h : w.ownsRow base e size v n xs) : ∃ a k p, v = .slice a k p := by
  rcases h.2 with ⟨h, _⟩ | ⟨g, cap, cur, h, _⟩
  · exact ⟨_, _, _, h⟩
  · exact ⟨_, _, _, h⟩
theorem owns_below {w w' : World} {base : Nat} {e : TypeId} {size : Nat} {v : Value} {n : Nat} {xs : List Value} (h : w.ownsRow base e size v n xs) (hb : Below w.heap.size w w') : w'.ownsRow base e size v n xs :=
  h.kept (row := none) ⟨hb.os, hb.tape, hb.output, hb.size, fun k hk _ => hb.block k hk⟩ (by cases v.ownBlock <;> simp)

/-- a fresh machine -/
def MachPost (m : M) (w : World) (e : Ending) (w' : World) : Prop := ∃ nv ev, e = .returned (.agg #[.int .i64 m.st, nv, ev]) ∧ IsInts w' nv m.next ∧ IsBools w' ev m.ends ∧ Below w.heap.size w w'

set_option maxHeartbeats 800000 in
theorem toMachine_any (m : M) (nv ev : Value) (w : World) (h1 : IsInts w nv m.next) (h2 : IsBools w ev m.ends) (hx1 : m.next.length ≤ 1048576) (hx2 : m.ends.length ≤ 1048576) :
    Calls Try.prog 17 #[.agg #[.int .i64 m.st, nv, ev]] w (MachPost m w) := by
  obtain ⟨st, xs, bs⟩ := m
  simp only at h1 h2 hx1 hx2
  have H1 := Lib.hid h1
  have H2 := Lib.hid h2
  clear h1 h2
  go_enter Try.func17, Try.ntmps17
  go_wp2_with fail
  have hB0 : Below w.heap.size w (((w.alloc (.cells #[.int .i64 st, nv, ev] 25)).alloc (.cells #[.int .i64 0, .slice none 0 0, .slice none 0 0] 28)).alloc (.cells #[.int .i64 st, .slice none 0 0, .slice none 0 0] 28)) := (((Below.refl _ _).alloc (Nat.le_refl _) _).alloc (by simp) _).alloc (by simp; omega) _
  refine (toIntS_any nv xs _ (H1.out.below hB0) hx1).mono ?_
  rintro e w1 ⟨nv', rfl, ho1, hb1⟩
  obtain ⟨a1, n1, p1, rfl⟩ := owns_slice ho1
  simp only [World.size_alloc] at ho1 hb1
  have HO1 := Lib.hid ho1
  clear ho1
  have s1 := hb1.size
  simp only [World.size_alloc] at s1
  have c02 : w1.cell? ⟨w.heap.size, 2, none⟩ = some ev := (hb1.cell (p := ⟨w.heap.size, 2, none⟩) (by show w.heap.size < _; omega)).trans (by go_simp)
  have c10 : w1.cell? ⟨w.heap.size + 1, 0, none⟩ = some (.int .i64 0) := (hb1.cell (p := ⟨w.heap.size + 1, 0, none⟩) (by show w.heap.size + 1 < _; omega)).trans (by go_simp)
  have c11 : w1.cell? ⟨w.heap.size + 1, 1, none⟩ = some (.slice none 0 0) := (hb1.cell (p := ⟨w.heap.size + 1, 1, none⟩) (by show w.heap.size + 1 < _; omega)).trans (by go_simp)
  have c12 : w1.cell? ⟨w.heap.size + 1, 2, none⟩ = some (.slice none 0 0) := (hb1.cell (p := ⟨w.heap.size + 1, 2, none⟩) (by show w.heap.size + 1 < _; omega)).trans (by go_simp)
  have c20 : w1.cell? ⟨w.heap.size + 1 + 1, 0, none⟩ = some (.int .i64 st) := (hb1.cell (p := ⟨w.heap.size + 1 + 1, 0, none⟩) (by show w.heap.size + 1 + 1 < _; omega)).trans (by go_simp)
  have c21 : w1.cell? ⟨w.heap.size + 1 + 1, 1, none⟩ = some (.slice none 0 0) := (hb1.cell (p := ⟨w.heap.size + 1 + 1, 1, none⟩) (by show w.heap.size + 1 + 1 < _; omega)).trans (by go_simp)
  have c22 : w1.cell? ⟨w.heap.size + 1 + 1, 2, none⟩ = some (.slice none 0 0) := (hb1.cell (p := ⟨w.heap.size + 1 + 1, 2, none⟩) (by show w.heap.size + 1 + 1 < _; omega)).trans (by go_simp)
  have f1 : ∀ j, w1.frozen? ⟨w.heap.size + 1, j, none⟩ = false := fun j => (hb1.frozen (p := ⟨w.heap.size + 1, j, none⟩) (by show w.heap.size + 1 < _; omega)).trans (by go_simp)
  have f2 : ∀ j, w1.frozen? ⟨w.heap.size + 1 + 1, j, none⟩ = false := fun j => (hb1.frozen (p := ⟨w.heap.size + 1 + 1, j, none⟩) (by show w.heap.size + 1 + 1 < _; omega)).trans (by go_simp)
  have hb1' : Below w.heap.size w w1 := hB0.trans (hb1.mono (by omega))
  clear hb1 hB0
  go_wp2_with fail
  generalize hW2 : w1.setCell ⟨w.heap.size + 1 + 1, 1, none⟩ (.slice a1 n1 p1) = w2
  have hb2 : Below w.heap.size w w2 := by rw [← hW2]; exact hb1'.setCell (p := ⟨w.heap.size + 1 + 1, 1, none⟩) (by show _ ≤ w.heap.size + 1 + 1; omega) _
  have ho2 : w2.ownsRow (w.heap.size + 1 + 1 + 1) 3 1 (.slice a1 n1 p1) xs.length (xs.map (Value.int .i64)) := by rw [← hW2]; exact ownsRow_setCell_below HO1.out (a := ⟨w.heap.size + 1 + 1, 1, none⟩) (by show w.heap.size + 1 + 1 < _; omega) _
  have s2 : w1.heap.size = w2.heap.size := by rw [← hW2]; simp
  have d10 : w2.cell? ⟨w.heap.size + 1, 0, none⟩ = some (.int .i64 0) := by rw [← hW2, World.cell?_setCell_other _ _ _ _ (by simp)]; exact c10
  have d11 : w2.cell? ⟨w.heap.size + 1, 1, none⟩ = some (.slice none 0 0) := by rw [← hW2, World.cell?_setCell_other _ _ _ _ (by simp)]; exact c11
  have d12 : w2.cell? ⟨w.heap.size + 1, 2, none⟩ = some (.slice none 0 0) := by rw [← hW2, World.cell?_setCell_other _ _ _ _ (by simp)]; exact c12
  have d20 : w2.cell? ⟨w.heap.size + 1 + 1, 0, none⟩ = some (.int .i64 st) := by rw [← hW2, World.cell?_setCell_other _ _ _ _ (by simp)]; exact c20
  have d21 : w2.cell? ⟨w.heap.size + 1 + 1, 1, none⟩ = some (.slice a1 n1 p1) := by rw [← hW2]; exact World.cell?_setCell_same' _ _ _ (by rw [c21]; rfl)
  have d22 : w2.cell? ⟨w.heap.size + 1 + 1, 2, none⟩ = some (.slice none 0 0) := by rw [← hW2, World.cell?_setCell_other _ _ _ _ (by simp)]; exact c22
  have g1 : ∀ j, w2.frozen? ⟨w.heap.size + 1, j, none⟩ = false := fun j => by rw [← hW2, World.frozen?_setCell]; exact f1 j
  have g2 : ∀ j, w2.frozen? ⟨w.heap.size + 1 + 1, j, none⟩ = false := fun j => by rw [← hW2, World.frozen?_setCell]; exact f2 j
  clear hW2 c02 c10 c11 c12 c20 c21 c22 f1 f2 HO1 hb1'
  refine (toBoolS_any ev bs w2 (H2.out.below hb2) hx2).mono ?_
  rintro e w3 ⟨ev', rfl, ho3, hb3⟩
  obtain ⟨a3, n3, p3, rfl⟩ := owns_slice ho3
  have HO3 := Lib.hid ho3
  have HO2 := Lib.hid (owns_below ho2 hb3)
  clear ho3 ho2
  have s3 := hb3.size
  have c10 : w3.cell? ⟨w.heap.size + 1, 0, none⟩ = some (.int .i64 0) := (hb3.cell (p := ⟨w.heap.size + 1, 0, none⟩) (by show w.heap.size + 1 < _; omega)).trans (by assumption)
  have c11 : w3.cell? ⟨w.heap.size + 1, 1, none⟩ = some (.slice none 0 0) := (hb3.cell (p := ⟨w.heap.size + 1, 1, none⟩) (by show w.heap.size + 1 < _; omega)).trans (by assumption)
  have c12 : w3.cell? ⟨w.heap.size + 1, 2, none⟩ = some (.slice none 0 0) := (hb3.cell (p := ⟨w.heap.size + 1, 2, none⟩) (by show w.heap.size + 1 < _; omega)).trans (by assumption)
  have c20 : w3.cell? ⟨w.heap.size + 1 + 1, 0, none⟩ = some (.int .i64 st) := (hb3.cell (p := ⟨w.heap.size + 1 + 1, 0, none⟩) (by show w.heap.size + 1 + 1 < _; omega)).trans (by assumption)
  have c21 : w3.cell? ⟨w.heap.size + 1 + 1, 1, none⟩ = some (.slice a1 n1 p1) := (hb3.cell (p := ⟨w.heap.size + 1 + 1, 1, none⟩) (by show w.heap.size + 1 + 1 < _; omega)).trans (by assumption)
  have c22 : w3.cell? ⟨w.heap.size + 1 + 1, 2, none⟩ = some (.slice none 0 0) := (hb3.cell (p := ⟨w.heap.size + 1 + 1, 2, none⟩) (by show w.heap.size + 1 + 1 < _; omega)).trans (by assumption)
  have f1 : ∀ j, w3.frozen? ⟨w.heap.size + 1, j, none⟩ = false := fun j => (hb3.frozen (p := ⟨w.heap.size + 1, j, none⟩) (by show w.heap.size + 1 < _; omega)).trans (g1 j)
  have f2 : ∀ j, w3.frozen? ⟨w.heap.size + 1 + 1, j, none⟩ = false := fun j => (hb3.frozen (p := ⟨w.heap.size + 1 + 1, j, none⟩) (by show w.heap.size + 1 + 1 < _; omega)).trans (g2 j)
  have hb3' : Below w.heap.size w w3 := hb2.trans (hb3.mono hb2.size)
  clear d10 d11 d12 d20 d21 d22 g1 g2 hb2 hb3
  have q10 := f1 0
  have q11 := f1 1
  have q12 := f1 2
  have q22 := f2 2
  clear f1 f2
  go_wp2
  have e1 : ∀ (W : World), W = (((w3.setCell ⟨w.heap.size + 1 + 1, 2, none⟩ (.slice a3 n3 p3)).setCell ⟨w.heap.size + 1, 0, none⟩ (.int .i64 st)).setCell ⟨w.heap.size + 1, 1, none⟩ (.slice a1 n1 p1)).setCell ⟨w.heap.size + 1, 2, none⟩ (.slice a3 n3 p3) →
      W.cell? ⟨w.heap.size + 1, 0, none⟩ = some (.int .i64 st) ∧ W.cell? ⟨w.heap.size + 1, 1, none⟩ = some (.slice a1 n1 p1) ∧ W.cell? ⟨w.heap.size + 1, 2, none⟩ = some (.slice a3 n3 p3) ∧ IsInts W (.slice a1 n1 p1) xs ∧ IsBools W (.slice a3 n3 p3) bs ∧ Below w.heap.size w W := by
    rintro W rfl
    refine ⟨by go_simp, by go_simp, by go_simp, ?_, ?_, ?_⟩
    · exact IsInts.of_owns (ownsRow_setCell_below (ownsRow_setCell_below (ownsRow_setCell_below (ownsRow_setCell_below HO2.out (a := ⟨w.heap.size + 1 + 1, 2, none⟩) (by show w.heap.size + 1 + 1 < _; omega) _) (a := ⟨w.heap.size + 1, 0, none⟩) (by show w.heap.size + 1 < _; omega) _) (a := ⟨w.heap.size + 1, 1, none⟩) (by show w.heap.size + 1 < _; omega) _) (a := ⟨w.heap.size + 1, 2, none⟩) (by show w.heap.size + 1 < _; omega) _)
    · exact IsBools.of_owns (ownsRow_setCell_below (ownsRow_setCell_below (ownsRow_setCell_below (ownsRow_setCell_below HO3.out (a := ⟨w.heap.size + 1 + 1, 2, none⟩) (by show w.heap.size + 1 + 1 < _; omega) _) (a := ⟨w.heap.size + 1, 0, none⟩) (by show w.heap.size + 1 < _; omega) _) (a := ⟨w.heap.size + 1, 1, none⟩) (by show w.heap.size + 1 < _; omega) _) (a := ⟨w.heap.size + 1, 2, none⟩) (by show w.heap.size + 1 < _; omega) _)
    · exact (((hb3'.setCell (p := ⟨w.heap.size + 1 + 1, 2, none⟩) (by show _ ≤ w.heap.size + 1 + 1; omega) _).setCell (p := ⟨w.heap.size + 1, 0, none⟩) (by show _ ≤ w.heap.size + 1; omega) _).setCell (p := ⟨w.heap.size + 1, 1, none⟩) (by show _ ≤ w.heap.size + 1; omega) _).setCell (p := ⟨w.heap.size + 1, 2, none⟩) (by show _ ≤ w.heap.size + 1; omega) _
  obtain ⟨x0, x1, x2, hi, hbo, hbe⟩ := e1 _ rfl
  refine bodyPost_ret (v := .agg #[.int .i64 st, .slice a1 n1 p1, .slice a3 n3 p3]) ?_ rfl ⟨_, _, rfl, hi, hbo, hbe⟩
  simp [results, Try.results17, go_sem, x0, x1, x2]

set_option maxHeartbeats 800000 in
theorem eqMachine_same (m : M) (nv ev nv' ev' : Value) (w : World) (h1 : IsInts w nv m.next) (h2 : IsBools w ev m.ends) (h3 : IsInts w nv' m.next) (h4 : IsBools w ev' m.ends) :
    Calls Try.prog 19 #[.agg #[.int .i64 m.st, nv, ev], .agg #[.int .i64 m.st, nv', ev']] w fun e w' => e = .returned (.bool true) ∧ Below w.heap.size w w' := by
  obtain ⟨st, xs, bs⟩ := m
  simp only at h1 h2 h3 h4 ⊢
  have hB : Below w.heap.size w ((w.alloc (.cells #[.int .i64 st, nv, ev] 28)).alloc (.cells #[.int .i64 st, nv', ev'] 28)) := ((Below.refl _ _).alloc (Nat.le_refl _) _).alloc (by simp) _
  have C1 := Lib.hid (eqIntS_any nv nv' xs xs _ (h1.below hB) (h3.below hB))
  have HX : Hid ((xs == xs) = true) := by have : (xs == xs) = true := by simp
                                          exact Lib.hid this
  have HY : Hid ((bs == bs) = true) := by have : (bs == bs) = true := by simp
                                          exact Lib.hid this
  have H2 := Lib.hid (h2.below hB)
  have H4 := Lib.hid (h4.below hB)
  have HB := Lib.hid hB
  clear h1 h2 h3 h4 hB
  have hne : (st != st) = false := by simp
  go_enter Try.func19, Try.ntmps19
  go_wp2_with fail
  refine C1.out.mono ?_
  rintro e w1 ⟨rfl, n1, rfl⟩
  rw [HX.out]
  have hd := below_drewN (Below.refl (((w.alloc (.cells #[.int .i64 st, nv, ev] 28)).alloc (.cells #[.int .i64 st, nv', ev'] 28))).heap.size ((w.alloc (.cells #[.int .i64 st, nv, ev] 28)).alloc (.cells #[.int .i64 st, nv', ev'] 28))) n1
  have C2 := Lib.hid (eqBoolS_any ev ev' bs bs _ (H2.out.below hd) (H4.out.below hd))
  clear hd
  go_wp2_with fail
  refine C2.out.mono ?_
  rintro e w1 ⟨rfl, n2, rfl⟩
  rw [HY.out]
  go_wp2_with fail
  go_ret
  exact ⟨rfl, below_drewN HB.out _⟩
end Go.Proofs.Ytgpjckmmleagbaa

namespace Go.Proofs.Ytgpjckmmleagbaa
open Go.RowKit

theorem apart_one {C : Nat} {w : World} {e : TypeId} {size : Nat} {v : Value} {n : Nat} {xs : List Value} (h : w.ownsRow C e size v n xs) : Apart C [rowT e size v n xs] w :=
  ⟨fun u hu => by
    rw [List.mem_singleton.1 hu]
    exact ⟨ownsRow_base h (fun _ _ => Nat.zero_le _), h.lt⟩, List.pairwise_singleton _ _⟩
theorem apart_row {C : Nat} {ts : List Thing} {w w' : World} {e : TypeId} {size : Nat} {v : Value} {n : Nat} {xs : List Value} (hA : Apart C ts w) (hb : Below w.heap.size w w') (h : w'.ownsRow w.heap.size e size v n xs) (hC : C ≤ w.heap.size) :
    Apart C (rowT e size v n xs :: ts) w' :=
  hA.more ⟨hb.os, hb.tape, hb.output, hb.size, fun k hk _ => hb.block k hk⟩ _ (ownsRow_base h (fun _ _ => Nat.zero_le _)) hC h.lt

set_option maxHeartbeats 800000 in
theorem toMachine_new (m : M) (nv ev : Value) (w : World) (h1 : IsInts w nv m.next) (h2 : IsBools w ev m.ends) (hx1 : m.next.length ≤ 1048576) (hx2 : m.ends.length ≤ 1048576) :
    Calls Try.prog 17 #[.agg #[.int .i64 m.st, nv, ev]] w (MachNew m w) := by
  obtain ⟨st, xs, bs⟩ := m
  simp only at h1 h2 hx1 hx2
  have H1 := Lib.hid h1
  have H2 := Lib.hid h2
  clear h1 h2
  go_enter Try.func17, Try.ntmps17
  go_wp2_with fail
  have hB0 : Below w.heap.size w (((w.alloc (.cells #[.int .i64 st, nv, ev] 25)).alloc (.cells #[.int .i64 0, .slice none 0 0, .slice none 0 0] 28)).alloc (.cells #[.int .i64 st, .slice none 0 0, .slice none 0 0] 28)) := (((Below.refl _ _).alloc (Nat.le_refl _) _).alloc (by simp) _).alloc (by simp; omega) _
  refine (toIntS_any nv xs _ (H1.out.below hB0) hx1).mono ?_
  rintro e w1 ⟨nv', rfl, ho1, hb1⟩
  obtain ⟨a1, p1, rfl⟩ := ownsRow_slice ho1
  simp only [World.size_alloc] at ho1 hb1
  have HO1 := Lib.hid ho1
  clear ho1
  have s1 := hb1.size
  simp only [World.size_alloc] at s1
  have c02 : w1.cell? ⟨w.heap.size, 2, none⟩ = some ev := (hb1.cell (p := ⟨w.heap.size, 2, none⟩) (by show w.heap.size < _; omega)).trans (by go_simp)
  have c10 : w1.cell? ⟨w.heap.size + 1, 0, none⟩ = some (.int .i64 0) := (hb1.cell (p := ⟨w.heap.size + 1, 0, none⟩) (by show w.heap.size + 1 < _; omega)).trans (by go_simp)
  have c11 : w1.cell? ⟨w.heap.size + 1, 1, none⟩ = some (.slice none 0 0) := (hb1.cell (p := ⟨w.heap.size + 1, 1, none⟩) (by show w.heap.size + 1 < _; omega)).trans (by go_simp)
  have c12 : w1.cell? ⟨w.heap.size + 1, 2, none⟩ = some (.slice none 0 0) := (hb1.cell (p := ⟨w.heap.size + 1, 2, none⟩) (by show w.heap.size + 1 < _; omega)).trans (by go_simp)
  have c20 : w1.cell? ⟨w.heap.size + 1 + 1, 0, none⟩ = some (.int .i64 st) := (hb1.cell (p := ⟨w.heap.size + 1 + 1, 0, none⟩) (by show w.heap.size + 1 + 1 < _; omega)).trans (by go_simp)
  have c21 : w1.cell? ⟨w.heap.size + 1 + 1, 1, none⟩ = some (.slice none 0 0) := (hb1.cell (p := ⟨w.heap.size + 1 + 1, 1, none⟩) (by show w.heap.size + 1 + 1 < _; omega)).trans (by go_simp)
  have c22 : w1.cell? ⟨w.heap.size + 1 + 1, 2, none⟩ = some (.slice none 0 0) := (hb1.cell (p := ⟨w.heap.size + 1 + 1, 2, none⟩) (by show w.heap.size + 1 + 1 < _; omega)).trans (by go_simp)
  have f1 : ∀ j, w1.frozen? ⟨w.heap.size + 1, j, none⟩ = false := fun j => (hb1.frozen (p := ⟨w.heap.size + 1, j, none⟩) (by show w.heap.size + 1 < _; omega)).trans (by go_simp)
  have f2 : ∀ j, w1.frozen? ⟨w.heap.size + 1 + 1, j, none⟩ = false := fun j => (hb1.frozen (p := ⟨w.heap.size + 1 + 1, j, none⟩) (by show w.heap.size + 1 + 1 < _; omega)).trans (by go_simp)
  have hb1' : Below w.heap.size w w1 := hB0.trans (hb1.mono (by omega))
  clear hb1 hB0
  go_wp2_with fail
  generalize hW2 : w1.setCell ⟨w.heap.size + 1 + 1, 1, none⟩ (.slice a1 xs.length p1) = w2
  have hb2 : Below w.heap.size w w2 := by rw [← hW2]; exact hb1'.setCell (p := ⟨w.heap.size + 1 + 1, 1, none⟩) (by show _ ≤ w.heap.size + 1 + 1; omega) _
  have ho2 : w2.ownsRow (w.heap.size + 1 + 1 + 1) 3 1 (.slice a1 xs.length p1) xs.length (xs.map (Value.int .i64)) := by rw [← hW2]; exact ownsRow_setCell_below HO1.out (a := ⟨w.heap.size + 1 + 1, 1, none⟩) (by show w.heap.size + 1 + 1 < _; omega) _
  have s2 : w1.heap.size = w2.heap.size := by rw [← hW2]; simp
  have d10 : w2.cell? ⟨w.heap.size + 1, 0, none⟩ = some (.int .i64 0) := by rw [← hW2, World.cell?_setCell_other _ _ _ _ (by simp)]; exact c10
  have d11 : w2.cell? ⟨w.heap.size + 1, 1, none⟩ = some (.slice none 0 0) := by rw [← hW2, World.cell?_setCell_other _ _ _ _ (by simp)]; exact c11
  have d12 : w2.cell? ⟨w.heap.size + 1, 2, none⟩ = some (.slice none 0 0) := by rw [← hW2, World.cell?_setCell_other _ _ _ _ (by simp)]; exact c12
  have d20 : w2.cell? ⟨w.heap.size + 1 + 1, 0, none⟩ = some (.int .i64 st) := by rw [← hW2, World.cell?_setCell_other _ _ _ _ (by simp)]; exact c20
  have d21 : w2.cell? ⟨w.heap.size + 1 + 1, 1, none⟩ = some (.slice a1 xs.length p1) := by rw [← hW2]; exact World.cell?_setCell_same' _ _ _ (by rw [c21]; rfl)
  have d22 : w2.cell? ⟨w.heap.size + 1 + 1, 2, none⟩ = some (.slice none 0 0) := by rw [← hW2, World.cell?_setCell_other _ _ _ _ (by simp)]; exact c22
  have g1 : ∀ j, w2.frozen? ⟨w.heap.size + 1, j, none⟩ = false := fun j => by rw [← hW2, World.frozen?_setCell]; exact f1 j
  have g2 : ∀ j, w2.frozen? ⟨w.heap.size + 1 + 1, j, none⟩ = false := fun j => by rw [← hW2, World.frozen?_setCell]; exact f2 j
  clear hW2 c02 c10 c11 c12 c20 c21 c22 f1 f2 HO1 hb1'
  refine (toBoolS_any ev bs w2 (H2.out.below hb2) hx2).mono ?_
  rintro e w3 ⟨ev', rfl, ho3, hb3⟩
  obtain ⟨a3, p3, rfl⟩ := ownsRow_slice ho3
  have AA := Lib.hid ((apart_row (apart_one ho2) hb3 ho3 (by omega)).perm (List.Perm.swap _ _ _))
  clear ho3 ho2
  have s3 := hb3.size
  have c10 : w3.cell? ⟨w.heap.size + 1, 0, none⟩ = some (.int .i64 0) := (hb3.cell (p := ⟨w.heap.size + 1, 0, none⟩) (by show w.heap.size + 1 < _; omega)).trans (by assumption)
  have c11 : w3.cell? ⟨w.heap.size + 1, 1, none⟩ = some (.slice none 0 0) := (hb3.cell (p := ⟨w.heap.size + 1, 1, none⟩) (by show w.heap.size + 1 < _; omega)).trans (by assumption)
  have c12 : w3.cell? ⟨w.heap.size + 1, 2, none⟩ = some (.slice none 0 0) := (hb3.cell (p := ⟨w.heap.size + 1, 2, none⟩) (by show w.heap.size + 1 < _; omega)).trans (by assumption)
  have c20 : w3.cell? ⟨w.heap.size + 1 + 1, 0, none⟩ = some (.int .i64 st) := (hb3.cell (p := ⟨w.heap.size + 1 + 1, 0, none⟩) (by show w.heap.size + 1 + 1 < _; omega)).trans (by assumption)
  have c21 : w3.cell? ⟨w.heap.size + 1 + 1, 1, none⟩ = some (.slice a1 xs.length p1) := (hb3.cell (p := ⟨w.heap.size + 1 + 1, 1, none⟩) (by show w.heap.size + 1 + 1 < _; omega)).trans (by assumption)
  have c22 : w3.cell? ⟨w.heap.size + 1 + 1, 2, none⟩ = some (.slice none 0 0) := (hb3.cell (p := ⟨w.heap.size + 1 + 1, 2, none⟩) (by show w.heap.size + 1 + 1 < _; omega)).trans (by assumption)
  have f1 : ∀ j, w3.frozen? ⟨w.heap.size + 1, j, none⟩ = false := fun j => (hb3.frozen (p := ⟨w.heap.size + 1, j, none⟩) (by show w.heap.size + 1 < _; omega)).trans (g1 j)
  have f2 : ∀ j, w3.frozen? ⟨w.heap.size + 1 + 1, j, none⟩ = false := fun j => (hb3.frozen (p := ⟨w.heap.size + 1 + 1, j, none⟩) (by show w.heap.size + 1 + 1 < _; omega)).trans (g2 j)
  have hb3' : Below w.heap.size w w3 := hb2.trans (hb3.mono hb2.size)
  clear d10 d11 d12 d20 d21 d22 g1 g2 hb2 hb3
  have q10 := f1 0
  have q11 := f1 1
  have q12 := f1 2
  have q22 := f2 2
  clear f1 f2
  go_wp2
  have hlt2 : ∀ k, (some (w.heap.size + 1 + 1) : Option Nat) = some k → k < w.heap.size + 1 + 1 + 1 := fun k e => by cases e; omega
  have hlt1 : ∀ k, (some (w.heap.size + 1) : Option Nat) = some k → k < w.heap.size + 1 + 1 + 1 := fun k e => by cases e; omega
  have e1 : ∀ (W : World), W = (((w3.setCell ⟨w.heap.size + 1 + 1, 2, none⟩ (.slice a3 bs.length p3)).setCell ⟨w.heap.size + 1, 0, none⟩ (.int .i64 st)).setCell ⟨w.heap.size + 1, 1, none⟩ (.slice a1 xs.length p1)).setCell ⟨w.heap.size + 1, 2, none⟩ (.slice a3 bs.length p3) →
      W.cell? ⟨w.heap.size + 1, 0, none⟩ = some (.int .i64 st) ∧ W.cell? ⟨w.heap.size + 1, 1, none⟩ = some (.slice a1 xs.length p1) ∧ W.cell? ⟨w.heap.size + 1, 2, none⟩ = some (.slice a3 bs.length p3) ∧
      Apart w.heap.size [rowT 3 1 (.slice a1 xs.length p1) xs.length (xs.map (Value.int .i64)), rowT 4 1 (.slice a3 bs.length p3) bs.length (bs.map Value.bool)] W ∧ Below w.heap.size w W := by
    rintro W rfl
    refine ⟨by go_simp, by go_simp, by go_simp, ?_, ?_⟩
    · exact ((((AA.out.other (grown_setCell _ _ _ _) hlt2).other (grown_setCell _ _ _ _) hlt1).other (grown_setCell _ _ _ _) hlt1).other (grown_setCell _ _ _ _) hlt1).mono (by omega)
    · exact (((hb3'.setCell (p := ⟨w.heap.size + 1 + 1, 2, none⟩) (by show _ ≤ w.heap.size + 1 + 1; omega) _).setCell (p := ⟨w.heap.size + 1, 0, none⟩) (by show _ ≤ w.heap.size + 1; omega) _).setCell (p := ⟨w.heap.size + 1, 1, none⟩) (by show _ ≤ w.heap.size + 1; omega) _).setCell (p := ⟨w.heap.size + 1, 2, none⟩) (by show _ ≤ w.heap.size + 1; omega) _
  obtain ⟨x0, x1, x2, hA, hbe⟩ := e1 _ rfl
  refine bodyPost_ret (v := .agg #[.int .i64 st, .slice a1 xs.length p1, .slice a3 bs.length p3]) ?_ rfl ⟨_, _, _, _, rfl, hA, hbe⟩
  simp [results, Try.results17, go_sem, x0, x1, x2]
end Go.Proofs.Ytgpjckmmleagbaa

namespace Go.Proofs.Ytgpjckmmleagbaa
open Go.RowKit

/-- the bools that are laid -/
def seqB (m : Int) (n : Nat) : List Bool := (List.range n).map (fun i : Nat => ((m + (i : Int)) % 3 == 0))
theorem seqB_length (m : Int) (n : Nat) : (seqB m n).length = n := by simp [seqB]
theorem seqB_succ (m : Int) (n : Nat) : seqB m (n + 1) = seqB m n ++ [((m + (n : Int)) % 3 == 0)] := by simp [seqB, List.range_succ]
theorem seqB_get (m : Int) (n k : Nat) (h : k < (seqB m n).length) : (seqB m n)[k] = ((m + (k : Int)) % 3 == 0) := by simp [seqB]
def markToB (xs : List Bool) (m : Int) (k : Nat) : List Bool := seqB m k ++ xs.drop k
theorem markToB_zero (xs : List Bool) (m : Int) : markToB xs m 0 = xs := by simp [markToB, seqB]
theorem markToB_all (xs : List Bool) (m : Int) : markToB xs m xs.length = seqB m xs.length := by simp [markToB]
theorem markToB_length (xs : List Bool) (m : Int) (k : Nat) (h : k ≤ xs.length) : (markToB xs m k).length = xs.length := by
  rw [markToB, List.length_append, seqB_length, List.length_drop]; omega
theorem markToB_step (xs : List Bool) (m : Int) (k : Nat) (h : k < xs.length) : (markToB xs m k).set k ((m + (k : Int)) % 3 == 0) = markToB xs m (k + 1) := by
  have e : xs.drop k = xs[k] :: xs.drop (k + 1) := List.drop_eq_getElem_cons h
  rw [markToB, markToB, seqB_succ, List.set_append_right _ _ (by rw [seqB_length]; exact Nat.le_refl _), seqB_length, Nat.sub_self, e, List.set_cons_zero, List.append_assoc]
  rfl
def MarkPostB (base : Nat) (v : Value) (n : Nat) (m : Int) (w : World) (e : Ending) (w' : World) : Prop :=
  e = .returned (.int .i64 (m + n)) ∧ w'.ownsRow base 4 1 v n ((seqB m n).map Value.bool) ∧ w.grownBy w' v.ownBlock

set_option maxHeartbeats 800000 in
theorem markBoolS_any (base : Nat) (v : Value) (xs : List Bool) (m : Int) (w : World) (h : w.ownsRow base 4 1 v xs.length (xs.map Value.bool)) (hx : xs.length ≤ 1100000) (hm0 : 0 ≤ m) (hm : m ≤ 1000000000) :
    Calls Try.prog 60 #[v, .int .i64 m] w (MarkPostB base v xs.length m w) := by
  obtain ⟨a, len, cap, hv, hlen⟩ : ∃ a len cap, v = .slice a len cap ∧ len = xs.length := by
    rcases h.2 with ⟨hv, hn⟩ | ⟨g, cap, cur, hv, _⟩
    · exact ⟨none, 0, 0, hv, hn.symm⟩
    · exact ⟨_, _, _, hv, rfl⟩
  subst hlen
  subst hv
  have HO := Lib.hid h
  clear h
  generalize hL : xs.length = L at *
  have HL := Lib.hid hL
  clear hL
  go_enter Try.func60, Try.ntmps60
  go_wp2
  go_loopw [1, 5] (fun q i wr => ∃ k : Nat, k ≤ L ∧ i = .int .i64 k ∧ q = .int .i64 (m + k) ∧ wr.ownsRow base 4 1 (.slice a L cap) L ((markToB xs m k).map Value.bool) ∧ w.grownBy wr (Value.slice a L cap).ownBlock) (fun _ i _ => L - (intOf i).toNat)
  case atStart => exact ⟨0, Nat.zero_le _, rfl, by go_num, by rw [markToB_zero]; exact HO.out, grown_refl _ _⟩
  case round =>
    obtain ⟨k, hk, rfl, rfl, hown, hgr⟩ := hrel
    have HG := Lib.hid hgr
    clear hgr
    by_cases hlt : k < L
    · obtain ⟨g, rfl⟩ : ∃ g, a = some ⟨g, 0, none⟩ := by
        rcases hown.2 with ⟨h, _⟩ | ⟨g, cap', cur, h, _⟩
        · cases h; omega
        · cases h; exact ⟨g, rfl⟩
      have hcap : L ≤ cap := by
        rcases hown.2 with ⟨h, _⟩ | ⟨g', cap', cur, h, _, _, h4, _⟩
        · cases h
        · cases h; exact h4
      have hml : (markToB xs m k).length = L := by rw [markToB_length xs m k (by rw [HL.out]; exact hk), HL.out]
      have hcl := hown.cellAt k (by omega)
      obtain ⟨c, hcell⟩ : ∃ c, wr.cell? ⟨g, k, none⟩ = some (.bool c) := ⟨(markToB xs m k)[k]'(by omega), by rw [hcl]; simp [hml, hlt]⟩
      have hfr := hown.frozenAt k
      have hst := hown.stored k (.bool ((m + (k : Int)) % 3 == 0))
      rw [← List.map_set, markToB_step xs m k (by rw [HL.out]; exact hlt)] at hst
      have HST := Lib.hid hst
      clear hst hcl hml hown
      go_wp2
      go_roundw
      case rel => exact ⟨k + 1, by omega, by go_num, by go_num, HST.out.1, grown_trans HG.out HST.out.2⟩
      case measure => simp [intOf]; omega
    · obtain rfl : k = L := by omega
      have HM := Lib.hid (markToB_all xs m)
      go_wp2
      go_ret
      refine ⟨rfl, ?_, HG.out⟩
      rw [← HL.out, ← HM.out, HL.out]
      exact hown

theorem heldBoolS_any (v : Value) (m : Int) (L : Nat) (w : World) (h : IsBools w v (seqB m L)) (hx : L ≤ 1100000) (hm0 : 0 ≤ m) (hm : m ≤ 1000000000) :
    Calls Try.prog 62 #[v, .int .i64 m] w fun e w' => e = .returned (.int .i64 (m + L)) ∧ w = w' := by
  obtain ⟨a, cap, rfl, ha1, ha2, ha⟩ := h
  unfold maxLen at ha2
  rw [seqB_length] at ha1 ⊢
  have HA := Lib.hid ha
  clear ha
  go_enter Try.func62, Try.ntmps62
  go_wp2
  go_loop [1, 5] (fun q i => ∃ k : Nat, k ≤ L ∧ i = .int .i64 k ∧ q = .int .i64 (m + k)) (fun _ i => L - (intOf i).toNat)
  case atStart => exact ⟨0, Nat.zero_le _, rfl, by go_num⟩
  case round =>
    obtain ⟨k, hk, rfl, rfl⟩ := hrel
    by_cases hlt : k < L
    · obtain ⟨g, off, rfl, hg, hc⟩ := HA.out.resolve_left (fun h => by have := seqB_length m L; rw [h] at this; simp at this; omega)
      have hcell := hc k (by rw [seqB_length]; exact hlt)
      rw [seqB_get] at hcell
      clear hc
      have hne : (((m + (k : Int)) % 3 == 0) != ((m + (k : Int)) % 3 == 0)) = false := by simp

      go_wp2
      go_round
      case rel => exact ⟨k + 1, by omega, by go_num, by go_num⟩
      case measure => simp [intOf]; omega
    · obtain rfl : k = L := by omega
      go_wp2
      go_ret
      exact ⟨rfl, rfl⟩
end Go.Proofs.Ytgpjckmmleagbaa

namespace Go.Proofs.Ytgpjckmmleagbaa
open Go.RowKit

theorem below_grown {B : Nat} {w w' : World} {row : Option Nat} (hg : w.grownBy w' row) (hB : B ≤ w.heap.size) (hr : ∀ k, row = some k → B ≤ k) : Below B w w' := (Below.refl B w).grown hg hB hr

set_option maxHeartbeats 800000 in
theorem markMachine_any (B : Nat) (ts : List Thing) (st : Int) (nv ev : Value) (xs : List Int) (bs : List Bool) (k : Int) (w : World)
    (hA : Apart B (rowT 3 1 nv xs.length (xs.map (Value.int .i64)) :: rowT 4 1 ev bs.length (bs.map Value.bool) :: ts) w) (hB : B ≤ w.heap.size) (hx : xs.length ≤ 1100000) (hb : bs.length ≤ 1100000) (k0 : 0 ≤ k) (k1 : k ≤ 100000000) :
    Calls Try.prog 22 #[.agg #[.int .i64 st, nv, ev], .int .i64 k] w fun e w' => e = .returned (.int .i64 (k + xs.length + bs.length)) ∧
      Apart B (rowT 3 1 nv xs.length ((seqL k xs.length).map (Value.int .i64)) :: rowT 4 1 ev bs.length ((seqB (k + xs.length) bs.length).map Value.bool) :: ts) w' ∧ Below B w w' := by
  have hA1 := hA.same (World.grownBy_alloc w (.cells #[.int .i64 st, nv, ev] 28) none)
  have hlt := hA.lt
  have y1 : (w.alloc (.cells #[.int .i64 st, nv, ev] 28)).cell? ⟨w.heap.size, 1, none⟩ = some nv := World.cell?_alloc_new w _ _ 1
  have y2 : (w.alloc (.cells #[.int .i64 st, nv, ev] 28)).cell? ⟨w.heap.size, 2, none⟩ = some ev := World.cell?_alloc_new w _ _ 2
  have q1 := (Below.refl B w).alloc hB (.cells #[.int .i64 st, nv, ev] 28)
  have HA := Lib.hid hA1
  have HQ := Lib.hid q1
  have HL := Lib.hid hlt
  clear hA hA1 q1 hlt
  go_enter Try.func22, Try.ntmps22
  go_wp2_with fail
  refine (markIntS_any 0 nv xs k _ HA.out.head hx k0 (by omega)).mono ?_
  rintro e w2 ⟨rfl, ho2, hg2⟩
  have A2 := Lib.hid (HA.out.turn hg2 (rowT 3 1 nv xs.length ((seqL k xs.length).map (Value.int .i64))) ho2 (by simp; omega) (fun j e => ⟨.inl e, by have := (HA.out.lt j e).2; exact Nat.lt_of_lt_of_le this hg2.size⟩))
  have Q2 := Lib.hid (HQ.out.grown hg2 (by simp; omega) (fun j e => (HL.out j e).1))
  have z2 : w2.cell? ⟨w.heap.size, 2, none⟩ = some ev := hg2.cell y2 (fun e => by have := (HL.out w.heap.size e.symm).2; omega)
  clear ho2 hg2 y1 y2
  go_wp2_with fail
  clear z2
  have hs2 : B ≤ w2.heap.size := Nat.le_trans hB Q2.out.size
  refine (markBoolS_any 0 ev bs (k + xs.length) _ A2.out.tail.head hb (by omega) (by omega)).mono ?_
  rintro e w3 ⟨rfl, ho3, hg3⟩
  have hl3 := (A2.out.perm (List.Perm.swap _ _ _)).lt
  have A3 := Lib.hid (((A2.out.perm (List.Perm.swap _ _ _)).turn hg3 (rowT 4 1 ev bs.length ((seqB (k + xs.length) bs.length).map Value.bool)) ho3 hs2 (fun j e => ⟨.inl e, Nat.lt_of_lt_of_le (hl3 j e).2 hg3.size⟩)).perm (List.Perm.swap _ _ _))
  have Q3 := Lib.hid (Q2.out.grown hg3 hs2 (fun j e => (hl3 j e).1))
  clear ho3 hg3 hl3
  go_wp2_with fail
  go_ret
  exact ⟨rfl, A3.out, Q3.out⟩

set_option maxHeartbeats 800000 in
theorem heldMachine_any (st : Int) (nv ev : Value) (n1 n2 : Nat) (k : Int) (w : World) (h1 : IsInts w nv (seqL k n1)) (h2 : IsBools w ev (seqB (k + n1) n2)) (hx : n1 ≤ 1100000) (hb : n2 ≤ 1100000) (k0 : 0 ≤ k) (k1 : k ≤ 100000000) :
    Calls Try.prog 23 #[.agg #[.int .i64 st, nv, ev], .int .i64 k] w fun e w' => e = .returned (.int .i64 (k + n1 + n2)) ∧ Below w.heap.size w w' := by
  have y1 : (w.alloc (.cells #[.int .i64 st, nv, ev] 28)).cell? ⟨w.heap.size, 1, none⟩ = some nv := World.cell?_alloc_new w _ _ 1
  have y2 : (w.alloc (.cells #[.int .i64 st, nv, ev] 28)).cell? ⟨w.heap.size, 2, none⟩ = some ev := World.cell?_alloc_new w _ _ 2
  have q1 := (Below.refl w.heap.size w).alloc (Nat.le_refl _) (.cells #[.int .i64 st, nv, ev] 28)
  have H1 := Lib.hid (h1.below q1)
  have H2 := Lib.hid (h2.below q1)
  have HQ := Lib.hid q1
  clear h1 h2 q1
  go_enter Try.func23, Try.ntmps23
  go_wp2_with fail
  refine (heldIntS_any nv k n1 _ H1.out hx k0 (by omega)).mono ?_
  rintro e w2 ⟨rfl, rfl⟩
  have hge : ¬ (k + (n1 : Int) < 0) := by omega
  have hge2 : ¬ (k + (n1 : Int) + (n2 : Int) < 0) := by omega
  go_wp2_with fail
  refine (heldBoolS_any ev (k + n1) n2 _ H2.out hb (by omega) (by omega)).mono ?_
  rintro e w3 ⟨rfl, rfl⟩
  go_wp2_with fail
  go_ret
  exact ⟨rfl, HQ.out⟩
end Go.Proofs.Ytgpjckmmleagbaa

namespace Go.Proofs.Ytgpjckmmleagbaa
open Go.RowKit

theorem apart_join {C : Nat} {ts us : List Thing} {w w' : World} (hA : Apart C ts w) (hb : Below w.heap.size w w') (hU : Apart w.heap.size us w') (hC : C ≤ w.heap.size) : Apart C (us ++ ts) w' := by
  have h := hA.below hb
  refine ⟨fun t ht => ?_, List.pairwise_append.2 ⟨hU.two, h.two, fun s hs t ht k e e' => ?_⟩⟩
  · rcases List.mem_append.1 ht with ht | ht
    · exact ⟨(hU.all t ht).1, fun k e => ⟨Nat.le_trans hC ((hU.all t ht).2 k e).1, ((hU.all t ht).2 k e).2⟩⟩
    · exact h.all t ht
  · have := ((hA.all t ht).2 k e').2
    have := ((hU.all s hs).2 k e).1
    omega

/-- a machine in a box -/
def rI (v : Value) (xs : List Int) : Thing := rowT 3 1 v xs.length (xs.map (Value.int .i64))
def rB (v : Value) (xs : List Bool) : Thing := rowT 4 1 v xs.length (xs.map Value.bool)
def cM (b : Nat) (st : Int) (nv ev : Value) : Thing := cellsT b #[.int .i64 st, nv, ev] 28

theorem boxed {C : Nat} {ts : List Thing} {w : World} (st : Int) (nv ev : Value) (hA : Apart C ts w) (hC : C ≤ w.heap.size) : Apart C (cM w.heap.size st nv ev :: ts) (w.alloc (.cells #[.int .i64 st, nv, ev] 28)) :=
  hA.more (World.grownBy_alloc w _ none) _ (heap_alloc_new w _) hC (fun j e => by cases e; simp)
theorem cM_at {b : Nat} {st : Int} {nv ev : Value} {w : World} (h : (cM b st nv ev).says w) : w.cell? ⟨b, 0, none⟩ = some (.int .i64 st) ∧ w.cell? ⟨b, 1, none⟩ = some nv ∧ w.cell? ⟨b, 2, none⟩ = some ev :=
  ⟨cellsT_cell h 0, cellsT_cell h 1, cellsT_cell h 2⟩
theorem Apart.of {C : Nat} {ts : List Thing} {w : World} (h : Apart C ts w) (t : Thing) (ht : t ∈ ts) : t.says w := (h.all t ht).1
end Go.Proofs.Ytgpjckmmleagbaa

namespace Go.Proofs.Ytgpjckmmleagbaa
open Go.RowKit

set_option maxHeartbeats 1000000 in
theorem specMachineFor_any (kind : Int) (letter thn : ByteArray) (many : Int) (w : World) :
    Calls Try.prog 42 #[.agg #[.int .i64 kind, .string letter, .string thn, .int .i64 many]] w (MachNewB (mf (Ru.mk kind letter thn many)) (Ru.mk kind letter thn many).ok w) := by
  by_cases hok : (Ru.mk kind letter thn many).ok = true
  · rw [mf_yes hok, hok]
    obtain ⟨hl, hr⟩ := Ru.ok_iff.1 hok
    simp only at hl hr
    rcases hr with ⟨rfl, rfl, h0, h4⟩ | ⟨rfl, rfl, h0, h4⟩ | ⟨rfl, ht, rfl⟩ | ⟨rfl, rfl, h0, h4⟩ | ⟨rfl, rfl, h0, h4⟩
    · exact specMachineFor_0 letter many w hl h0 h4
    · exact specMachineFor_1 letter many w hl h0 h4
    · exact specMachineFor_2 letter thn w hl ht
    · exact specMachineFor_3 letter many w hl h0 h4
    · exact specMachineFor_4 letter many w hl h0 h4
  · have hok' : (Ru.mk kind letter thn many).ok = false := by simpa using hok
    rw [mf_no hok', hok']
    clear hok
    have c0 := fun i => World.cell?_alloc_new (w.alloc (.cells #[.int .i64 kind, .string letter, .string thn, .int .i64 many] 45)) #[.int .i64 0, .slice none 0 0, .slice none 0 0] 28 i
    have f0 := fun i => World.frozen?_alloc_new (w.alloc (.cells #[.int .i64 kind, .string letter, .string thn, .int .i64 many] 45)) #[.int .i64 0, .slice none 0 0, .slice none 0 0] 28 i
    simp only [World.size_alloc] at c0 f0
    have q0 := ((Below.refl w.heap.size w).alloc (Nat.le_refl _) (.cells #[.int .i64 kind, .string letter, .string thn, .int .i64 many] 45)).alloc (by simp) (.cells #[.int .i64 0, .slice none 0 0, .slice none 0 0] 28)
    have C0 := Lib.hid c0
    have F0 := Lib.hid f0
    have Q0 := Lib.hid q0
    clear c0 f0 q0
    go_enter Try.func42, Try.ntmps42
    go_wp2_with fail
    refine (specRuleOk_any kind letter thn many _).mono ?_
    rintro e w1 ⟨rfl, hb1⟩
    rw [hok']
    simp only [World.size_alloc] at hb1
    have h0 : w1.cell? ⟨w.heap.size + 1, 0, none⟩ = some (.int .i64 0) := (hb1.cell (p := ⟨w.heap.size + 1, 0, none⟩) (Nat.lt_succ_self _)).trans (C0.out 0)
    have h1 : w1.cell? ⟨w.heap.size + 1, 1, none⟩ = some (.slice none 0 0) := (hb1.cell (p := ⟨w.heap.size + 1, 1, none⟩) (Nat.lt_succ_self _)).trans (C0.out 1)
    have h2 : w1.cell? ⟨w.heap.size + 1, 2, none⟩ = some (.slice none 0 0) := (hb1.cell (p := ⟨w.heap.size + 1, 2, none⟩) (Nat.lt_succ_self _)).trans (C0.out 2)
    have k0 := (hb1.frozen (p := ⟨w.heap.size + 1, 0, none⟩) (Nat.lt_succ_self _)).trans (F0.out 0)
    have k1 := (hb1.frozen (p := ⟨w.heap.size + 1, 1, none⟩) (Nat.lt_succ_self _)).trans (F0.out 1)
    have k2 := (hb1.frozen (p := ⟨w.heap.size + 1, 2, none⟩) (Nat.lt_succ_self _)).trans (F0.out 2)
    have q1 : Below w.heap.size w w1 := Q0.out.trans (hb1.mono (by omega))
    have FI := Lib.hid (fin_cells (x := .int .i64 0) (y := .slice none 0 0) (z := .slice none 0 0) (apart_nils (w.heap.size + 2) w1) q1 (Nat.le_succ _) (by omega) (some3 h0 h1 h2) (by omega))
    clear q1 hb1
    go_wp2
    obtain ⟨r1, r2, r3, r4, r5⟩ := FI.out _ rfl
    refine bodyPost_ret (v := .tuple #[.agg #[.int .i64 0, .slice none 0 0, .slice none 0 0], .bool false]) ?_ rfl ⟨none, none, 0, 0, rfl, r1, r2⟩
    simp [results, Try.results42, go_sem, r3, r4, r5]

theorem mf_len (r : Ru) : (mf r).next.length ≤ 100 ∧ (mf r).ends.length ≤ 100 := by
  unfold mf
  by_cases h : r.ok = true
  · rw [if_pos h]
    have h1 := Ru.st_bd h
    have a : (mfT r).next.length = 3 * r.st := tabTo_length _ _
    have b : (mfT r).ends.length = r.st := endsTo_length _ _
    omega
  · rw [if_neg h]; exact ⟨Nat.zero_le _, Nat.zero_le _⟩

set_option maxHeartbeats 4000000 in
theorem exactMachineFor_walk {w : World} (kind : Int) (_hk : (Lit.int .i64 kind).wf = true) (letter : ByteArray) (h1 : letter.size ≤ maxLen) (thn : ByteArray) (h2 : thn.size ≤ maxLen) (many : Int) (_hm : (Lit.int .i64 many).wf = true) :
    Calls Try.prog 13 #[.agg #[.int .i64 kind, .string letter, .string thn, .int .i64 many]] w fun e w' => e = .returned (.bool true) ∧ Below w.heap.size w w' := by
  have b0 := Lib.hid (Below.refl (w.heap.size + 1) (w.alloc (.cells #[.int .i64 kind, .string letter, .string thn, .int .i64 many] 42)))
  have hT := Lib.hid (mf_len (Ru.mk kind letter thn many))
  go_enter Try.func13, Try.ntmps13
  go_wp2_with fail
  refine (szRule_any kind letter thn many 1048576 _ h1 h2 (by omega) (by omega)).mono ?_
  rintro e w1 ⟨rfl, hb1⟩
  simp only [World.size_alloc] at hb1
  have B1 := Lib.hid (b0.out.trans hb1)
  clear hb1
  by_cases hz : szR letter.size thn.size 1048576 < 0
  · go_wp2_with fail
    go_ret
    exact ⟨rfl, (ru_cells kind letter thn many B1.out).2.2.2.2.1⟩
  · generalize szR letter.size thn.size 1048576 = left at *
    obtain ⟨y0, y1, y2, y3, q1, s1⟩ := ru_cells kind letter thn many B1.out
    go_wp2_with fail
    clear y0 y1 y2 y3
    refine (toRule_any kind letter thn many _).mono ?_
    rintro e w2 ⟨rfl, hb2⟩
    have B2 := Lib.hid (B1.out.trans (hb2.mono s1))
    clear hb2 q1 s1 B1
    go_wp2_with fail
    refine (specMachineFor_any kind letter thn many _).mono ?_
    rintro e w3 ⟨sa, sb, sc, sd, rfl, hA3, hb3⟩
    obtain ⟨-, -, -, -, -, s2⟩ := ru_cells kind letter thn many B2.out
    have B3 := Lib.hid (B2.out.trans (hb3.mono s2))
    have hI := IsInts.of_owns hA3.head
    have hE := IsBools.of_owns hA3.tail.head
    have S3 := Lib.hid (And.intro hI hE)
    have IMF := Lib.hid (fun W => implMachineFor_any kind letter thn many W h1 h2)
    clear hb3 s2 B2 hA3 hI hE
    generalize mf (Ru.mk kind letter thn many) = T at *
    generalize (Ru.mk kind letter thn many).ok = okb at *
    obtain ⟨ts, tx, tb⟩ := T
    simp only at S3 hT
    have s3 := (ru_cells kind letter thn many B3.out).2.2.2.2.2
    have hal : Below w3.heap.size w3 (w3.alloc (.cells #[.int .i64 ts, .slice sa tx.length sc, .slice sb tb.length sd] 28)) := (Below.refl _ _).alloc (Nat.le_refl _) _
    have S4 := Lib.hid (MachBox.new (st := ts) 28 S3.out.1 S3.out.2)
    have B4 := Lib.hid (B3.out.trans (hal.mono s3))
    clear hal s3 S3
    obtain ⟨y0, y1, y2, y3, q4, s4⟩ := ru_cells kind letter thn many B4.out
    go_wp2_with fail
    clear y0 y1 y2 y3
    generalize hW4 : w3.alloc (.cells #[.int .i64 ts, .slice sa tx.length sc, .slice sb tb.length sd] 28) = w4 at *
    generalize hSB : w3.heap.size = sB at *
    clear hW4 hSB
    refine (toRule_any kind letter thn many _).mono ?_
    rintro e w5 ⟨rfl, hb5⟩
    have B5 := Lib.hid (B4.out.trans (hb5.mono s4))
    have S5 := Lib.hid (S4.out.below hb5)
    clear hb5 q4 s4 B4 S4
    go_wp2_with fail
    refine (IMF.out _).mono ?_
    rintro e w6 ⟨g1, g2, k1, k2, rfl, hA6, hb6⟩
    simp only at hA6
    have H5 := Lib.hid (ru_cells kind letter thn many B5.out).2.2.2.2.2
    have A6 : Apart w5.heap.size [rI (.slice g1 tx.length k1) tx, rB (.slice g2 tb.length k2) tb] w6 := hA6
    have A7 := Lib.hid (boxed ts (.slice g1 tx.length k1) (.slice g2 tb.length k2) A6 hb6.size)
    have Q7 := Lib.hid (hb6.alloc hb6.size (.cells #[.int .i64 ts, .slice g1 tx.length k1, .slice g2 tb.length k2] 28))
    have S7 := Lib.hid (S5.out.below Q7.out)
    clear hA6 A6 hb6
    obtain ⟨y0, y1, y2⟩ := cM_at A7.out.head
    have y3 := S7.out.c0
    have y4 := S7.out.c1
    have y5 := S7.out.c2
    go_wp2_with fail
    clear y0 y1 y2 y3 y4 y5
    generalize hW7 : w6.alloc (.cells #[.int .i64 ts, .slice g1 tx.length k1, .slice g2 tb.length k2] 28) = w7 at *
    generalize hBG : w6.heap.size = bg at *
    clear hW7 hBG
    refine (eqMachine_same ⟨ts, tx, tb⟩ _ _ _ _ _ (IsInts.of_owns A7.out.tail.head) (IsBools.of_owns A7.out.tail.tail.head) S7.out.ints S7.out.bools).mono ?_
    rintro e w8 ⟨rfl, hb8⟩
    have A8 := Lib.hid (A7.out.below hb8)
    have Q8 := Lib.hid (Q7.out.trans (hb8.mono Q7.out.size))
    clear hb8 A7 Q7 S7
    have hne : (okb != okb) = false := by simp
    obtain ⟨y0, y1, y2⟩ := cM_at A8.out.head
    go_wp2_with fail
    clear y0 y1 y2
    have B8 := Lib.hid (A8.out.perm (List.perm_append_comm (l₁ := [cM bg ts (.slice g1 tx.length k1) (.slice g2 tb.length k2)]) (l₂ := [rI (.slice g1 tx.length k1) tx, rB (.slice g2 tb.length k2) tb])))
    refine (markMachine_any w5.heap.size [cM bg ts (.slice g1 tx.length k1) (.slice g2 tb.length k2)] ts _ _ tx tb 1 _ B8.out Q8.out.size (by have := hT.out; omega) (by have := hT.out; omega) (by omega) (by omega)).mono ?_
    rintro e w9 ⟨rfl, hA9, hb9⟩
    have Q9 := Lib.hid (Q8.out.trans hb9)
    have A9 := Lib.hid hA9
    have hL := hT.out
    clear B8 A8 hA9 hb9 Q8
    obtain ⟨y0, y1, y2⟩ := cM_at (A9.out.of (cM bg ts (.slice g1 tx.length k1) (.slice g2 tb.length k2)) (by simp))
    have I9 := IsInts.of_owns (xs := seqL 1 tx.length) (base := 0) (e := 3) (v := .slice g1 tx.length k1) (w := w9) (by rw [seqL_length]; exact A9.out.of (rowT 3 1 (.slice g1 tx.length k1) tx.length ((seqL 1 tx.length).map (Value.int .i64))) (by simp))
    have J9 := IsBools.of_owns (xs := seqB (1 + tx.length) tb.length) (base := 0) (e := 4) (v := .slice g2 tb.length k2) (w := w9) (by rw [seqB_length]; exact A9.out.of (rowT 4 1 (.slice g2 tb.length k2) tb.length ((seqB (1 + tx.length) tb.length).map Value.bool)) (by simp))
    have H9 := Lib.hid (And.intro I9 J9)
    clear I9 J9
    have hge : ¬ ((1 : Int) + (tx.length : Int) + (tb.length : Int) < 0) := by omega
    go_wp2_with fail
    clear y0 y1 y2
    refine (heldMachine_any ts _ _ tx.length tb.length 1 _ H9.out.1 H9.out.2 (by omega) (by omega) (by omega) (by omega)).mono ?_
    rintro e w10 ⟨rfl, hb10⟩
    have A10 := Lib.hid (A9.out.below hb10)
    have Q10 := Lib.hid (Q9.out.trans (hb10.mono Q9.out.size))
    have HH := Lib.hid (And.intro (H9.out.1.below hb10) (H9.out.2.below hb10))
    clear hb10 A9 Q9 H9
    have hne2 : (((1 : Int) + (tx.length : Int) + (tb.length : Int)) != ((1 : Int) + (tx.length : Int) + (tb.length : Int))) = false := by simp
    have B10 := Lib.hid (B5.out.trans (Q10.out.mono H5.out))
    obtain ⟨y0, y1, y2, y3, -, -⟩ := ru_cells kind letter thn many B10.out
    go_wp2_with fail
    clear y0 y1 y2 y3
    refine (toRule_any kind letter thn many _).mono ?_
    rintro e w11 ⟨rfl, hb11⟩
    have A11 := Lib.hid (A10.out.below hb11)
    have Q11 := Lib.hid (Q10.out.trans (hb11.mono Q10.out.size))
    have HH2 := Lib.hid (And.intro (HH.out.1.below hb11) (HH.out.2.below hb11))
    clear hb11 A10 Q10 HH B10
    go_wp2_with fail
    refine (IMF.out _).mono ?_
    rintro e w12 ⟨m1, m2, k3, k4, rfl, hA12, hb12⟩
    have i12 := IsInts.of_owns hA12.head
    have j12 := IsBools.of_owns hA12.tail.head
    simp only at i12 j12
    have hal : Below w12.heap.size w12 (w12.alloc (.cells #[.int .i64 ts, .slice m1 tx.length k3, .slice m2 tb.length k4] 28)) := (Below.refl _ _).alloc (Nat.le_refl _) _
    have E13 := Lib.hid (MachBox.new (st := ts) 28 i12 j12)
    have hb13 := hb12.trans (hal.mono hb12.size)
    have A13 := Lib.hid (A11.out.below hb13)
    have Q13 := Lib.hid (Q11.out.trans (hb13.mono Q11.out.size))
    have HH3 := Lib.hid (And.intro (HH2.out.1.below hb13) (HH2.out.2.below hb13))
    clear hA12 hb12 hal hb13 i12 j12 A11 Q11 HH2
    have Z13 := Lib.hid (S5.out.below Q13.out)
    have y0 := E13.out.c0
    have y1 := E13.out.c1
    have y2 := E13.out.c2
    have y3 := Z13.out.c0
    have y4 := Z13.out.c1
    have y5 := Z13.out.c2
    simp only
    go_wp2_with fail
    clear y0 y1 y2 y3 y4 y5
    refine (eqMachine_same ⟨ts, tx, tb⟩ _ _ _ _ _ E13.out.ints E13.out.bools Z13.out.ints Z13.out.bools).mono ?_
    rintro e w14 ⟨rfl, hb14⟩
    have A14 := Lib.hid (A13.out.below hb14)
    have Q14 := Lib.hid (Q13.out.trans (hb14.mono Q13.out.size))
    have HH4 := Lib.hid (And.intro (HH3.out.1.below hb14) (HH3.out.2.below hb14))
    clear hb14 A13 Q13 HH3 E13 Z13
    obtain ⟨y0, y1, y2⟩ := cM_at (A14.out.of (cM bg ts (.slice g1 tx.length k1) (.slice g2 tb.length k2)) (by simp))
    go_wp2_with fail
    clear y0 y1 y2
    refine (heldMachine_any ts _ _ tx.length tb.length 1 _ HH4.out.1 HH4.out.2 (by omega) (by omega) (by omega) (by omega)).mono ?_
    rintro e w15 ⟨rfl, hb15⟩
    have Q15 := Lib.hid (Q14.out.trans (hb15.mono Q14.out.size))
    clear hb15 A14 Q14 HH4
    go_wp2_with fail
    go_ret
    exact ⟨rfl, (ru_cells kind letter thn many B5.out).2.2.2.2.1.trans (Q15.out.mono (by have := H5.out; omega))⟩
end Go.Proofs.Ytgpjckmmleagbaa
