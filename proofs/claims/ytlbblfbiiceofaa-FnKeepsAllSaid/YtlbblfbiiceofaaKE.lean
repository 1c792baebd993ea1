/- The walk of machineFrom over numbers, for the functions of a maker of machines. No condition. The walk of machineFrom over numbers, for the functions of a maker of machines. No condition. The walk of machineFrom over numbers, for the functions of a maker of machines. No condition. The walk of machineFrom over numbers, for the functions of a maker of machines. No condition. The walk of machineFrom over numbers, for the functions of a maker of machines. No condition. The makers of the machines of rules, and MachineFor on the program's side. No condition. The maker of machines for rules of runs.  -/
import Derived.Test.YtlbblfbiiceofaaFromWalk
import Derived.Test.YtlbblfbiiceofaaKC
import Derived.Test.YtlbblfbiiceofaaTrimmed2
import Derived.Deep.RegionWith
import Derived.Deep.RegionLaw
import Derived.Deep.AppendLies
import Derived.Test.YtlbblfbiiceofaaKP

namespace Go.Proofs.Ytlbblfbiiceofaa
open Go.RowKit Go.Maps

end Go.Proofs.Ytlbblfbiiceofaa

namespace Go.Proofs.Ytlbblfbiiceofaa
open Go.RowKit Go.Maps

end Go.Proofs.Ytlbblfbiiceofaa

namespace Go.Proofs.Ytlbblfbiiceofaa
open Go.RowKit Go.Maps

end Go.Proofs.Ytlbblfbiiceofaa

namespace Go.Proofs.Ytlbblfbiiceofaa
open Go.RowKit Go.Maps

end Go.Proofs.Ytlbblfbiiceofaa

namespace Go.Proofs.Ytlbblfbiiceofaa
open Go.RowKit Go.Maps

end Go.Proofs.Ytlbblfbiiceofaa

namespace Go.Proofs.Ytlbblfbiiceofaa
open Go.RowKit

/-- the machine of a rule -/
def mfT (r : Ru) : M := ⟨(r.st : Int), tabTo r.nx r.st, endsTo r.endAt r.st⟩
def mf (r : Ru) : M := if r.ok = true then mfT r else ⟨0, [], []⟩
def Ru.inP (r : Ru) (x : Int) : Prop := 0 ≤ x ∧ x < (r.st : Int)
theorem Ru.nx_bd {r : Ru} (h : r.ok = true) {x : Int} (hx : r.inP x) (l : Nat) : -1 ≤ r.nx x l ∧ r.nx x l < (r.st : Int) := by
  obtain ⟨kind, letter, thn, many⟩ := r
  obtain ⟨_, hr⟩ := Ru.ok_iff.1 h
  obtain ⟨h0, h1⟩ := hx
  simp only at hr
  simp only [Ru.nx, Ru.st] at h1 ⊢
  generalize (byteAt letter 0 == byteOf l) = its
  generalize (byteAt thn 0 == byteOf l) = th
  rcases hr with ⟨rfl, rfl, a, b⟩ | ⟨rfl, rfl, a, b⟩ | ⟨rfl, ht, rfl⟩ | ⟨rfl, rfl, a, b⟩ | ⟨rfl, rfl, a, b⟩
  · simp only [nxR] at h1 ⊢
    simp at h1 ⊢
    cases its <;> simp <;> (try split) <;> omega
  · simp only [nxR] at h1 ⊢
    simp at h1 ⊢
    cases its <;> simp <;> (try rw [Int.min_def]) <;> (try split) <;> (try omega)
  · simp only [nxR] at h1 ⊢
    simp at h1 ⊢
    cases its <;> cases th <;> simp <;> (try split) <;> omega
  · simp only [nxR] at h1 ⊢
    simp at h1 ⊢
    cases its <;> simp <;> (try rw [Int.min_def]) <;> (try split) <;> (try split) <;> (try omega)
  · simp only [nxR] at h1 ⊢
    simp at h1 ⊢
    cases its <;> simp <;> (try rw [Int.min_def]) <;> (try split) <;> (try omega)
end Go.Proofs.Ytlbblfbiiceofaa

namespace Go.Proofs.Ytlbblfbiiceofaa
open Go.RowKit

end Go.Proofs.Ytlbblfbiiceofaa

namespace Go.Proofs.Ytlbblfbiiceofaa
open Go.RowKit

/-- a machine in memory of its own, and whether there is one -/
def MachNewB (m : M) (b : Bool) (w : World) (e : Ending) (w' : World) : Prop :=
  ∃ (a1 a2 : Option Addr) (c1 c2 : Nat), e = .returned (.tuple #[.agg #[.int .i64 m.st, .slice a1 m.next.length c1, .slice a2 m.ends.length c2], .bool b]) ∧
    Apart w.heap.size [rowT 3 1 (.slice a1 m.next.length c1) m.next.length (m.next.map (Value.int .i64)), rowT 4 1 (.slice a2 m.ends.length c2) m.ends.length (m.ends.map Value.bool)] w' ∧ Below w.heap.size w w'
/-- a block of zeros is still there -/
theorem zeros_kept {h : Nat} {w2 w3 : World} {n : Nat} {W2 : World} (c0 : ∀ i, W2.cell? ⟨h, i, none⟩ = (#[.int .i64 0, .slice none 0 0, .slice none 0 0] : Array Value)[i]?) (f0 : ∀ i, W2.frozen? ⟨h, i, none⟩ = false) (hb : Below n W2 w2) (hn : h < n) (hb3 : Below w2.heap.size w2 w3) (h2 : n ≤ w2.heap.size) :
    (w3.cell? ⟨h, 0, none⟩ = some (.int .i64 0) ∧ w3.cell? ⟨h, 1, none⟩ = some (.slice none 0 0) ∧ w3.cell? ⟨h, 2, none⟩ = some (.slice none 0 0)) ∧ (w3.frozen? ⟨h, 0, none⟩ = false ∧ w3.frozen? ⟨h, 1, none⟩ = false ∧ w3.frozen? ⟨h, 2, none⟩ = false) := by
  have hb' := hb.trans (hb3.mono h2)
  exact ⟨⟨(hb'.cell (p := ⟨h, 0, none⟩) hn).trans (c0 0), (hb'.cell (p := ⟨h, 1, none⟩) hn).trans (c0 1), (hb'.cell (p := ⟨h, 2, none⟩) hn).trans (c0 2)⟩, (hb'.frozen (p := ⟨h, 0, none⟩) hn).trans (f0 0), (hb'.frozen (p := ⟨h, 1, none⟩) hn).trans (f0 1), (hb'.frozen (p := ⟨h, 2, none⟩) hn).trans (f0 2)⟩

end Go.Proofs.Ytlbblfbiiceofaa

namespace Go.Proofs.Ytlbblfbiiceofaa
open Go.RowKit

end Go.Proofs.Ytlbblfbiiceofaa

namespace Go.Proofs.Ytlbblfbiiceofaa
open Go.RowKit

end Go.Proofs.Ytlbblfbiiceofaa

namespace Go.Proofs.Ytlbblfbiiceofaa
open Go.RowKit

end Go.Proofs.Ytlbblfbiiceofaa

namespace Go.Proofs.Ytlbblfbiiceofaa
open Go.RowKit

end Go.Proofs.Ytlbblfbiiceofaa

namespace Go.Proofs.Ytlbblfbiiceofaa
open Go.RowKit

end Go.Proofs.Ytlbblfbiiceofaa

namespace Go.Proofs.Ytlbblfbiiceofaa

theorem tab_all {r : Ru} (hok : r.ok = true) : ∀ n, n ≤ r.st → ∀ x ∈ tabTo r.nx n, -1 ≤ x ∧ x ≤ (r.st : Int) - 1 := by
  intro n
  induction n with
  | zero => intro _ x hx; simp [tabTo] at hx
  | succ n ih =>
    intro hn x hx
    simp only [tabTo, List.mem_append, List.mem_cons, List.not_mem_nil, or_false] at hx
    have hp : r.inP (n : Int) := ⟨by omega, by omega⟩
    have b := fun l => Ru.nx_bd hok hp l
    rcases hx with hx | rfl | rfl | rfl
    · exact ih (by omega) x hx
    · have := b 0; omega
    · have := b 1; omega
    · have := b 2; omega
theorem mfT_ok {r : Ru} (hok : r.ok = true) : (mfT r).ok = true := by
  have h1 := Ru.st_bd hok
  have hl1 : (mfT r).next.length = 3 * r.st := tabTo_length _ _
  have hl2 : (mfT r).ends.length = r.st := endsTo_length _ _
  have hst : (mfT r).st = (r.st : Int) := rfl
  rw [M.ok, Bool.and_eq_true, M.shape_iff, List.all_eq_true]
  refine ⟨⟨by omega, by omega, by omega, by omega⟩, fun x hx => ?_⟩
  have := tab_all hok r.st (Nat.le_refl _) x hx
  rw [nextOk, Bool.and_eq_true, decide_eq_true_eq, decide_eq_true_eq, hst]
  exact this

/-- the number of a letter of a word -/
def lix (w : ByteArray) (k : Nat) : Nat := (letterOf (byteAt w k).toNat).toNat
/-- the state after so many letters -/
def Ru.to (r : Ru) (w : ByteArray) : Nat → Int
  | 0 => 0
  | k + 1 => if r.to w k < 0 then -1 else r.nx (r.to w k) (lix w k)
/-- how many letters were read till it stopped -/
def Ru.lets (r : Ru) (w : ByteArray) : Nat → Int
  | 0 => 0
  | k + 1 => if r.to w k < 0 then r.lets w k else r.lets w k + 1
/-- BrokenAt -/
def Ru.broken (r : Ru) (w : ByteArray) : Int := if (r.ok && wordOk w) = true then (if r.to w w.size < 0 then r.lets w w.size else -1) else -1
end Go.Proofs.Ytlbblfbiiceofaa

namespace Go.Proofs.Ytlbblfbiiceofaa
open Go.RowKit

theorem mf_yes {r : Ru} (h : r.ok = true) : mf r = mfT r := by rw [mf, if_pos h]
theorem mf_no {r : Ru} (h : r.ok = false) : mf r = ⟨0, [], []⟩ := by rw [mf, if_neg (by simp [h])]

end Go.Proofs.Ytlbblfbiiceofaa

namespace Go.Proofs.Ytlbblfbiiceofaa
open Go.RowKit
set_option linter.unusedVariables false

/-- the text of a letter -/
def strOf (l : Nat) : ByteArray := ⟨#[byteOf l]⟩
theorem str_eq {t : ByteArray} (ht : letterOk t = true) (l : Nat) (hl : l < 3) : ((strOf l).toList == t.toList) = (byteAt t 0 == byteOf l) := by
  rw [ByteArray.toList_eq, ByteArray.toList_eq]
  match l, hl with
  | 0, _ => rcases letterOk_cases ht with rfl | rfl | rfl <;> decide
  | 1, _ => rcases letterOk_cases ht with rfl | rfl | rfl <;> decide
  | 2, _ => rcases letterOk_cases ht with rfl | rfl | rfl <;> decide

theorem l3Next_0 (letter thn : ByteArray) (many s : Int) (t : ByteArray) (w : World) (h0 : 0 ≤ s) (hs : s ≤ 10) (hb0 : 0 ≤ many) (hb : many ≤ 10) (its : Bool) (hi : (t.toList == letter.toList) = its) :
    Calls Try.prog 123 #[.agg #[.int .i64 0, .string letter, .string thn, .int .i64 many], .int .i64 s, .string t] w fun e w' => e = .returned (.int .i64 (nxR 0 many its false s)) ∧ Below w.heap.size w w' := by
  cases its with
  | true =>
    by_cases hsm : s = many
    · have hsm' : (s == many) = true := by simpa using hsm
      go_enter Try.func123, Try.ntmps123
      go_wp2
      go_ret
      exact ⟨ret_int (by simp [nxR, hsm]), (Below.refl _ _).alloc (Nat.le_refl _) _⟩
    · have hsm' : (s == many) = false := by simpa using hsm
      go_enter Try.func123, Try.ntmps123
      go_wp2
      go_ret
      exact ⟨ret_int (by simp [nxR, hsm]), (Below.refl _ _).alloc (Nat.le_refl _) _⟩
  | false =>
    go_enter Try.func123, Try.ntmps123
    go_wp2
    go_ret
    exact ⟨ret_int (by simp [nxR]), (Below.refl _ _).alloc (Nat.le_refl _) _⟩

theorem l3Next_1 (letter thn : ByteArray) (many s : Int) (t : ByteArray) (w : World) (h0 : 0 ≤ s) (hs : s ≤ 10) (hb0 : 0 ≤ many) (hb : many ≤ 10) (its : Bool) (hi : (t.toList == letter.toList) = its) :
    Calls Try.prog 123 #[.agg #[.int .i64 1, .string letter, .string thn, .int .i64 many], .int .i64 s, .string t] w fun e w' => e = .returned (.int .i64 (nxR 1 many its false s)) ∧ Below w.heap.size w w' := by
  cases its with
  | true =>
    go_enter Try.func123, Try.ntmps123
    go_wp2
    go_ret
    exact ⟨ret_int (by simp [nxR]), (Below.refl _ _).alloc (Nat.le_refl _) _⟩
  | false =>
    by_cases h1 : 0 < s
    · by_cases h2 : s < many
      · go_enter Try.func123, Try.ntmps123
        go_wp2
        go_ret
        exact ⟨ret_int (by simp [nxR, h1, h2]), (Below.refl _ _).alloc (Nat.le_refl _) _⟩
      · go_enter Try.func123, Try.ntmps123
        go_wp2
        go_ret
        exact ⟨ret_int (by simp [nxR, h1, h2]), (Below.refl _ _).alloc (Nat.le_refl _) _⟩
    · go_enter Try.func123, Try.ntmps123
      go_wp2
      go_ret
      exact ⟨ret_int (by simp [nxR]; omega), (Below.refl _ _).alloc (Nat.le_refl _) _⟩

theorem l3Next_2 (letter thn : ByteArray) (many s : Int) (t : ByteArray) (w : World) (h0 : 0 ≤ s) (hs : s ≤ 10) (hb0 : 0 ≤ many) (hb : many ≤ 10) (its : Bool) (hi : (t.toList == letter.toList) = its) (th : Bool) (ht : (t.toList == thn.toList) = th) :
    Calls Try.prog 123 #[.agg #[.int .i64 2, .string letter, .string thn, .int .i64 many], .int .i64 s, .string t] w fun e w' => e = .returned (.int .i64 (nxR 2 many its th s)) ∧ Below w.heap.size w w' := by
  by_cases hx : s = 1
  · have hx' : (s == 1) = true := by simpa using hx
    cases th with
    | true =>
      go_enter Try.func123, Try.ntmps123
      go_wp2
      go_ret
      exact ⟨ret_int (by simp [nxR, hx]), (Below.refl _ _).alloc (Nat.le_refl _) _⟩
    | false =>
      cases its with
      | true =>
        go_enter Try.func123, Try.ntmps123
        go_wp2
        go_ret
        exact ⟨ret_int (by simp [nxR]), (Below.refl _ _).alloc (Nat.le_refl _) _⟩
      | false =>
        go_enter Try.func123, Try.ntmps123
        go_wp2
        go_ret
        exact ⟨ret_int (by simp [nxR]), (Below.refl _ _).alloc (Nat.le_refl _) _⟩
  · have hx' : (s == 1) = false := by simpa using hx
    cases its with
    | true =>
      go_enter Try.func123, Try.ntmps123
      go_wp2
      go_ret
      exact ⟨ret_int (by simp [nxR, hx]), (Below.refl _ _).alloc (Nat.le_refl _) _⟩
    | false =>
      go_enter Try.func123, Try.ntmps123
      go_wp2
      go_ret
      exact ⟨ret_int (by simp [nxR, hx]), (Below.refl _ _).alloc (Nat.le_refl _) _⟩

theorem l3Next_3 (letter thn : ByteArray) (many s : Int) (t : ByteArray) (w : World) (h0 : 0 ≤ s) (hs : s ≤ 10) (hb0 : 0 ≤ many) (hb : many ≤ 10) (its : Bool) (hi : (t.toList == letter.toList) = its) :
    Calls Try.prog 123 #[.agg #[.int .i64 3, .string letter, .string thn, .int .i64 many], .int .i64 s, .string t] w fun e w' => e = .returned (.int .i64 (nxR 3 many its false s)) ∧ Below w.heap.size w w' := by
  cases its with
  | true =>
    by_cases hsm : s = many
    · have hsm' : (s == many) = true := by simpa using hsm
      go_enter Try.func123, Try.ntmps123
      go_wp2
      go_ret
      exact ⟨ret_int (by simp [nxR, hsm]), (Below.refl _ _).alloc (Nat.le_refl _) _⟩
    · have hsm' : (s == many) = false := by simpa using hsm
      go_enter Try.func123, Try.ntmps123
      go_wp2
      go_ret
      exact ⟨ret_int (by simp [nxR, hsm]), (Below.refl _ _).alloc (Nat.le_refl _) _⟩
  | false =>
    go_enter Try.func123, Try.ntmps123
    go_wp2
    go_ret
    exact ⟨ret_int (by simp [nxR]), (Below.refl _ _).alloc (Nat.le_refl _) _⟩

theorem l3Next_4 (letter thn : ByteArray) (many s : Int) (t : ByteArray) (w : World) (h0 : 0 ≤ s) (hs : s ≤ 10) (hb0 : 0 ≤ many) (hb : many ≤ 10) (its : Bool) (hi : (t.toList == letter.toList) = its) :
    Calls Try.prog 123 #[.agg #[.int .i64 4, .string letter, .string thn, .int .i64 many], .int .i64 s, .string t] w fun e w' => e = .returned (.int .i64 (nxR 4 many its false s)) ∧ Below w.heap.size w w' := by
  cases its with
  | true =>
    go_enter Try.func123, Try.ntmps123
    go_wp2
    go_ret
    exact ⟨ret_int (by simp [nxR]), (Below.refl _ _).alloc (Nat.le_refl _) _⟩
  | false =>
    go_enter Try.func123, Try.ntmps123
    go_wp2
    go_ret
    exact ⟨ret_int (by simp [nxR]), (Below.refl _ _).alloc (Nat.le_refl _) _⟩

/-- the state of a rule after a letter -/
theorem l3Next_any {r : Ru} (hok : r.ok = true) (s : Int) (w : World) (h0 : 0 ≤ s) (hs : s < (r.st : Int)) (l : Nat) (hl : l < 3) :
    Calls Try.prog 123 #[.agg #[.int .i64 r.kind, .string r.letter, .string r.thn, .int .i64 r.many], .int .i64 s, .string (strOf l)] w fun e w' => e = .returned (.int .i64 (r.nx s l)) ∧ Below w.heap.size w w' := by
  obtain ⟨kind, letter, thn, many⟩ := r
  obtain ⟨hL, hr⟩ := Ru.ok_iff.1 hok
  simp only at hL hr
  have hi := str_eq hL l hl
  simp only [Ru.st] at hs
  rcases hr with ⟨rfl, rfl, a, b⟩ | ⟨rfl, rfl, a, b⟩ | ⟨rfl, ht, rfl⟩ | ⟨rfl, rfl, a, b⟩ | ⟨rfl, rfl, a, b⟩
  · simp at hs
    exact l3Next_0 letter _ many s (strOf l) w h0 (by omega) (by omega) (by omega) _ hi
  · simp at hs
    exact l3Next_1 letter _ many s (strOf l) w h0 (by omega) (by omega) (by omega) _ hi
  · simp at hs
    exact l3Next_2 letter thn 0 s (strOf l) w h0 (by omega) (by omega) (by omega) _ hi _ (str_eq ht l hl)
  · simp at hs
    exact l3Next_3 letter _ many s (strOf l) w h0 (by omega) (by omega) (by omega) _ hi
  · simp at hs
    exact l3Next_4 letter _ many s (strOf l) w h0 (by omega) (by omega) (by omega) _ hi
end Go.Proofs.Ytlbblfbiiceofaa

namespace Go.Proofs.Ytlbblfbiiceofaa
open Go.RowKit

/-- a machine that is being made, with its number of states -/
structure MkF (w0 : World) (R7 : Nat) (st : Int) (nx : List Int) (nv : Value) (es : List Bool) (ev : Value) (w : World) : Prop where
  keep : Below w0.heap.size w0 w
  ap : Apart w0.heap.size [cellsT R7 #[.int .i64 st, nv, ev] 115, rowT 3 1 nv nx.length (nx.map (Value.int .i64)), rowT 4 1 ev es.length (es.map Value.bool)] w
section
variable {w0 : World} {R7 : Nat} {st : Int} {nx : List Int} {nv : Value} {es : List Bool} {ev : Value} {w w' : World}
theorem MkF.size (h : MkF w0 R7 st nx nv es ev w) : w0.heap.size ≤ w.heap.size := h.keep.size
theorem MkF.same (h : MkF w0 R7 st nx nv es ev w) (hg : w.grownBy w' none) : MkF w0 R7 st nx nv es ev w' := ⟨h.keep.grown hg h.size (fun _ e => by cases e), h.ap.same hg⟩
theorem MkF.below (h : MkF w0 R7 st nx nv es ev w) (hb : Below w.heap.size w w') : MkF w0 R7 st nx nv es ev w' := ⟨h.keep.trans (hb.mono h.size), h.ap.below hb⟩
theorem MkF.cell (h : MkF w0 R7 st nx nv es ev w) : w.cell? ⟨R7, 0, none⟩ = some (.int .i64 st) ∧ w.cell? ⟨R7, 1, none⟩ = some nv ∧ w.cell? ⟨R7, 2, none⟩ = some ev :=
  ⟨cellsT_cell h.ap.head 0, cellsT_cell h.ap.head 1, cellsT_cell h.ap.head 2⟩
theorem MkF.rowN (h : MkF w0 R7 st nx nv es ev w) : w.ownsRow 0 3 1 nv nx.length (nx.map (Value.int .i64)) := h.ap.at 1 (by simp)
theorem MkF.rowE (h : MkF w0 R7 st nx nv es ev w) : w.ownsRow 0 4 1 ev es.length (es.map Value.bool) := h.ap.at 2 (by simp)
theorem MkF.nextN {x : Int} {t : TypeId} {g cp : Nat} {w1 : World} (h : MkF w0 R7 st nx nv es ev w) (hg : (w.alloc (.cells #[.int .i64 x] t)).grownBy w1 nv.ownBlock)
    (ho : w1.ownsRow 0 3 1 (.slice (some ⟨g, 0, none⟩) (nx.length + 1) cp) (nx.length + 1) (nx.map (Value.int .i64) ++ [.int .i64 x])) (hat : nv.ownBlock = some g ∨ g = (w.alloc (.cells #[.int .i64 x] t)).heap.size) :
    MkF w0 R7 st (nx ++ [x]) (.slice (some ⟨g, 0, none⟩) (nx.length + 1) cp) es ev (w1.setCell ⟨R7, 1, none⟩ (.slice (some ⟨g, 0, none⟩) (nx.length + 1) cp)) ∧ w1.cell? ⟨R7, 1, none⟩ = some nv ∧ w1.frozen? ⟨R7, 1, none⟩ = false := by
  have h1 := h.same (World.grownBy_alloc w (.cells #[.int .i64 x] t) none)
  have hlt := h1.ap.ltAt 1 (by simp)
  have a1 := h1.ap.turnAt 1 (by simp) hg (rowT 3 1 (.slice (some ⟨g, 0, none⟩) (nx.length + 1) cp) (nx ++ [x]).length ((nx ++ [x]).map (Value.int .i64)))
    (by show w1.ownsRow 0 _ _ _ _ _; rw [List.length_append, List.map_append]; exact ho) h1.size
    (fun j e => ⟨by cases e; exact hat.imp id (fun e => Nat.le_of_eq e.symm), (World.ownsRow.lt ho j e).2⟩)
  have hs1 : w0.heap.size ≤ w1.heap.size := Nat.le_trans h1.size hg.size
  have hb1 := (h.ap.lt R7 rfl).1
  exact ⟨⟨((h1.keep.grown hg h1.size (fun j e => (hlt j e).1)).setCell (p := ⟨R7, 1, none⟩) hb1 _), Apart.set a1 hs1 1 _⟩, cellsT_cell a1.head 1, cellsT_frozen a1.head 1⟩
theorem MkF.nextE {x : Bool} {t : TypeId} {g cp : Nat} {w1 : World} (h : MkF w0 R7 st nx nv es ev w) (hg : (w.alloc (.cells #[.bool x] t)).grownBy w1 ev.ownBlock)
    (ho : w1.ownsRow 0 4 1 (.slice (some ⟨g, 0, none⟩) (es.length + 1) cp) (es.length + 1) (es.map Value.bool ++ [.bool x])) (hat : ev.ownBlock = some g ∨ g = (w.alloc (.cells #[.bool x] t)).heap.size) :
    MkF w0 R7 st nx nv (es ++ [x]) (.slice (some ⟨g, 0, none⟩) (es.length + 1) cp) (w1.setCell ⟨R7, 2, none⟩ (.slice (some ⟨g, 0, none⟩) (es.length + 1) cp)) ∧ w1.cell? ⟨R7, 2, none⟩ = some ev ∧ w1.frozen? ⟨R7, 2, none⟩ = false := by
  have h1 := h.same (World.grownBy_alloc w (.cells #[.bool x] t) none)
  have hlt := h1.ap.ltAt 2 (by simp)
  have a1 := h1.ap.turnAt 2 (by simp) hg (rowT 4 1 (.slice (some ⟨g, 0, none⟩) (es.length + 1) cp) (es ++ [x]).length ((es ++ [x]).map Value.bool))
    (by show w1.ownsRow 0 _ _ _ _ _; rw [List.length_append, List.map_append]; exact ho) h1.size
    (fun j e => ⟨by cases e; exact hat.imp id (fun e => Nat.le_of_eq e.symm), (World.ownsRow.lt ho j e).2⟩)
  have hs1 : w0.heap.size ≤ w1.heap.size := Nat.le_trans h1.size hg.size
  have hb1 := (h.ap.lt R7 rfl).1
  exact ⟨⟨((h1.keep.grown hg h1.size (fun j e => (hlt j e).1)).setCell (p := ⟨R7, 2, none⟩) hb1 _), Apart.set a1 hs1 2 _⟩, cellsT_cell a1.head 2, cellsT_frozen a1.head 2⟩
end
theorem mk_start (w0 : World) (st : Int) : MkF w0 w0.heap.size st [] (.slice none 0 0) [] (.slice none 0 0) (w0.alloc (.cells #[.int .i64 st, .slice none 0 0, .slice none 0 0] 115)) := by
  have A1 := (Apart.nil w0.heap.size w0).more (World.grownBy_alloc w0 _ none) (cellsT w0.heap.size #[.int .i64 st, .slice none 0 0, .slice none 0 0] 115) (heap_alloc_new w0 _) (Nat.le_refl _) (fun j e => by cases e; simp)
  have A6 := (A1.idle (rowT 4 1 (.slice none 0 0) 0 []) (World.ownsRow_nil _ _ _ _) rfl).idle (rowT 3 1 (.slice none 0 0) 0 []) (World.ownsRow_nil _ _ _ _) rfl
  refine ⟨(Below.refl w0.heap.size w0).alloc (Nat.le_refl _) _, A6.perm ?_⟩
  have p : ∀ (a b r7 : Thing), [a, b, r7].Perm [r7, a, b] := fun a b r7 => List.perm_middle (l₁ := [a, b]) (l₂ := [])
  exact p _ _ _
end Go.Proofs.Ytlbblfbiiceofaa

namespace Go.Proofs.Ytlbblfbiiceofaa
open Go.RowKit

theorem l3Next_at (kind : Int) (letter thn : ByteArray) (many : Int) (hok : (Ru.mk kind letter thn many).ok = true) (s : Int) (w : World) (h0 : 0 ≤ s) (hs : s < ((Ru.mk kind letter thn many).st : Int)) (l : Nat) (hl : l < 3) :
    Calls Try.prog 123 #[.agg #[.int .i64 kind, .string letter, .string thn, .int .i64 many], .int .i64 s, .string (strOf l)] w fun e w' => e = .returned (.int .i64 ((Ru.mk kind letter thn many).nx s l)) ∧ Below w.heap.size w w' :=
  l3Next_any (r := Ru.mk kind letter thn many) hok s w h0 hs l hl

end Go.Proofs.Ytlbblfbiiceofaa

namespace Go.Proofs.Ytlbblfbiiceofaa
open Go.RowKit

/-- the first letters of a row of the table -/
def part (f : Int → Nat → Int) (j l : Nat) : List Int := (List.range l).map (f (j : Int))
theorem part_succ (f : Int → Nat → Int) (j l : Nat) : part f j (l + 1) = part f j l ++ [f (j : Int) l] := by simp [part, List.range_succ]
theorem part_length (f : Int → Nat → Int) (j l : Nat) : (part f j l).length = l := by simp [part]
theorem rdn_cut : ∀ l, l < 3 → ((⟨#[114, 100, 110]⟩ : ByteArray).extract l (l + 1)).data.toList = [byteOf l]
  | 0, _ => by kernel_rfl
  | 1, _ => by kernel_rfl
  | 2, _ => by kernel_rfl
theorem rdn_at (l : Nat) (hl : l < 3) (w : World) : (Instr.slice 9 (.string ⟨#[114, 100, 110]⟩) (some (.int .i64 (l : Int))) (some (.int .i64 ((l : Int) + 1))) none).run Try.prog w = .ok (.string (strOf l)) w := by
  have hs : (⟨#[114, 100, 110]⟩ : ByteArray).size = 3 := by kernel_rfl
  have h := slice_one ⟨#[114, 100, 110]⟩ l (by omega) w
  have e : (⟨#[114, 100, 110]⟩ : ByteArray).extract l (l + 1) = strOf l := bytes_ext (rdn_cut l hl)
  rw [e] at h; exact h
end Go.Proofs.Ytlbblfbiiceofaa

namespace Go.Proofs.Ytlbblfbiiceofaa
open Go.RowKit

set_option maxHeartbeats 4000000 in
set_option maxRecDepth 100000 in
theorem specMachineFor_0 (letter : ByteArray) (many : Int) (w : World) (hl : letterOk letter = true) (hk0 : 0 ≤ many) (hk4 : many ≤ 4) :
    Calls Try.prog 115 #[.agg #[.int .i64 0, .string letter, .string ⟨#[]⟩, .int .i64 many]] w (MachNewB (mfT (Ru.mk 0 letter ⟨#[]⟩ many)) true w) := by
  have hok : (Ru.mk 0 letter ⟨#[]⟩ many).ok = true := Ru.ok_iff.2 ⟨hl, .inl ⟨rfl, rfl, hk0, hk4⟩⟩
  obtain ⟨i0, hi, hz0, hz1, hz2⟩ := info_parts infoIntF
  obtain ⟨j0, hj, hj0, hj1, hj2⟩ := info_parts infoBoolF
  have HI := Lib.hid (And.intro hi (And.intro hz0 (And.intro hz1 hz2)))
  have HJ := Lib.hid (And.intro hj (And.intro hj0 (And.intro hj1 hj2)))
  clear hi hz0 hz1 hz2 hj hj0 hj1 hj2
  have HST : Hid (((Ru.mk 0 letter ⟨#[]⟩ many).st : Int) = many + 1) := by
    have : ((Ru.mk 0 letter ⟨#[]⟩ many).st : Int) = many + 1 := by simp [Ru.st]; omega
    exact Lib.hid this
  have HSB := Lib.hid (Ru.st_bd hok)
  have HEND : Hid (∀ x : Int, (Ru.mk 0 letter ⟨#[]⟩ many).endAt x = true) := Lib.hid (fun x => rfl)
  have hs0 : ((w.alloc (.cells #[.int .i64 0, .string letter, .string ⟨#[]⟩, .int .i64 many] 79)).alloc (.cells #[.int .i64 0, .slice none 0 0, .slice none 0 0] 115)).heap.size = w.heap.size + 1 + 1 := by simp
  have B1 := Lib.hid ((RuBox.new (w := w) 0 letter ⟨#[]⟩ many 79).below ((Below.refl _ _).alloc (Nat.le_refl _) (.cells #[.int .i64 0, .slice none 0 0, .slice none 0 0] 115)))
  have c0 := fun i => World.cell?_alloc_new (w.alloc (.cells #[.int .i64 0, .string letter, .string ⟨#[]⟩, .int .i64 many] 79)) #[.int .i64 0, .slice none 0 0, .slice none 0 0] 115 i
  have f0 := fun i => World.frozen?_alloc_new (w.alloc (.cells #[.int .i64 0, .string letter, .string ⟨#[]⟩, .int .i64 many] 79)) #[.int .i64 0, .slice none 0 0, .slice none 0 0] 115 i
  simp only [World.size_alloc] at c0 f0
  have q0 : Below w.heap.size w ((w.alloc (.cells #[.int .i64 0, .string letter, .string ⟨#[]⟩, .int .i64 many] 79)).alloc (.cells #[.int .i64 0, .slice none 0 0, .slice none 0 0] 115)) := ((Below.refl w.heap.size w).alloc (Nat.le_refl _) _).alloc (by simp) _
  have C0 := Lib.hid c0
  have F0 := Lib.hid f0
  have Q0 := Lib.hid q0
  have HS0 := Lib.hid hs0
  clear c0 f0 q0
  go_enter Try.func115, Try.ntmps115
  go_wp2_with fail
  refine (specRuleOk_any 0 letter ⟨#[]⟩ many _).mono ?_
  rintro e w1 ⟨rfl, hb1⟩
  rw [hok]
  rw [hs0] at hb1
  have hB1 := Lib.hid hb1
  have BX := Lib.hid (B1.out.below (by rw [hs0]; exact hb1))
  have y0 := BX.out.c0
  have y1 := BX.out.c1
  have y2 := BX.out.c2
  have y3 := BX.out.c3
  have HOK := Lib.hid hok
  clear hs0 hb1 hok
  have M0 := Lib.hid (mk_start w1 (many + 1))
  go_wp2_with fail
  clear y0 y1 y2 y3
  go_loopw [6] (fun i wr => ∃ (j : Nat) (nv ev : Value), j ≤ (Ru.mk 0 letter ⟨#[]⟩ many).st ∧ i = .int .i64 (j : Int) ∧ MkF w1 w1.heap.size (many + 1) (tabTo (Ru.mk 0 letter ⟨#[]⟩ many).nx j) nv (endsTo (Ru.mk 0 letter ⟨#[]⟩ many).endAt j) ev wr) (fun i _ => (Ru.mk 0 letter ⟨#[]⟩ many).st - (intOf i).toNat)
  case atStart => exact ⟨0, _, _, Nat.zero_le _, rfl, M0.out⟩
  case round =>
    obtain ⟨j, nv, ev, hj, rfl, hM⟩ := hrel
    have M1 := Lib.hid hM
    clear hM
    have hj6 : j ≤ 6 := Nat.le_trans hj HSB.out.2
    by_cases hlt : j < (Ru.mk 0 letter ⟨#[]⟩ many).st
    · have hlt' : (j : Int) < many + 1 := by have := HST.out; omega
      go_wp2_with fail
      go_loopw [7] (fun i wr => ∃ (l : Nat) (nv : Value), l ≤ 3 ∧ i = .int .i64 (l : Int) ∧ MkF w1 w1.heap.size (many + 1) (tabTo (Ru.mk 0 letter ⟨#[]⟩ many).nx j ++ part (Ru.mk 0 letter ⟨#[]⟩ many).nx j l) nv (endsTo (Ru.mk 0 letter ⟨#[]⟩ many).endAt j) ev wr) (fun i _ => 3 - (intOf i).toNat)
      case atStart => exact ⟨0, nv, Nat.zero_le _, rfl, by rw [show part (Ru.mk 0 letter ⟨#[]⟩ many).nx j 0 = [] from rfl, List.append_nil]; exact M1.out⟩
      case round =>
        obtain ⟨l, nv', hl3, rfl, hM⟩ := hrel
        have M2 := Lib.hid hM
        clear hM
        by_cases hl : l < 3
        · have hlen : (tabTo (Ru.mk 0 letter ⟨#[]⟩ many).nx j ++ part (Ru.mk 0 letter ⟨#[]⟩ many).nx j l).length ≤ 100 := by rw [List.length_append, tabTo_length, part_length]; omega
          have HPS : Hid (tabTo (Ru.mk 0 letter ⟨#[]⟩ many).nx j ++ part (Ru.mk 0 letter ⟨#[]⟩ many).nx j (l + 1) = (tabTo (Ru.mk 0 letter ⟨#[]⟩ many).nx j ++ part (Ru.mk 0 letter ⟨#[]⟩ many).nx j l) ++ [(Ru.mk 0 letter ⟨#[]⟩ many).nx (j : Int) l]) := by
            have : tabTo (Ru.mk 0 letter ⟨#[]⟩ many).nx j ++ part (Ru.mk 0 letter ⟨#[]⟩ many).nx j (l + 1) = (tabTo (Ru.mk 0 letter ⟨#[]⟩ many).nx j ++ part (Ru.mk 0 letter ⟨#[]⟩ many).nx j l) ++ [(Ru.mk 0 letter ⟨#[]⟩ many).nx (j : Int) l] := by rw [part_succ, List.append_assoc]
            exact Lib.hid this
          have hjst : (j : Int) < ((Ru.mk 0 letter ⟨#[]⟩ many).st : Int) := by omega
          have HCALL := Lib.hid (fun W => l3Next_at 0 letter ⟨#[]⟩ many HOK.out (j : Int) W (by omega) hjst l hl)
          have hsl := fun W => rdn_at l hl W
          have hq1 : IntKind.i64.wrap ((l : Int) + 1) = (l : Int) + 1 := IntWalk.i64_in _ (by omega)
          clear hjst
          generalize tabTo (Ru.mk 0 letter ⟨#[]⟩ many).nx j ++ part (Ru.mk 0 letter ⟨#[]⟩ many).nx j l = nx at *
          generalize (Ru.mk 0 letter ⟨#[]⟩ many).nx (j : Int) l = x at *
          have Md := Lib.hid (M2.out.same (grown_drew _ none))
          have BXd := Lib.hid (BX.out.below (by have := Md.out.keep; exact this))
          have z0 := Md.out.cell.1
          have z1 := Md.out.cell.2.1
          have y0 := BXd.out.c0
          have y1 := BXd.out.c1
          have y2 := BXd.out.c2
          have y3 := BXd.out.c3
          go_wp2_with fail
          go_region_law (first | (go_simp; go_at_call 123; (try rw [hq1]); refine (HCALL.out _).mono ?_; rintro e w2 ⟨rfl, hb⟩; have M3 := Lib.hid (Md.out.below hb); have x11 := M3.out.cell.2.1; have x13 := fun x => (M3.out.same (World.grownBy_alloc w2 (.cells #[.int .i64 x] 3) none)).cell.2.1) | (refine step_append_lies _ rfl _ _ 113 rfl 0 3 i0 (.int .i64 0) 1 8 Try.underlying113 HI.out.1 HI.out.2.1 HI.out.2.2.1 HI.out.2.2.2 rfl (by decide) nv' nx.length (nx.map (Value.int .i64)) rfl (M3.out.rowN.alloc _) ⟨w2.heap.size, 0, none⟩ 1 1 [.int .i64 x] rfl rfl (cell_one_new _ _ _) (by simp [Value.oneCell']) (by omega) (by unfold maxLen; omega) (by omega) (Nat.zero_le _) _ rfl ?_; intro g cp w4 hown hgrow hat hlt3; obtain ⟨M4, x31, f31⟩ := M3.out.nextN hgrow hown hat))
          all_goals
            clear z0 z1 y0 y1 y2 y3 x11 x13 hb hsl hq1
            go_wp2
            go_roundw
            case rel => exact ⟨l + 1, _, by omega, by go_num, by rw [HPS.out]; exact M4⟩
            case measure => simp [intOf]; omega
        · obtain rfl : l = 3 := by omega
          have hT : tabTo (Ru.mk 0 letter ⟨#[]⟩ many).nx j ++ part (Ru.mk 0 letter ⟨#[]⟩ many).nx j 3 = tabTo (Ru.mk 0 letter ⟨#[]⟩ many).nx (j + 1) := rfl
          rw [hT] at M2
          have hEJ : (Ru.mk 0 letter ⟨#[]⟩ many).endAt (j : Int) = true := HEND.out _
          have hEE : Hid (endsTo (Ru.mk 0 letter ⟨#[]⟩ many).endAt (j + 1) = endsTo (Ru.mk 0 letter ⟨#[]⟩ many).endAt j ++ [true]) := by
            have : endsTo (Ru.mk 0 letter ⟨#[]⟩ many).endAt (j + 1) = endsTo (Ru.mk 0 letter ⟨#[]⟩ many).endAt j ++ [true] := by rw [endsTo_succ, hEJ]
            exact Lib.hid this
          have hes : (endsTo (Ru.mk 0 letter ⟨#[]⟩ many).endAt j).length ≤ 100 := by rw [endsTo_length]; omega
          clear hT hEJ
          generalize hnx : tabTo (Ru.mk 0 letter ⟨#[]⟩ many).nx (j + 1) = nx at *
          have HNX := Lib.hid hnx
          clear hnx
          generalize endsTo (Ru.mk 0 letter ⟨#[]⟩ many).endAt j = es at *
          have BXd := Lib.hid (BX.out.below M2.out.keep)
          have z0 := M2.out.cell.1
          have z2 := M2.out.cell.2.2
          have y0 := BXd.out.c0
          have y3 := BXd.out.c3
          go_wp2_with (at_builtin; refine wpList_append_lies _ rfl _ _ 84 rfl 0 4 j0 (.bool false) 1 1 Try.underlying84 HJ.out.1 HJ.out.2.1 HJ.out.2.2.1 HJ.out.2.2.2 rfl (by decide) ev es.length (es.map Value.bool) rfl (M2.out.rowE.alloc _) ⟨wr.heap.size, 0, none⟩ 1 1 [.bool true] rfl rfl (cell_one_new _ _ _) (by simp [Value.oneCell']) (by omega) (by unfold maxLen; omega) (by omega) (Nat.zero_le _) _ rfl ?_; intro g cp w4 hown hgrow hat hlt3; obtain ⟨M4, x31, f31⟩ := M2.out.nextE hgrow hown hat)
          go_roundw
          case rel => exact ⟨j + 1, _, _, hlt, by go_num, by rw [hEE.out, HNX.out]; exact M4⟩
          case measure => simp [intOf]; omega
    · obtain rfl : j = (Ru.mk 0 letter ⟨#[]⟩ many).st := by omega
      have hlt' : ¬ ((((Ru.mk 0 letter ⟨#[]⟩ many).st : Nat) : Int) < many + 1) := by have := HST.out; omega
      obtain ⟨a1, c1, rfl⟩ := ownsRow_slice M1.out.rowN
      obtain ⟨a2, c2, rfl⟩ := ownsRow_slice M1.out.rowE
      have hT : Hid (mfT (Ru.mk 0 letter ⟨#[]⟩ many) = ⟨many + 1, tabTo (Ru.mk 0 letter ⟨#[]⟩ many).nx (Ru.mk 0 letter ⟨#[]⟩ many).st, endsTo (Ru.mk 0 letter ⟨#[]⟩ many).endAt (Ru.mk 0 letter ⟨#[]⟩ many).st⟩) := by
        have : mfT (Ru.mk 0 letter ⟨#[]⟩ many) = ⟨many + 1, tabTo (Ru.mk 0 letter ⟨#[]⟩ many).nx (Ru.mk 0 letter ⟨#[]⟩ many).st, endsTo (Ru.mk 0 letter ⟨#[]⟩ many).endAt (Ru.mk 0 letter ⟨#[]⟩ many).st⟩ := by rw [mfT, HST.out]
        exact Lib.hid this
      generalize hnx : tabTo (Ru.mk 0 letter ⟨#[]⟩ many).nx (Ru.mk 0 letter ⟨#[]⟩ many).st = nx at *
      generalize hes : endsTo (Ru.mk 0 letter ⟨#[]⟩ many).endAt (Ru.mk 0 letter ⟨#[]⟩ many).st = es at *
      clear hnx hes
      have hn2 : w.heap.size + 1 + 1 ≤ w1.heap.size := by have := hB1.out.size; rw [HS0.out] at this; exact this
      obtain ⟨⟨h0, h1, h2⟩, k0, k1, k2⟩ := zeros_kept C0.out F0.out hB1.out (Nat.lt_succ_self _) M1.out.keep hn2
      have z0 := M1.out.cell.1
      have z1 := M1.out.cell.2.1
      have z2 := M1.out.cell.2.2
      have hA := M1.out.ap.tail
      have q3 : Below w.heap.size w wr := (Q0.out.trans (hB1.out.mono (by omega))).trans (M1.out.keep.mono (by omega))
      have FI := Lib.hid (fin_cells (x := .int .i64 (many + 1)) (y := .slice a1 nx.length c1) (z := .slice a2 es.length c2) (B := w.heap.size) (b := w.heap.size + 1) hA q3 (Nat.le_succ _) (by omega) (some3 h0 h1 h2) (by omega))
      clear q3 hA
      go_wp2
      obtain ⟨r1, r2, r3, r4, r5⟩ := FI.out _ rfl
      refine bodyPost_ret (v := .tuple #[.agg #[.int .i64 (many + 1), .slice a1 nx.length c1, .slice a2 es.length c2], .bool true]) ?_ rfl (by rw [hT.out]; exact ⟨a1, a2, c1, c2, rfl, r1, r2⟩)
      simp [results, Try.results115, go_sem, r3, r4, r5]
end Go.Proofs.Ytlbblfbiiceofaa

namespace Go.Proofs.Ytlbblfbiiceofaa
open Go.RowKit

set_option maxHeartbeats 4000000 in
set_option maxRecDepth 100000 in
theorem specMachineFor_1 (letter : ByteArray) (many : Int) (w : World) (hl : letterOk letter = true) (hk0 : 2 ≤ many) (hk4 : many ≤ 4) :
    Calls Try.prog 115 #[.agg #[.int .i64 1, .string letter, .string ⟨#[]⟩, .int .i64 many]] w (MachNewB (mfT (Ru.mk 1 letter ⟨#[]⟩ many)) true w) := by
  have hok : (Ru.mk 1 letter ⟨#[]⟩ many).ok = true := Ru.ok_iff.2 ⟨hl, .inr (.inl ⟨rfl, rfl, hk0, hk4⟩)⟩
  obtain ⟨i0, hi, hz0, hz1, hz2⟩ := info_parts infoIntF
  obtain ⟨j0, hj, hj0, hj1, hj2⟩ := info_parts infoBoolF
  have HI := Lib.hid (And.intro hi (And.intro hz0 (And.intro hz1 hz2)))
  have HJ := Lib.hid (And.intro hj (And.intro hj0 (And.intro hj1 hj2)))
  clear hi hz0 hz1 hz2 hj hj0 hj1 hj2
  have HST : Hid (((Ru.mk 1 letter ⟨#[]⟩ many).st : Int) = many + 1) := by
    have : ((Ru.mk 1 letter ⟨#[]⟩ many).st : Int) = many + 1 := by simp [Ru.st]; omega
    exact Lib.hid this
  have HSB := Lib.hid (Ru.st_bd hok)
  have HEND : Hid (∀ x : Int, (Ru.mk 1 letter ⟨#[]⟩ many).endAt x = (x == 0 || x == many)) := Lib.hid (fun x => rfl)
  have hs0 : ((w.alloc (.cells #[.int .i64 1, .string letter, .string ⟨#[]⟩, .int .i64 many] 79)).alloc (.cells #[.int .i64 0, .slice none 0 0, .slice none 0 0] 115)).heap.size = w.heap.size + 1 + 1 := by simp
  have B1 := Lib.hid ((RuBox.new (w := w) 1 letter ⟨#[]⟩ many 79).below ((Below.refl _ _).alloc (Nat.le_refl _) (.cells #[.int .i64 0, .slice none 0 0, .slice none 0 0] 115)))
  have c0 := fun i => World.cell?_alloc_new (w.alloc (.cells #[.int .i64 1, .string letter, .string ⟨#[]⟩, .int .i64 many] 79)) #[.int .i64 0, .slice none 0 0, .slice none 0 0] 115 i
  have f0 := fun i => World.frozen?_alloc_new (w.alloc (.cells #[.int .i64 1, .string letter, .string ⟨#[]⟩, .int .i64 many] 79)) #[.int .i64 0, .slice none 0 0, .slice none 0 0] 115 i
  simp only [World.size_alloc] at c0 f0
  have q0 : Below w.heap.size w ((w.alloc (.cells #[.int .i64 1, .string letter, .string ⟨#[]⟩, .int .i64 many] 79)).alloc (.cells #[.int .i64 0, .slice none 0 0, .slice none 0 0] 115)) := ((Below.refl w.heap.size w).alloc (Nat.le_refl _) _).alloc (by simp) _
  have C0 := Lib.hid c0
  have F0 := Lib.hid f0
  have Q0 := Lib.hid q0
  have HS0 := Lib.hid hs0
  clear c0 f0 q0
  go_enter Try.func115, Try.ntmps115
  go_wp2_with fail
  refine (specRuleOk_any 1 letter ⟨#[]⟩ many _).mono ?_
  rintro e w1 ⟨rfl, hb1⟩
  rw [hok]
  rw [hs0] at hb1
  have hB1 := Lib.hid hb1
  have BX := Lib.hid (B1.out.below (by rw [hs0]; exact hb1))
  have y0 := BX.out.c0
  have y1 := BX.out.c1
  have y2 := BX.out.c2
  have y3 := BX.out.c3
  have HOK := Lib.hid hok
  clear hs0 hb1 hok
  have M0 := Lib.hid (mk_start w1 (many + 1))
  go_wp2_with fail
  clear y0 y1 y2 y3
  go_loopw [6] (fun i wr => ∃ (j : Nat) (nv ev : Value), j ≤ (Ru.mk 1 letter ⟨#[]⟩ many).st ∧ i = .int .i64 (j : Int) ∧ MkF w1 w1.heap.size (many + 1) (tabTo (Ru.mk 1 letter ⟨#[]⟩ many).nx j) nv (endsTo (Ru.mk 1 letter ⟨#[]⟩ many).endAt j) ev wr) (fun i _ => (Ru.mk 1 letter ⟨#[]⟩ many).st - (intOf i).toNat)
  case atStart => exact ⟨0, _, _, Nat.zero_le _, rfl, M0.out⟩
  case round =>
    obtain ⟨j, nv, ev, hj, rfl, hM⟩ := hrel
    have M1 := Lib.hid hM
    clear hM
    have hj6 : j ≤ 6 := Nat.le_trans hj HSB.out.2
    by_cases hlt : j < (Ru.mk 1 letter ⟨#[]⟩ many).st
    · have hlt' : (j : Int) < many + 1 := by have := HST.out; omega
      go_wp2_with fail
      go_loopw [7] (fun i wr => ∃ (l : Nat) (nv : Value), l ≤ 3 ∧ i = .int .i64 (l : Int) ∧ MkF w1 w1.heap.size (many + 1) (tabTo (Ru.mk 1 letter ⟨#[]⟩ many).nx j ++ part (Ru.mk 1 letter ⟨#[]⟩ many).nx j l) nv (endsTo (Ru.mk 1 letter ⟨#[]⟩ many).endAt j) ev wr) (fun i _ => 3 - (intOf i).toNat)
      case atStart => exact ⟨0, nv, Nat.zero_le _, rfl, by rw [show part (Ru.mk 1 letter ⟨#[]⟩ many).nx j 0 = [] from rfl, List.append_nil]; exact M1.out⟩
      case round =>
        obtain ⟨l, nv', hl3, rfl, hM⟩ := hrel
        have M2 := Lib.hid hM
        clear hM
        by_cases hl : l < 3
        · have hlen : (tabTo (Ru.mk 1 letter ⟨#[]⟩ many).nx j ++ part (Ru.mk 1 letter ⟨#[]⟩ many).nx j l).length ≤ 100 := by rw [List.length_append, tabTo_length, part_length]; omega
          have HPS : Hid (tabTo (Ru.mk 1 letter ⟨#[]⟩ many).nx j ++ part (Ru.mk 1 letter ⟨#[]⟩ many).nx j (l + 1) = (tabTo (Ru.mk 1 letter ⟨#[]⟩ many).nx j ++ part (Ru.mk 1 letter ⟨#[]⟩ many).nx j l) ++ [(Ru.mk 1 letter ⟨#[]⟩ many).nx (j : Int) l]) := by
            have : tabTo (Ru.mk 1 letter ⟨#[]⟩ many).nx j ++ part (Ru.mk 1 letter ⟨#[]⟩ many).nx j (l + 1) = (tabTo (Ru.mk 1 letter ⟨#[]⟩ many).nx j ++ part (Ru.mk 1 letter ⟨#[]⟩ many).nx j l) ++ [(Ru.mk 1 letter ⟨#[]⟩ many).nx (j : Int) l] := by rw [part_succ, List.append_assoc]
            exact Lib.hid this
          have hjst : (j : Int) < ((Ru.mk 1 letter ⟨#[]⟩ many).st : Int) := by omega
          have HCALL := Lib.hid (fun W => l3Next_at 1 letter ⟨#[]⟩ many HOK.out (j : Int) W (by omega) hjst l hl)
          have hsl := fun W => rdn_at l hl W
          have hq1 : IntKind.i64.wrap ((l : Int) + 1) = (l : Int) + 1 := IntWalk.i64_in _ (by omega)
          clear hjst
          generalize tabTo (Ru.mk 1 letter ⟨#[]⟩ many).nx j ++ part (Ru.mk 1 letter ⟨#[]⟩ many).nx j l = nx at *
          generalize (Ru.mk 1 letter ⟨#[]⟩ many).nx (j : Int) l = x at *
          have Md := Lib.hid (M2.out.same (grown_drew _ none))
          have BXd := Lib.hid (BX.out.below (by have := Md.out.keep; exact this))
          have z0 := Md.out.cell.1
          have z1 := Md.out.cell.2.1
          have y0 := BXd.out.c0
          have y1 := BXd.out.c1
          have y2 := BXd.out.c2
          have y3 := BXd.out.c3
          go_wp2_with fail
          go_region_law (first | (go_simp; go_at_call 123; (try rw [hq1]); refine (HCALL.out _).mono ?_; rintro e w2 ⟨rfl, hb⟩; have M3 := Lib.hid (Md.out.below hb); have x11 := M3.out.cell.2.1; have x13 := fun x => (M3.out.same (World.grownBy_alloc w2 (.cells #[.int .i64 x] 3) none)).cell.2.1) | (refine step_append_lies _ rfl _ _ 113 rfl 0 3 i0 (.int .i64 0) 1 8 Try.underlying113 HI.out.1 HI.out.2.1 HI.out.2.2.1 HI.out.2.2.2 rfl (by decide) nv' nx.length (nx.map (Value.int .i64)) rfl (M3.out.rowN.alloc _) ⟨w2.heap.size, 0, none⟩ 1 1 [.int .i64 x] rfl rfl (cell_one_new _ _ _) (by simp [Value.oneCell']) (by omega) (by unfold maxLen; omega) (by omega) (Nat.zero_le _) _ rfl ?_; intro g cp w4 hown hgrow hat hlt3; obtain ⟨M4, x31, f31⟩ := M3.out.nextN hgrow hown hat))
          all_goals
            clear z0 z1 y0 y1 y2 y3 x11 x13 hb hsl hq1
            go_wp2
            go_roundw
            case rel => exact ⟨l + 1, _, by omega, by go_num, by rw [HPS.out]; exact M4⟩
            case measure => simp [intOf]; omega
        · obtain rfl : l = 3 := by omega
          have hT : tabTo (Ru.mk 1 letter ⟨#[]⟩ many).nx j ++ part (Ru.mk 1 letter ⟨#[]⟩ many).nx j 3 = tabTo (Ru.mk 1 letter ⟨#[]⟩ many).nx (j + 1) := rfl
          rw [hT] at M2
          obtain ⟨b0, hj0⟩ : ∃ b, ((j : Int) == 0) = b := ⟨_, rfl⟩
          obtain ⟨bm, hjm⟩ : ∃ b, ((j : Int) == many) = b := ⟨_, rfl⟩
          have hEJ : (Ru.mk 1 letter ⟨#[]⟩ many).endAt (j : Int) = (b0 || bm) := by rw [HEND.out, hj0, hjm]
          have hEE : Hid (endsTo (Ru.mk 1 letter ⟨#[]⟩ many).endAt (j + 1) = endsTo (Ru.mk 1 letter ⟨#[]⟩ many).endAt j ++ [b0 || bm]) := by
            have : endsTo (Ru.mk 1 letter ⟨#[]⟩ many).endAt (j + 1) = endsTo (Ru.mk 1 letter ⟨#[]⟩ many).endAt j ++ [b0 || bm] := by rw [endsTo_succ, hEJ]
            exact Lib.hid this
          have hes : (endsTo (Ru.mk 1 letter ⟨#[]⟩ many).endAt j).length ≤ 100 := by rw [endsTo_length]; omega
          clear hT hEJ
          generalize hnx : tabTo (Ru.mk 1 letter ⟨#[]⟩ many).nx (j + 1) = nx at *
          have HNX := Lib.hid hnx
          clear hnx
          generalize endsTo (Ru.mk 1 letter ⟨#[]⟩ many).endAt j = es at *
          have BXd := Lib.hid (BX.out.below M2.out.keep)
          have z0 := M2.out.cell.1
          have z2 := M2.out.cell.2.2
          have y0 := BXd.out.c0
          have y3 := BXd.out.c3
          cases b0 <;> cases bm
          all_goals
            go_wp2_with (at_builtin; refine wpList_append_lies _ rfl _ _ 84 rfl 0 4 j0 (.bool false) 1 1 Try.underlying84 HJ.out.1 HJ.out.2.1 HJ.out.2.2.1 HJ.out.2.2.2 rfl (by decide) ev es.length (es.map Value.bool) rfl (M2.out.rowE.alloc _) ⟨wr.heap.size, 0, none⟩ 1 1 [.bool _] rfl rfl (cell_one_new _ _ _) (by simp [Value.oneCell']) (by omega) (by unfold maxLen; omega) (by omega) (Nat.zero_le _) _ rfl ?_; intro g cp w4 hown hgrow hat hlt3; obtain ⟨M4, x31, f31⟩ := M2.out.nextE hgrow hown hat)
            go_roundw
            case rel => exact ⟨j + 1, _, _, hlt, by go_num, by rw [hEE.out, HNX.out]; exact M4⟩
            case measure => simp [intOf]; omega
    · obtain rfl : j = (Ru.mk 1 letter ⟨#[]⟩ many).st := by omega
      have hlt' : ¬ ((((Ru.mk 1 letter ⟨#[]⟩ many).st : Nat) : Int) < many + 1) := by have := HST.out; omega
      obtain ⟨a1, c1, rfl⟩ := ownsRow_slice M1.out.rowN
      obtain ⟨a2, c2, rfl⟩ := ownsRow_slice M1.out.rowE
      have hT : Hid (mfT (Ru.mk 1 letter ⟨#[]⟩ many) = ⟨many + 1, tabTo (Ru.mk 1 letter ⟨#[]⟩ many).nx (Ru.mk 1 letter ⟨#[]⟩ many).st, endsTo (Ru.mk 1 letter ⟨#[]⟩ many).endAt (Ru.mk 1 letter ⟨#[]⟩ many).st⟩) := by
        have : mfT (Ru.mk 1 letter ⟨#[]⟩ many) = ⟨many + 1, tabTo (Ru.mk 1 letter ⟨#[]⟩ many).nx (Ru.mk 1 letter ⟨#[]⟩ many).st, endsTo (Ru.mk 1 letter ⟨#[]⟩ many).endAt (Ru.mk 1 letter ⟨#[]⟩ many).st⟩ := by rw [mfT, HST.out]
        exact Lib.hid this
      generalize hnx : tabTo (Ru.mk 1 letter ⟨#[]⟩ many).nx (Ru.mk 1 letter ⟨#[]⟩ many).st = nx at *
      generalize hes : endsTo (Ru.mk 1 letter ⟨#[]⟩ many).endAt (Ru.mk 1 letter ⟨#[]⟩ many).st = es at *
      clear hnx hes
      have hn2 : w.heap.size + 1 + 1 ≤ w1.heap.size := by have := hB1.out.size; rw [HS0.out] at this; exact this
      obtain ⟨⟨h0, h1, h2⟩, k0, k1, k2⟩ := zeros_kept C0.out F0.out hB1.out (Nat.lt_succ_self _) M1.out.keep hn2
      have z0 := M1.out.cell.1
      have z1 := M1.out.cell.2.1
      have z2 := M1.out.cell.2.2
      have hA := M1.out.ap.tail
      have q3 : Below w.heap.size w wr := (Q0.out.trans (hB1.out.mono (by omega))).trans (M1.out.keep.mono (by omega))
      have FI := Lib.hid (fin_cells (x := .int .i64 (many + 1)) (y := .slice a1 nx.length c1) (z := .slice a2 es.length c2) (B := w.heap.size) (b := w.heap.size + 1) hA q3 (Nat.le_succ _) (by omega) (some3 h0 h1 h2) (by omega))
      clear q3 hA
      go_wp2
      obtain ⟨r1, r2, r3, r4, r5⟩ := FI.out _ rfl
      refine bodyPost_ret (v := .tuple #[.agg #[.int .i64 (many + 1), .slice a1 nx.length c1, .slice a2 es.length c2], .bool true]) ?_ rfl (by rw [hT.out]; exact ⟨a1, a2, c1, c2, rfl, r1, r2⟩)
      simp [results, Try.results115, go_sem, r3, r4, r5]
end Go.Proofs.Ytlbblfbiiceofaa

namespace Go.Proofs.Ytlbblfbiiceofaa
open Go.RowKit

set_option maxHeartbeats 4000000 in
set_option maxRecDepth 100000 in
theorem specMachineFor_2 (letter thn : ByteArray) (w : World) (hl : letterOk letter = true) (ht : letterOk thn = true) :
    Calls Try.prog 115 #[.agg #[.int .i64 2, .string letter, .string thn, .int .i64 0]] w (MachNewB (mfT (Ru.mk 2 letter thn 0)) true w) := by
  have hok : (Ru.mk 2 letter thn 0).ok = true := Ru.ok_iff.2 ⟨hl, .inr (.inr (.inl ⟨rfl, ht, rfl⟩))⟩
  obtain ⟨i0, hi, hz0, hz1, hz2⟩ := info_parts infoIntF
  obtain ⟨j0, hj, hj0, hj1, hj2⟩ := info_parts infoBoolF
  have HI := Lib.hid (And.intro hi (And.intro hz0 (And.intro hz1 hz2)))
  have HJ := Lib.hid (And.intro hj (And.intro hj0 (And.intro hj1 hj2)))
  clear hi hz0 hz1 hz2 hj hj0 hj1 hj2
  have HST : Hid (((Ru.mk 2 letter thn 0).st : Int) = 2) := by
    have : ((Ru.mk 2 letter thn 0).st : Int) = 2 := by simp [Ru.st]
    exact Lib.hid this
  have HSB := Lib.hid (Ru.st_bd hok)
  have HEND : Hid (∀ x : Int, (Ru.mk 2 letter thn 0).endAt x = true) := Lib.hid (fun x => rfl)
  have hs0 : ((w.alloc (.cells #[.int .i64 2, .string letter, .string thn, .int .i64 0] 79)).alloc (.cells #[.int .i64 0, .slice none 0 0, .slice none 0 0] 115)).heap.size = w.heap.size + 1 + 1 := by simp
  have B1 := Lib.hid ((RuBox.new (w := w) 2 letter thn 0 79).below ((Below.refl _ _).alloc (Nat.le_refl _) (.cells #[.int .i64 0, .slice none 0 0, .slice none 0 0] 115)))
  have c0 := fun i => World.cell?_alloc_new (w.alloc (.cells #[.int .i64 2, .string letter, .string thn, .int .i64 0] 79)) #[.int .i64 0, .slice none 0 0, .slice none 0 0] 115 i
  have f0 := fun i => World.frozen?_alloc_new (w.alloc (.cells #[.int .i64 2, .string letter, .string thn, .int .i64 0] 79)) #[.int .i64 0, .slice none 0 0, .slice none 0 0] 115 i
  simp only [World.size_alloc] at c0 f0
  have q0 : Below w.heap.size w ((w.alloc (.cells #[.int .i64 2, .string letter, .string thn, .int .i64 0] 79)).alloc (.cells #[.int .i64 0, .slice none 0 0, .slice none 0 0] 115)) := ((Below.refl w.heap.size w).alloc (Nat.le_refl _) _).alloc (by simp) _
  have C0 := Lib.hid c0
  have F0 := Lib.hid f0
  have Q0 := Lib.hid q0
  have HS0 := Lib.hid hs0
  clear c0 f0 q0
  go_enter Try.func115, Try.ntmps115
  go_wp2_with fail
  refine (specRuleOk_any 2 letter thn 0 _).mono ?_
  rintro e w1 ⟨rfl, hb1⟩
  rw [hok]
  rw [hs0] at hb1
  have hB1 := Lib.hid hb1
  have BX := Lib.hid (B1.out.below (by rw [hs0]; exact hb1))
  have y0 := BX.out.c0
  have y1 := BX.out.c1
  have y2 := BX.out.c2
  have y3 := BX.out.c3
  have HOK := Lib.hid hok
  clear hs0 hb1 hok
  have M0 := Lib.hid (mk_start w1 (2))
  go_wp2_with fail
  clear y0 y1 y2 y3
  go_loopw [6] (fun i wr => ∃ (j : Nat) (nv ev : Value), j ≤ (Ru.mk 2 letter thn 0).st ∧ i = .int .i64 (j : Int) ∧ MkF w1 w1.heap.size (2) (tabTo (Ru.mk 2 letter thn 0).nx j) nv (endsTo (Ru.mk 2 letter thn 0).endAt j) ev wr) (fun i _ => (Ru.mk 2 letter thn 0).st - (intOf i).toNat)
  case atStart => exact ⟨0, _, _, Nat.zero_le _, rfl, M0.out⟩
  case round =>
    obtain ⟨j, nv, ev, hj, rfl, hM⟩ := hrel
    have M1 := Lib.hid hM
    clear hM
    have hj6 : j ≤ 6 := Nat.le_trans hj HSB.out.2
    by_cases hlt : j < (Ru.mk 2 letter thn 0).st
    · have hlt' : (j : Int) < 2 := by have := HST.out; omega
      go_wp2_with fail
      go_loopw [7] (fun i wr => ∃ (l : Nat) (nv : Value), l ≤ 3 ∧ i = .int .i64 (l : Int) ∧ MkF w1 w1.heap.size (2) (tabTo (Ru.mk 2 letter thn 0).nx j ++ part (Ru.mk 2 letter thn 0).nx j l) nv (endsTo (Ru.mk 2 letter thn 0).endAt j) ev wr) (fun i _ => 3 - (intOf i).toNat)
      case atStart => exact ⟨0, nv, Nat.zero_le _, rfl, by rw [show part (Ru.mk 2 letter thn 0).nx j 0 = [] from rfl, List.append_nil]; exact M1.out⟩
      case round =>
        obtain ⟨l, nv', hl3, rfl, hM⟩ := hrel
        have M2 := Lib.hid hM
        clear hM
        by_cases hl : l < 3
        · have hlen : (tabTo (Ru.mk 2 letter thn 0).nx j ++ part (Ru.mk 2 letter thn 0).nx j l).length ≤ 100 := by rw [List.length_append, tabTo_length, part_length]; omega
          have HPS : Hid (tabTo (Ru.mk 2 letter thn 0).nx j ++ part (Ru.mk 2 letter thn 0).nx j (l + 1) = (tabTo (Ru.mk 2 letter thn 0).nx j ++ part (Ru.mk 2 letter thn 0).nx j l) ++ [(Ru.mk 2 letter thn 0).nx (j : Int) l]) := by
            have : tabTo (Ru.mk 2 letter thn 0).nx j ++ part (Ru.mk 2 letter thn 0).nx j (l + 1) = (tabTo (Ru.mk 2 letter thn 0).nx j ++ part (Ru.mk 2 letter thn 0).nx j l) ++ [(Ru.mk 2 letter thn 0).nx (j : Int) l] := by rw [part_succ, List.append_assoc]
            exact Lib.hid this
          have hjst : (j : Int) < ((Ru.mk 2 letter thn 0).st : Int) := by omega
          have HCALL := Lib.hid (fun W => l3Next_at 2 letter thn 0 HOK.out (j : Int) W (by omega) hjst l hl)
          have hsl := fun W => rdn_at l hl W
          have hq1 : IntKind.i64.wrap ((l : Int) + 1) = (l : Int) + 1 := IntWalk.i64_in _ (by omega)
          clear hjst
          generalize tabTo (Ru.mk 2 letter thn 0).nx j ++ part (Ru.mk 2 letter thn 0).nx j l = nx at *
          generalize (Ru.mk 2 letter thn 0).nx (j : Int) l = x at *
          have Md := Lib.hid (M2.out.same (grown_drew _ none))
          have BXd := Lib.hid (BX.out.below (by have := Md.out.keep; exact this))
          have z0 := Md.out.cell.1
          have z1 := Md.out.cell.2.1
          have y0 := BXd.out.c0
          have y1 := BXd.out.c1
          have y2 := BXd.out.c2
          have y3 := BXd.out.c3
          go_wp2_with fail
          go_region_law (first | (go_simp; go_at_call 123; (try rw [hq1]); refine (HCALL.out _).mono ?_; rintro e w2 ⟨rfl, hb⟩; have M3 := Lib.hid (Md.out.below hb); have x11 := M3.out.cell.2.1; have x13 := fun x => (M3.out.same (World.grownBy_alloc w2 (.cells #[.int .i64 x] 3) none)).cell.2.1) | (refine step_append_lies _ rfl _ _ 113 rfl 0 3 i0 (.int .i64 0) 1 8 Try.underlying113 HI.out.1 HI.out.2.1 HI.out.2.2.1 HI.out.2.2.2 rfl (by decide) nv' nx.length (nx.map (Value.int .i64)) rfl (M3.out.rowN.alloc _) ⟨w2.heap.size, 0, none⟩ 1 1 [.int .i64 x] rfl rfl (cell_one_new _ _ _) (by simp [Value.oneCell']) (by omega) (by unfold maxLen; omega) (by omega) (Nat.zero_le _) _ rfl ?_; intro g cp w4 hown hgrow hat hlt3; obtain ⟨M4, x31, f31⟩ := M3.out.nextN hgrow hown hat))
          all_goals
            clear z0 z1 y0 y1 y2 y3 x11 x13 hb hsl hq1
            go_wp2
            go_roundw
            case rel => exact ⟨l + 1, _, by omega, by go_num, by rw [HPS.out]; exact M4⟩
            case measure => simp [intOf]; omega
        · obtain rfl : l = 3 := by omega
          have hT : tabTo (Ru.mk 2 letter thn 0).nx j ++ part (Ru.mk 2 letter thn 0).nx j 3 = tabTo (Ru.mk 2 letter thn 0).nx (j + 1) := rfl
          rw [hT] at M2
          have hEJ : (Ru.mk 2 letter thn 0).endAt (j : Int) = true := HEND.out _
          have hEE : Hid (endsTo (Ru.mk 2 letter thn 0).endAt (j + 1) = endsTo (Ru.mk 2 letter thn 0).endAt j ++ [true]) := by
            have : endsTo (Ru.mk 2 letter thn 0).endAt (j + 1) = endsTo (Ru.mk 2 letter thn 0).endAt j ++ [true] := by rw [endsTo_succ, hEJ]
            exact Lib.hid this
          have hes : (endsTo (Ru.mk 2 letter thn 0).endAt j).length ≤ 100 := by rw [endsTo_length]; omega
          clear hT hEJ
          generalize hnx : tabTo (Ru.mk 2 letter thn 0).nx (j + 1) = nx at *
          have HNX := Lib.hid hnx
          clear hnx
          generalize endsTo (Ru.mk 2 letter thn 0).endAt j = es at *
          have BXd := Lib.hid (BX.out.below M2.out.keep)
          have z0 := M2.out.cell.1
          have z2 := M2.out.cell.2.2
          have y0 := BXd.out.c0
          have y3 := BXd.out.c3
          go_wp2_with (at_builtin; refine wpList_append_lies _ rfl _ _ 84 rfl 0 4 j0 (.bool false) 1 1 Try.underlying84 HJ.out.1 HJ.out.2.1 HJ.out.2.2.1 HJ.out.2.2.2 rfl (by decide) ev es.length (es.map Value.bool) rfl (M2.out.rowE.alloc _) ⟨wr.heap.size, 0, none⟩ 1 1 [.bool true] rfl rfl (cell_one_new _ _ _) (by simp [Value.oneCell']) (by omega) (by unfold maxLen; omega) (by omega) (Nat.zero_le _) _ rfl ?_; intro g cp w4 hown hgrow hat hlt3; obtain ⟨M4, x31, f31⟩ := M2.out.nextE hgrow hown hat)
          go_roundw
          case rel => exact ⟨j + 1, _, _, hlt, by go_num, by rw [hEE.out, HNX.out]; exact M4⟩
          case measure => simp [intOf]; omega
    · obtain rfl : j = (Ru.mk 2 letter thn 0).st := by omega
      have hlt' : ¬ ((((Ru.mk 2 letter thn 0).st : Nat) : Int) < 2) := by have := HST.out; omega
      obtain ⟨a1, c1, rfl⟩ := ownsRow_slice M1.out.rowN
      obtain ⟨a2, c2, rfl⟩ := ownsRow_slice M1.out.rowE
      have hT : Hid (mfT (Ru.mk 2 letter thn 0) = ⟨2, tabTo (Ru.mk 2 letter thn 0).nx (Ru.mk 2 letter thn 0).st, endsTo (Ru.mk 2 letter thn 0).endAt (Ru.mk 2 letter thn 0).st⟩) := by
        have : mfT (Ru.mk 2 letter thn 0) = ⟨2, tabTo (Ru.mk 2 letter thn 0).nx (Ru.mk 2 letter thn 0).st, endsTo (Ru.mk 2 letter thn 0).endAt (Ru.mk 2 letter thn 0).st⟩ := by rw [mfT, HST.out]
        exact Lib.hid this
      generalize hnx : tabTo (Ru.mk 2 letter thn 0).nx (Ru.mk 2 letter thn 0).st = nx at *
      generalize hes : endsTo (Ru.mk 2 letter thn 0).endAt (Ru.mk 2 letter thn 0).st = es at *
      clear hnx hes
      have hn2 : w.heap.size + 1 + 1 ≤ w1.heap.size := by have := hB1.out.size; rw [HS0.out] at this; exact this
      obtain ⟨⟨h0, h1, h2⟩, k0, k1, k2⟩ := zeros_kept C0.out F0.out hB1.out (Nat.lt_succ_self _) M1.out.keep hn2
      have z0 := M1.out.cell.1
      have z1 := M1.out.cell.2.1
      have z2 := M1.out.cell.2.2
      have hA := M1.out.ap.tail
      have q3 : Below w.heap.size w wr := (Q0.out.trans (hB1.out.mono (by omega))).trans (M1.out.keep.mono (by omega))
      have FI := Lib.hid (fin_cells (x := .int .i64 (2)) (y := .slice a1 nx.length c1) (z := .slice a2 es.length c2) (B := w.heap.size) (b := w.heap.size + 1) hA q3 (Nat.le_succ _) (by omega) (some3 h0 h1 h2) (by omega))
      clear q3 hA
      go_wp2
      obtain ⟨r1, r2, r3, r4, r5⟩ := FI.out _ rfl
      refine bodyPost_ret (v := .tuple #[.agg #[.int .i64 (2), .slice a1 nx.length c1, .slice a2 es.length c2], .bool true]) ?_ rfl (by rw [hT.out]; exact ⟨a1, a2, c1, c2, rfl, r1, r2⟩)
      simp [results, Try.results115, go_sem, r3, r4, r5]
end Go.Proofs.Ytlbblfbiiceofaa

namespace Go.Proofs.Ytlbblfbiiceofaa
open Go.RowKit

set_option maxHeartbeats 4000000 in
set_option maxRecDepth 100000 in
theorem specMachineFor_3 (letter : ByteArray) (many : Int) (w : World) (hl : letterOk letter = true) (hk0 : 0 ≤ many) (hk4 : many ≤ 5) :
    Calls Try.prog 115 #[.agg #[.int .i64 3, .string letter, .string ⟨#[]⟩, .int .i64 many]] w (MachNewB (mfT (Ru.mk 3 letter ⟨#[]⟩ many)) true w) := by
  have hok : (Ru.mk 3 letter ⟨#[]⟩ many).ok = true := Ru.ok_iff.2 ⟨hl, .inr (.inr (.inr (.inl ⟨rfl, rfl, hk0, hk4⟩)))⟩
  obtain ⟨i0, hi, hz0, hz1, hz2⟩ := info_parts infoIntF
  obtain ⟨j0, hj, hj0, hj1, hj2⟩ := info_parts infoBoolF
  have HI := Lib.hid (And.intro hi (And.intro hz0 (And.intro hz1 hz2)))
  have HJ := Lib.hid (And.intro hj (And.intro hj0 (And.intro hj1 hj2)))
  clear hi hz0 hz1 hz2 hj hj0 hj1 hj2
  have HST : Hid (((Ru.mk 3 letter ⟨#[]⟩ many).st : Int) = many + 1) := by
    have : ((Ru.mk 3 letter ⟨#[]⟩ many).st : Int) = many + 1 := by simp [Ru.st]; omega
    exact Lib.hid this
  have HSB := Lib.hid (Ru.st_bd hok)
  have HEND : Hid (∀ x : Int, (Ru.mk 3 letter ⟨#[]⟩ many).endAt x = true) := Lib.hid (fun x => rfl)
  have hs0 : ((w.alloc (.cells #[.int .i64 3, .string letter, .string ⟨#[]⟩, .int .i64 many] 79)).alloc (.cells #[.int .i64 0, .slice none 0 0, .slice none 0 0] 115)).heap.size = w.heap.size + 1 + 1 := by simp
  have B1 := Lib.hid ((RuBox.new (w := w) 3 letter ⟨#[]⟩ many 79).below ((Below.refl _ _).alloc (Nat.le_refl _) (.cells #[.int .i64 0, .slice none 0 0, .slice none 0 0] 115)))
  have c0 := fun i => World.cell?_alloc_new (w.alloc (.cells #[.int .i64 3, .string letter, .string ⟨#[]⟩, .int .i64 many] 79)) #[.int .i64 0, .slice none 0 0, .slice none 0 0] 115 i
  have f0 := fun i => World.frozen?_alloc_new (w.alloc (.cells #[.int .i64 3, .string letter, .string ⟨#[]⟩, .int .i64 many] 79)) #[.int .i64 0, .slice none 0 0, .slice none 0 0] 115 i
  simp only [World.size_alloc] at c0 f0
  have q0 : Below w.heap.size w ((w.alloc (.cells #[.int .i64 3, .string letter, .string ⟨#[]⟩, .int .i64 many] 79)).alloc (.cells #[.int .i64 0, .slice none 0 0, .slice none 0 0] 115)) := ((Below.refl w.heap.size w).alloc (Nat.le_refl _) _).alloc (by simp) _
  have C0 := Lib.hid c0
  have F0 := Lib.hid f0
  have Q0 := Lib.hid q0
  have HS0 := Lib.hid hs0
  clear c0 f0 q0
  go_enter Try.func115, Try.ntmps115
  go_wp2_with fail
  refine (specRuleOk_any 3 letter ⟨#[]⟩ many _).mono ?_
  rintro e w1 ⟨rfl, hb1⟩
  rw [hok]
  rw [hs0] at hb1
  have hB1 := Lib.hid hb1
  have BX := Lib.hid (B1.out.below (by rw [hs0]; exact hb1))
  have y0 := BX.out.c0
  have y1 := BX.out.c1
  have y2 := BX.out.c2
  have y3 := BX.out.c3
  have HOK := Lib.hid hok
  clear hs0 hb1 hok
  have M0 := Lib.hid (mk_start w1 (many + 1))
  go_wp2_with fail
  clear y0 y1 y2 y3
  go_loopw [6] (fun i wr => ∃ (j : Nat) (nv ev : Value), j ≤ (Ru.mk 3 letter ⟨#[]⟩ many).st ∧ i = .int .i64 (j : Int) ∧ MkF w1 w1.heap.size (many + 1) (tabTo (Ru.mk 3 letter ⟨#[]⟩ many).nx j) nv (endsTo (Ru.mk 3 letter ⟨#[]⟩ many).endAt j) ev wr) (fun i _ => (Ru.mk 3 letter ⟨#[]⟩ many).st - (intOf i).toNat)
  case atStart => exact ⟨0, _, _, Nat.zero_le _, rfl, M0.out⟩
  case round =>
    obtain ⟨j, nv, ev, hj, rfl, hM⟩ := hrel
    have M1 := Lib.hid hM
    clear hM
    have hj6 : j ≤ 6 := Nat.le_trans hj HSB.out.2
    by_cases hlt : j < (Ru.mk 3 letter ⟨#[]⟩ many).st
    · have hlt' : (j : Int) < many + 1 := by have := HST.out; omega
      go_wp2_with fail
      go_loopw [7] (fun i wr => ∃ (l : Nat) (nv : Value), l ≤ 3 ∧ i = .int .i64 (l : Int) ∧ MkF w1 w1.heap.size (many + 1) (tabTo (Ru.mk 3 letter ⟨#[]⟩ many).nx j ++ part (Ru.mk 3 letter ⟨#[]⟩ many).nx j l) nv (endsTo (Ru.mk 3 letter ⟨#[]⟩ many).endAt j) ev wr) (fun i _ => 3 - (intOf i).toNat)
      case atStart => exact ⟨0, nv, Nat.zero_le _, rfl, by rw [show part (Ru.mk 3 letter ⟨#[]⟩ many).nx j 0 = [] from rfl, List.append_nil]; exact M1.out⟩
      case round =>
        obtain ⟨l, nv', hl3, rfl, hM⟩ := hrel
        have M2 := Lib.hid hM
        clear hM
        by_cases hl : l < 3
        · have hlen : (tabTo (Ru.mk 3 letter ⟨#[]⟩ many).nx j ++ part (Ru.mk 3 letter ⟨#[]⟩ many).nx j l).length ≤ 100 := by rw [List.length_append, tabTo_length, part_length]; omega
          have HPS : Hid (tabTo (Ru.mk 3 letter ⟨#[]⟩ many).nx j ++ part (Ru.mk 3 letter ⟨#[]⟩ many).nx j (l + 1) = (tabTo (Ru.mk 3 letter ⟨#[]⟩ many).nx j ++ part (Ru.mk 3 letter ⟨#[]⟩ many).nx j l) ++ [(Ru.mk 3 letter ⟨#[]⟩ many).nx (j : Int) l]) := by
            have : tabTo (Ru.mk 3 letter ⟨#[]⟩ many).nx j ++ part (Ru.mk 3 letter ⟨#[]⟩ many).nx j (l + 1) = (tabTo (Ru.mk 3 letter ⟨#[]⟩ many).nx j ++ part (Ru.mk 3 letter ⟨#[]⟩ many).nx j l) ++ [(Ru.mk 3 letter ⟨#[]⟩ many).nx (j : Int) l] := by rw [part_succ, List.append_assoc]
            exact Lib.hid this
          have hjst : (j : Int) < ((Ru.mk 3 letter ⟨#[]⟩ many).st : Int) := by omega
          have HCALL := Lib.hid (fun W => l3Next_at 3 letter ⟨#[]⟩ many HOK.out (j : Int) W (by omega) hjst l hl)
          have hsl := fun W => rdn_at l hl W
          have hq1 : IntKind.i64.wrap ((l : Int) + 1) = (l : Int) + 1 := IntWalk.i64_in _ (by omega)
          clear hjst
          generalize tabTo (Ru.mk 3 letter ⟨#[]⟩ many).nx j ++ part (Ru.mk 3 letter ⟨#[]⟩ many).nx j l = nx at *
          generalize (Ru.mk 3 letter ⟨#[]⟩ many).nx (j : Int) l = x at *
          have Md := Lib.hid (M2.out.same (grown_drew _ none))
          have BXd := Lib.hid (BX.out.below (by have := Md.out.keep; exact this))
          have z0 := Md.out.cell.1
          have z1 := Md.out.cell.2.1
          have y0 := BXd.out.c0
          have y1 := BXd.out.c1
          have y2 := BXd.out.c2
          have y3 := BXd.out.c3
          go_wp2_with fail
          go_region_law (first | (go_simp; go_at_call 123; (try rw [hq1]); refine (HCALL.out _).mono ?_; rintro e w2 ⟨rfl, hb⟩; have M3 := Lib.hid (Md.out.below hb); have x11 := M3.out.cell.2.1; have x13 := fun x => (M3.out.same (World.grownBy_alloc w2 (.cells #[.int .i64 x] 3) none)).cell.2.1) | (refine step_append_lies _ rfl _ _ 113 rfl 0 3 i0 (.int .i64 0) 1 8 Try.underlying113 HI.out.1 HI.out.2.1 HI.out.2.2.1 HI.out.2.2.2 rfl (by decide) nv' nx.length (nx.map (Value.int .i64)) rfl (M3.out.rowN.alloc _) ⟨w2.heap.size, 0, none⟩ 1 1 [.int .i64 x] rfl rfl (cell_one_new _ _ _) (by simp [Value.oneCell']) (by omega) (by unfold maxLen; omega) (by omega) (Nat.zero_le _) _ rfl ?_; intro g cp w4 hown hgrow hat hlt3; obtain ⟨M4, x31, f31⟩ := M3.out.nextN hgrow hown hat))
          all_goals
            clear z0 z1 y0 y1 y2 y3 x11 x13 hb hsl hq1
            go_wp2
            go_roundw
            case rel => exact ⟨l + 1, _, by omega, by go_num, by rw [HPS.out]; exact M4⟩
            case measure => simp [intOf]; omega
        · obtain rfl : l = 3 := by omega
          have hT : tabTo (Ru.mk 3 letter ⟨#[]⟩ many).nx j ++ part (Ru.mk 3 letter ⟨#[]⟩ many).nx j 3 = tabTo (Ru.mk 3 letter ⟨#[]⟩ many).nx (j + 1) := rfl
          rw [hT] at M2
          have hEJ : (Ru.mk 3 letter ⟨#[]⟩ many).endAt (j : Int) = true := HEND.out _
          have hEE : Hid (endsTo (Ru.mk 3 letter ⟨#[]⟩ many).endAt (j + 1) = endsTo (Ru.mk 3 letter ⟨#[]⟩ many).endAt j ++ [true]) := by
            have : endsTo (Ru.mk 3 letter ⟨#[]⟩ many).endAt (j + 1) = endsTo (Ru.mk 3 letter ⟨#[]⟩ many).endAt j ++ [true] := by rw [endsTo_succ, hEJ]
            exact Lib.hid this
          have hes : (endsTo (Ru.mk 3 letter ⟨#[]⟩ many).endAt j).length ≤ 100 := by rw [endsTo_length]; omega
          clear hT hEJ
          generalize hnx : tabTo (Ru.mk 3 letter ⟨#[]⟩ many).nx (j + 1) = nx at *
          have HNX := Lib.hid hnx
          clear hnx
          generalize endsTo (Ru.mk 3 letter ⟨#[]⟩ many).endAt j = es at *
          have BXd := Lib.hid (BX.out.below M2.out.keep)
          have z0 := M2.out.cell.1
          have z2 := M2.out.cell.2.2
          have y0 := BXd.out.c0
          have y3 := BXd.out.c3
          go_wp2_with (at_builtin; refine wpList_append_lies _ rfl _ _ 84 rfl 0 4 j0 (.bool false) 1 1 Try.underlying84 HJ.out.1 HJ.out.2.1 HJ.out.2.2.1 HJ.out.2.2.2 rfl (by decide) ev es.length (es.map Value.bool) rfl (M2.out.rowE.alloc _) ⟨wr.heap.size, 0, none⟩ 1 1 [.bool true] rfl rfl (cell_one_new _ _ _) (by simp [Value.oneCell']) (by omega) (by unfold maxLen; omega) (by omega) (Nat.zero_le _) _ rfl ?_; intro g cp w4 hown hgrow hat hlt3; obtain ⟨M4, x31, f31⟩ := M2.out.nextE hgrow hown hat)
          go_roundw
          case rel => exact ⟨j + 1, _, _, hlt, by go_num, by rw [hEE.out, HNX.out]; exact M4⟩
          case measure => simp [intOf]; omega
    · obtain rfl : j = (Ru.mk 3 letter ⟨#[]⟩ many).st := by omega
      have hlt' : ¬ ((((Ru.mk 3 letter ⟨#[]⟩ many).st : Nat) : Int) < many + 1) := by have := HST.out; omega
      obtain ⟨a1, c1, rfl⟩ := ownsRow_slice M1.out.rowN
      obtain ⟨a2, c2, rfl⟩ := ownsRow_slice M1.out.rowE
      have hT : Hid (mfT (Ru.mk 3 letter ⟨#[]⟩ many) = ⟨many + 1, tabTo (Ru.mk 3 letter ⟨#[]⟩ many).nx (Ru.mk 3 letter ⟨#[]⟩ many).st, endsTo (Ru.mk 3 letter ⟨#[]⟩ many).endAt (Ru.mk 3 letter ⟨#[]⟩ many).st⟩) := by
        have : mfT (Ru.mk 3 letter ⟨#[]⟩ many) = ⟨many + 1, tabTo (Ru.mk 3 letter ⟨#[]⟩ many).nx (Ru.mk 3 letter ⟨#[]⟩ many).st, endsTo (Ru.mk 3 letter ⟨#[]⟩ many).endAt (Ru.mk 3 letter ⟨#[]⟩ many).st⟩ := by rw [mfT, HST.out]
        exact Lib.hid this
      generalize hnx : tabTo (Ru.mk 3 letter ⟨#[]⟩ many).nx (Ru.mk 3 letter ⟨#[]⟩ many).st = nx at *
      generalize hes : endsTo (Ru.mk 3 letter ⟨#[]⟩ many).endAt (Ru.mk 3 letter ⟨#[]⟩ many).st = es at *
      clear hnx hes
      have hn2 : w.heap.size + 1 + 1 ≤ w1.heap.size := by have := hB1.out.size; rw [HS0.out] at this; exact this
      obtain ⟨⟨h0, h1, h2⟩, k0, k1, k2⟩ := zeros_kept C0.out F0.out hB1.out (Nat.lt_succ_self _) M1.out.keep hn2
      have z0 := M1.out.cell.1
      have z1 := M1.out.cell.2.1
      have z2 := M1.out.cell.2.2
      have hA := M1.out.ap.tail
      have q3 : Below w.heap.size w wr := (Q0.out.trans (hB1.out.mono (by omega))).trans (M1.out.keep.mono (by omega))
      have FI := Lib.hid (fin_cells (x := .int .i64 (many + 1)) (y := .slice a1 nx.length c1) (z := .slice a2 es.length c2) (B := w.heap.size) (b := w.heap.size + 1) hA q3 (Nat.le_succ _) (by omega) (some3 h0 h1 h2) (by omega))
      clear q3 hA
      go_wp2
      obtain ⟨r1, r2, r3, r4, r5⟩ := FI.out _ rfl
      refine bodyPost_ret (v := .tuple #[.agg #[.int .i64 (many + 1), .slice a1 nx.length c1, .slice a2 es.length c2], .bool true]) ?_ rfl (by rw [hT.out]; exact ⟨a1, a2, c1, c2, rfl, r1, r2⟩)
      simp [results, Try.results115, go_sem, r3, r4, r5]
end Go.Proofs.Ytlbblfbiiceofaa

namespace Go.Proofs.Ytlbblfbiiceofaa
open Go.RowKit

set_option maxHeartbeats 4000000 in
set_option maxRecDepth 100000 in
theorem specMachineFor_4 (letter : ByteArray) (many : Int) (w : World) (hl : letterOk letter = true) (hk0 : 1 ≤ many) (hk4 : many ≤ 5) :
    Calls Try.prog 115 #[.agg #[.int .i64 4, .string letter, .string ⟨#[]⟩, .int .i64 many]] w (MachNewB (mfT (Ru.mk 4 letter ⟨#[]⟩ many)) true w) := by
  have hok : (Ru.mk 4 letter ⟨#[]⟩ many).ok = true := Ru.ok_iff.2 ⟨hl, .inr (.inr (.inr (.inr ⟨rfl, rfl, hk0, hk4⟩)))⟩
  obtain ⟨i0, hi, hz0, hz1, hz2⟩ := info_parts infoIntF
  obtain ⟨j0, hj, hj0, hj1, hj2⟩ := info_parts infoBoolF
  have HI := Lib.hid (And.intro hi (And.intro hz0 (And.intro hz1 hz2)))
  have HJ := Lib.hid (And.intro hj (And.intro hj0 (And.intro hj1 hj2)))
  clear hi hz0 hz1 hz2 hj hj0 hj1 hj2
  have HST : Hid (((Ru.mk 4 letter ⟨#[]⟩ many).st : Int) = many + 1) := by
    have : ((Ru.mk 4 letter ⟨#[]⟩ many).st : Int) = many + 1 := by simp [Ru.st]; omega
    exact Lib.hid this
  have HSB := Lib.hid (Ru.st_bd hok)
  have HEND : Hid (∀ x : Int, (Ru.mk 4 letter ⟨#[]⟩ many).endAt x = (x == many)) := Lib.hid (fun x => rfl)
  have hs0 : ((w.alloc (.cells #[.int .i64 4, .string letter, .string ⟨#[]⟩, .int .i64 many] 79)).alloc (.cells #[.int .i64 0, .slice none 0 0, .slice none 0 0] 115)).heap.size = w.heap.size + 1 + 1 := by simp
  have B1 := Lib.hid ((RuBox.new (w := w) 4 letter ⟨#[]⟩ many 79).below ((Below.refl _ _).alloc (Nat.le_refl _) (.cells #[.int .i64 0, .slice none 0 0, .slice none 0 0] 115)))
  have c0 := fun i => World.cell?_alloc_new (w.alloc (.cells #[.int .i64 4, .string letter, .string ⟨#[]⟩, .int .i64 many] 79)) #[.int .i64 0, .slice none 0 0, .slice none 0 0] 115 i
  have f0 := fun i => World.frozen?_alloc_new (w.alloc (.cells #[.int .i64 4, .string letter, .string ⟨#[]⟩, .int .i64 many] 79)) #[.int .i64 0, .slice none 0 0, .slice none 0 0] 115 i
  simp only [World.size_alloc] at c0 f0
  have q0 : Below w.heap.size w ((w.alloc (.cells #[.int .i64 4, .string letter, .string ⟨#[]⟩, .int .i64 many] 79)).alloc (.cells #[.int .i64 0, .slice none 0 0, .slice none 0 0] 115)) := ((Below.refl w.heap.size w).alloc (Nat.le_refl _) _).alloc (by simp) _
  have C0 := Lib.hid c0
  have F0 := Lib.hid f0
  have Q0 := Lib.hid q0
  have HS0 := Lib.hid hs0
  clear c0 f0 q0
  go_enter Try.func115, Try.ntmps115
  go_wp2_with fail
  refine (specRuleOk_any 4 letter ⟨#[]⟩ many _).mono ?_
  rintro e w1 ⟨rfl, hb1⟩
  rw [hok]
  rw [hs0] at hb1
  have hB1 := Lib.hid hb1
  have BX := Lib.hid (B1.out.below (by rw [hs0]; exact hb1))
  have y0 := BX.out.c0
  have y1 := BX.out.c1
  have y2 := BX.out.c2
  have y3 := BX.out.c3
  have HOK := Lib.hid hok
  clear hs0 hb1 hok
  have M0 := Lib.hid (mk_start w1 (many + 1))
  go_wp2_with fail
  clear y0 y1 y2 y3
  go_loopw [6] (fun i wr => ∃ (j : Nat) (nv ev : Value), j ≤ (Ru.mk 4 letter ⟨#[]⟩ many).st ∧ i = .int .i64 (j : Int) ∧ MkF w1 w1.heap.size (many + 1) (tabTo (Ru.mk 4 letter ⟨#[]⟩ many).nx j) nv (endsTo (Ru.mk 4 letter ⟨#[]⟩ many).endAt j) ev wr) (fun i _ => (Ru.mk 4 letter ⟨#[]⟩ many).st - (intOf i).toNat)
  case atStart => exact ⟨0, _, _, Nat.zero_le _, rfl, M0.out⟩
  case round =>
    obtain ⟨j, nv, ev, hj, rfl, hM⟩ := hrel
    have M1 := Lib.hid hM
    clear hM
    have hj6 : j ≤ 6 := Nat.le_trans hj HSB.out.2
    by_cases hlt : j < (Ru.mk 4 letter ⟨#[]⟩ many).st
    · have hlt' : (j : Int) < many + 1 := by have := HST.out; omega
      go_wp2_with fail
      go_loopw [7] (fun i wr => ∃ (l : Nat) (nv : Value), l ≤ 3 ∧ i = .int .i64 (l : Int) ∧ MkF w1 w1.heap.size (many + 1) (tabTo (Ru.mk 4 letter ⟨#[]⟩ many).nx j ++ part (Ru.mk 4 letter ⟨#[]⟩ many).nx j l) nv (endsTo (Ru.mk 4 letter ⟨#[]⟩ many).endAt j) ev wr) (fun i _ => 3 - (intOf i).toNat)
      case atStart => exact ⟨0, nv, Nat.zero_le _, rfl, by rw [show part (Ru.mk 4 letter ⟨#[]⟩ many).nx j 0 = [] from rfl, List.append_nil]; exact M1.out⟩
      case round =>
        obtain ⟨l, nv', hl3, rfl, hM⟩ := hrel
        have M2 := Lib.hid hM
        clear hM
        by_cases hl : l < 3
        · have hlen : (tabTo (Ru.mk 4 letter ⟨#[]⟩ many).nx j ++ part (Ru.mk 4 letter ⟨#[]⟩ many).nx j l).length ≤ 100 := by rw [List.length_append, tabTo_length, part_length]; omega
          have HPS : Hid (tabTo (Ru.mk 4 letter ⟨#[]⟩ many).nx j ++ part (Ru.mk 4 letter ⟨#[]⟩ many).nx j (l + 1) = (tabTo (Ru.mk 4 letter ⟨#[]⟩ many).nx j ++ part (Ru.mk 4 letter ⟨#[]⟩ many).nx j l) ++ [(Ru.mk 4 letter ⟨#[]⟩ many).nx (j : Int) l]) := by
            have : tabTo (Ru.mk 4 letter ⟨#[]⟩ many).nx j ++ part (Ru.mk 4 letter ⟨#[]⟩ many).nx j (l + 1) = (tabTo (Ru.mk 4 letter ⟨#[]⟩ many).nx j ++ part (Ru.mk 4 letter ⟨#[]⟩ many).nx j l) ++ [(Ru.mk 4 letter ⟨#[]⟩ many).nx (j : Int) l] := by rw [part_succ, List.append_assoc]
            exact Lib.hid this
          have hjst : (j : Int) < ((Ru.mk 4 letter ⟨#[]⟩ many).st : Int) := by omega
          have HCALL := Lib.hid (fun W => l3Next_at 4 letter ⟨#[]⟩ many HOK.out (j : Int) W (by omega) hjst l hl)
          have hsl := fun W => rdn_at l hl W
          have hq1 : IntKind.i64.wrap ((l : Int) + 1) = (l : Int) + 1 := IntWalk.i64_in _ (by omega)
          clear hjst
          generalize tabTo (Ru.mk 4 letter ⟨#[]⟩ many).nx j ++ part (Ru.mk 4 letter ⟨#[]⟩ many).nx j l = nx at *
          generalize (Ru.mk 4 letter ⟨#[]⟩ many).nx (j : Int) l = x at *
          have Md := Lib.hid (M2.out.same (grown_drew _ none))
          have BXd := Lib.hid (BX.out.below (by have := Md.out.keep; exact this))
          have z0 := Md.out.cell.1
          have z1 := Md.out.cell.2.1
          have y0 := BXd.out.c0
          have y1 := BXd.out.c1
          have y2 := BXd.out.c2
          have y3 := BXd.out.c3
          go_wp2_with fail
          go_region_law (first | (go_simp; go_at_call 123; (try rw [hq1]); refine (HCALL.out _).mono ?_; rintro e w2 ⟨rfl, hb⟩; have M3 := Lib.hid (Md.out.below hb); have x11 := M3.out.cell.2.1; have x13 := fun x => (M3.out.same (World.grownBy_alloc w2 (.cells #[.int .i64 x] 3) none)).cell.2.1) | (refine step_append_lies _ rfl _ _ 113 rfl 0 3 i0 (.int .i64 0) 1 8 Try.underlying113 HI.out.1 HI.out.2.1 HI.out.2.2.1 HI.out.2.2.2 rfl (by decide) nv' nx.length (nx.map (Value.int .i64)) rfl (M3.out.rowN.alloc _) ⟨w2.heap.size, 0, none⟩ 1 1 [.int .i64 x] rfl rfl (cell_one_new _ _ _) (by simp [Value.oneCell']) (by omega) (by unfold maxLen; omega) (by omega) (Nat.zero_le _) _ rfl ?_; intro g cp w4 hown hgrow hat hlt3; obtain ⟨M4, x31, f31⟩ := M3.out.nextN hgrow hown hat))
          all_goals
            clear z0 z1 y0 y1 y2 y3 x11 x13 hb hsl hq1
            go_wp2
            go_roundw
            case rel => exact ⟨l + 1, _, by omega, by go_num, by rw [HPS.out]; exact M4⟩
            case measure => simp [intOf]; omega
        · obtain rfl : l = 3 := by omega
          have hT : tabTo (Ru.mk 4 letter ⟨#[]⟩ many).nx j ++ part (Ru.mk 4 letter ⟨#[]⟩ many).nx j 3 = tabTo (Ru.mk 4 letter ⟨#[]⟩ many).nx (j + 1) := rfl
          rw [hT] at M2
          obtain ⟨bm, hjm⟩ : ∃ b, ((j : Int) == many) = b := ⟨_, rfl⟩
          have hEJ : (Ru.mk 4 letter ⟨#[]⟩ many).endAt (j : Int) = bm := by rw [HEND.out, hjm]
          have hEE : Hid (endsTo (Ru.mk 4 letter ⟨#[]⟩ many).endAt (j + 1) = endsTo (Ru.mk 4 letter ⟨#[]⟩ many).endAt j ++ [bm]) := by
            have : endsTo (Ru.mk 4 letter ⟨#[]⟩ many).endAt (j + 1) = endsTo (Ru.mk 4 letter ⟨#[]⟩ many).endAt j ++ [bm] := by rw [endsTo_succ, hEJ]
            exact Lib.hid this
          have hes : (endsTo (Ru.mk 4 letter ⟨#[]⟩ many).endAt j).length ≤ 100 := by rw [endsTo_length]; omega
          clear hT hEJ
          generalize hnx : tabTo (Ru.mk 4 letter ⟨#[]⟩ many).nx (j + 1) = nx at *
          have HNX := Lib.hid hnx
          clear hnx
          generalize endsTo (Ru.mk 4 letter ⟨#[]⟩ many).endAt j = es at *
          have BXd := Lib.hid (BX.out.below M2.out.keep)
          have z0 := M2.out.cell.1
          have z2 := M2.out.cell.2.2
          have y0 := BXd.out.c0
          have y3 := BXd.out.c3
          cases bm
          all_goals
            go_wp2_with (at_builtin; refine wpList_append_lies _ rfl _ _ 84 rfl 0 4 j0 (.bool false) 1 1 Try.underlying84 HJ.out.1 HJ.out.2.1 HJ.out.2.2.1 HJ.out.2.2.2 rfl (by decide) ev es.length (es.map Value.bool) rfl (M2.out.rowE.alloc _) ⟨wr.heap.size, 0, none⟩ 1 1 [.bool _] rfl rfl (cell_one_new _ _ _) (by simp [Value.oneCell']) (by omega) (by unfold maxLen; omega) (by omega) (Nat.zero_le _) _ rfl ?_; intro g cp w4 hown hgrow hat hlt3; obtain ⟨M4, x31, f31⟩ := M2.out.nextE hgrow hown hat)
            go_roundw
            case rel => exact ⟨j + 1, _, _, hlt, by go_num, by rw [hEE.out, HNX.out]; exact M4⟩
            case measure => simp [intOf]; omega
    · obtain rfl : j = (Ru.mk 4 letter ⟨#[]⟩ many).st := by omega
      have hlt' : ¬ ((((Ru.mk 4 letter ⟨#[]⟩ many).st : Nat) : Int) < many + 1) := by have := HST.out; omega
      obtain ⟨a1, c1, rfl⟩ := ownsRow_slice M1.out.rowN
      obtain ⟨a2, c2, rfl⟩ := ownsRow_slice M1.out.rowE
      have hT : Hid (mfT (Ru.mk 4 letter ⟨#[]⟩ many) = ⟨many + 1, tabTo (Ru.mk 4 letter ⟨#[]⟩ many).nx (Ru.mk 4 letter ⟨#[]⟩ many).st, endsTo (Ru.mk 4 letter ⟨#[]⟩ many).endAt (Ru.mk 4 letter ⟨#[]⟩ many).st⟩) := by
        have : mfT (Ru.mk 4 letter ⟨#[]⟩ many) = ⟨many + 1, tabTo (Ru.mk 4 letter ⟨#[]⟩ many).nx (Ru.mk 4 letter ⟨#[]⟩ many).st, endsTo (Ru.mk 4 letter ⟨#[]⟩ many).endAt (Ru.mk 4 letter ⟨#[]⟩ many).st⟩ := by rw [mfT, HST.out]
        exact Lib.hid this
      generalize hnx : tabTo (Ru.mk 4 letter ⟨#[]⟩ many).nx (Ru.mk 4 letter ⟨#[]⟩ many).st = nx at *
      generalize hes : endsTo (Ru.mk 4 letter ⟨#[]⟩ many).endAt (Ru.mk 4 letter ⟨#[]⟩ many).st = es at *
      clear hnx hes
      have hn2 : w.heap.size + 1 + 1 ≤ w1.heap.size := by have := hB1.out.size; rw [HS0.out] at this; exact this
      obtain ⟨⟨h0, h1, h2⟩, k0, k1, k2⟩ := zeros_kept C0.out F0.out hB1.out (Nat.lt_succ_self _) M1.out.keep hn2
      have z0 := M1.out.cell.1
      have z1 := M1.out.cell.2.1
      have z2 := M1.out.cell.2.2
      have hA := M1.out.ap.tail
      have q3 : Below w.heap.size w wr := (Q0.out.trans (hB1.out.mono (by omega))).trans (M1.out.keep.mono (by omega))
      have FI := Lib.hid (fin_cells (x := .int .i64 (many + 1)) (y := .slice a1 nx.length c1) (z := .slice a2 es.length c2) (B := w.heap.size) (b := w.heap.size + 1) hA q3 (Nat.le_succ _) (by omega) (some3 h0 h1 h2) (by omega))
      clear q3 hA
      go_wp2
      obtain ⟨r1, r2, r3, r4, r5⟩ := FI.out _ rfl
      refine bodyPost_ret (v := .tuple #[.agg #[.int .i64 (many + 1), .slice a1 nx.length c1, .slice a2 es.length c2], .bool true]) ?_ rfl (by rw [hT.out]; exact ⟨a1, a2, c1, c2, rfl, r1, r2⟩)
      simp [results, Try.results115, go_sem, r3, r4, r5]
end Go.Proofs.Ytlbblfbiiceofaa

namespace Go.Proofs.Ytlbblfbiiceofaa
open Go.RowKit

set_option maxHeartbeats 1000000 in
theorem specMachineFor_any (kind : Int) (letter thn : ByteArray) (many : Int) (w : World) :
    Calls Try.prog 115 #[.agg #[.int .i64 kind, .string letter, .string thn, .int .i64 many]] w (MachNewB (mf (Ru.mk kind letter thn many)) (Ru.mk kind letter thn many).ok w) := by
  by_cases hok : (Ru.mk kind letter thn many).ok = true
  · rw [mf_yes hok, hok]
    obtain ⟨hl, hr⟩ := Ru.ok_iff.1 hok
    simp only at hl hr
    rcases hr with ⟨rfl, rfl, h0, h4⟩ | ⟨rfl, rfl, h0, h4⟩ | ⟨rfl, ht, rfl⟩ | ⟨rfl, rfl, h0, h4⟩ | ⟨rfl, rfl, h0, h4⟩
    · exact specMachineFor_0 letter many w hl h0 h4
    · exact specMachineFor_1 letter many w hl h0 h4
    · exact specMachineFor_2 letter thn w hl ht
    · exact specMachineFor_3 letter many w hl h0 h4
    · exact specMachineFor_4 letter many w hl h0 h4
  · have hok' : (Ru.mk kind letter thn many).ok = false := by simpa using hok
    rw [mf_no hok', hok']
    clear hok
    have c0 := fun i => World.cell?_alloc_new (w.alloc (.cells #[.int .i64 kind, .string letter, .string thn, .int .i64 many] 79)) #[.int .i64 0, .slice none 0 0, .slice none 0 0] 115 i
    have f0 := fun i => World.frozen?_alloc_new (w.alloc (.cells #[.int .i64 kind, .string letter, .string thn, .int .i64 many] 79)) #[.int .i64 0, .slice none 0 0, .slice none 0 0] 115 i
    simp only [World.size_alloc] at c0 f0
    have q0 := ((Below.refl w.heap.size w).alloc (Nat.le_refl _) (.cells #[.int .i64 kind, .string letter, .string thn, .int .i64 many] 79)).alloc (by simp) (.cells #[.int .i64 0, .slice none 0 0, .slice none 0 0] 115)
    have C0 := Lib.hid c0
    have F0 := Lib.hid f0
    have Q0 := Lib.hid q0
    clear c0 f0 q0
    go_enter Try.func115, Try.ntmps115
    go_wp2_with fail
    refine (specRuleOk_any kind letter thn many _).mono ?_
    rintro e w1 ⟨rfl, hb1⟩
    rw [hok']
    simp only [World.size_alloc] at hb1
    have h0 : w1.cell? ⟨w.heap.size + 1, 0, none⟩ = some (.int .i64 0) := (hb1.cell (p := ⟨w.heap.size + 1, 0, none⟩) (Nat.lt_succ_self _)).trans (C0.out 0)
    have h1 : w1.cell? ⟨w.heap.size + 1, 1, none⟩ = some (.slice none 0 0) := (hb1.cell (p := ⟨w.heap.size + 1, 1, none⟩) (Nat.lt_succ_self _)).trans (C0.out 1)
    have h2 : w1.cell? ⟨w.heap.size + 1, 2, none⟩ = some (.slice none 0 0) := (hb1.cell (p := ⟨w.heap.size + 1, 2, none⟩) (Nat.lt_succ_self _)).trans (C0.out 2)
    have k0 := (hb1.frozen (p := ⟨w.heap.size + 1, 0, none⟩) (Nat.lt_succ_self _)).trans (F0.out 0)
    have k1 := (hb1.frozen (p := ⟨w.heap.size + 1, 1, none⟩) (Nat.lt_succ_self _)).trans (F0.out 1)
    have k2 := (hb1.frozen (p := ⟨w.heap.size + 1, 2, none⟩) (Nat.lt_succ_self _)).trans (F0.out 2)
    have q1 : Below w.heap.size w w1 := Q0.out.trans (hb1.mono (by omega))
    have FI := Lib.hid (fin_cells (x := .int .i64 0) (y := .slice none 0 0) (z := .slice none 0 0) (apart_nils (w.heap.size + 2) w1) q1 (Nat.le_succ _) (by omega) (some3 h0 h1 h2) (by omega))
    clear q1 hb1
    go_wp2
    obtain ⟨r1, r2, r3, r4, r5⟩ := FI.out _ rfl
    refine bodyPost_ret (v := .tuple #[.agg #[.int .i64 0, .slice none 0 0, .slice none 0 0], .bool false]) ?_ rfl ⟨none, none, 0, 0, rfl, r1, r2⟩
    simp [results, Try.results115, go_sem, r3, r4, r5]
end Go.Proofs.Ytlbblfbiiceofaa

namespace Go.Proofs.Ytlbblfbiiceofaa
open Go.RowKit

/-- the machine of a term, or the zero value if some part has none -/
def TmM : Tm → M → Prop
  | .rule r, m => IsLmZ (mf r) m
  | .not a, m => ∃ k b, TmM a k ∧ IsJoin k.ok (fun u => !k.lang 0 u) m b
  | .two true a b, m => ∃ k l c, TmM a k ∧ TmM b l ∧ IsJoin (k.ok && l.ok) (fun u => k.lang 0 u || l.lang 0 u) m c
  | .two false a b, m => ∃ k l c, TmM a k ∧ TmM b l ∧ IsJoin (k.ok && l.ok) (fun u => k.lang 0 u && l.lang 0 u) m c
theorem IsJoin.ok_eq {ok : Bool} {f : List (Fin 3) → Bool} {k : M} {r : Bool} (h : IsJoin ok f k r) : k.ok = r := by
  rcases h with ⟨rfl, h1, h2, h3⟩ | ⟨rfl, rfl, h1⟩
  · exact M.good_ok (h2.good (by omega)) h3
  · rfl
theorem IsJoin.no {ok : Bool} {f : List (Fin 3) → Bool} {k : M} {r : Bool} (h : IsJoin ok f k r) (ho : ok = false) : r = false ∧ k = ⟨0, [], []⟩ := by
  rcases h with ⟨rfl, h1, h2, h3⟩ | ⟨rfl, rfl, h1⟩
  · rw [ho] at h1; cases h1
  · exact ⟨rfl, rfl⟩
theorem zero_join {f : List (Fin 3) → Bool} : IsJoin false f ⟨0, [], []⟩ false := .inr ⟨rfl, rfl, fun h => by cases h⟩
theorem mf_ok {r : Ru} (h : r.ok = true) : (mf r).ok = true := by rw [mf_yes h]; exact mfT_ok h
theorem M.ok_wf {m : M} (h : m.ok = true) : (Lit.int .i64 m.st).wf = true := WalkArith.wf_i64 (by have := M.ok_shape h; show _ ∧ _; omega)
theorem TmM.one {T : Tm} : ∀ {m k : M}, TmM T m → TmM T k → m = k := by
  induction T with
  | rule r => intro m k h g; exact IsLmZ.one h g
  | not a ih =>
    rintro m k ⟨x, b, h1, h2⟩ ⟨y, c, g1, g2⟩
    obtain rfl := ih h1 g1
    exact (h2.one g2).1
  | two o a b iha ihb =>
    cases o with
    | true =>
      rintro m k ⟨x, y, c, h1, h2, h3⟩ ⟨x', y', c', g1, g2, g3⟩
      obtain rfl := iha h1 g1
      obtain rfl := ihb h2 g2
      exact (h3.one g3).1
    | false =>
      rintro m k ⟨x, y, c, h1, h2, h3⟩ ⟨x', y', c', g1, g2, g3⟩
      obtain rfl := iha h1 g1
      obtain rfl := ihb h2 g2
      exact (h3.one g3).1
/-- it is a machine, or the zero value -/
theorem TmM.zero {T : Tm} (hg : T.good = true) {m : M} (h : TmM T m) (ho : m.ok = false) : m = ⟨0, [], []⟩ := by
  cases T with
  | rule r => rw [IsLmZ.ok (mf_ok hg) h] at ho; cases ho
  | not a =>
    obtain ⟨k, b, -, h2⟩ := h
    rw [h2.ok_eq] at ho
    subst ho
    rcases h2 with ⟨h, _⟩ | ⟨_, h, _⟩
    · cases h
    · exact h
  | two o a b =>
    cases o with
    | true =>
      obtain ⟨k, l, c, -, -, h2⟩ := h
      rw [h2.ok_eq] at ho
      subst ho
      rcases h2 with ⟨h, _⟩ | ⟨_, h, _⟩
      · cases h
      · exact h
    | false =>
      obtain ⟨k, l, c, -, -, h2⟩ := h
      rw [h2.ok_eq] at ho
      subst ho
      rcases h2 with ⟨h, _⟩ | ⟨_, h, _⟩
      · cases h
      · exact h
theorem TmM.wf {T : Tm} (hg : T.good = true) {m : M} (h : TmM T m) : (Lit.int .i64 m.st).wf = true := by
  cases ho : m.ok with
  | true => exact M.ok_wf ho
  | false => rw [h.zero hg ho]; rfl
theorem TmM.len {T : Tm} (hg : T.good = true) {m : M} (h : TmM T m) : m.next.length ≤ 144 ∧ m.ends.length ≤ 48 := by
  cases ho : m.ok with
  | true => have := M.ok_shape ho; omega
  | false => rw [h.zero hg ho]; exact ⟨Nat.zero_le _, Nat.zero_le _⟩
/-- MachineOf -/
def IsOf (ms : List Mk) (m : M) (b : Bool) : Prop := (termOk ms = true → ∃ T : Tm, T.good = true ∧ T.post = ms ∧ TmM T m ∧ b = m.ok) ∧ (termOk ms = false → m = ⟨0, [], []⟩ ∧ b = false)
theorem IsOf.one {ms : List Mk} {m k : M} {b c : Bool} (h : IsOf ms m b) (g : IsOf ms k c) : m = k ∧ b = c := by
  cases ht : termOk ms with
  | true =>
    obtain ⟨T, h1, h2, h3, rfl⟩ := h.1 ht
    obtain ⟨U, g1, g2, g3, rfl⟩ := g.1 ht
    obtain rfl := Tm.post_inj h1 g1 (h2.trans g2.symm)
    obtain rfl := h3.one g3
    exact ⟨rfl, rfl⟩
  | false =>
    obtain ⟨rfl, rfl⟩ := h.2 ht
    obtain ⟨rfl, rfl⟩ := g.2 ht
    exact ⟨rfl, rfl⟩
/-- the rows of a machine -/
def rowsM (m : M) (nv ev : Value) : List Thing := [rowT 3 1 nv m.next.length (m.next.map (Value.int .i64)), rowT 4 1 ev m.ends.length (m.ends.map Value.bool)]
/-- what a call has made, beside what was owned before -/
theorem Own.join {wB w w' : World} {ts us : List Thing} (h : Own wB ts w) (hA : Apart w.heap.size us w') (hb : Below w.heap.size w w') : Own wB (us ++ ts) w' := by
  have h' := h.below hb
  refine ⟨h'.keep, ⟨fun t ht => ?_, List.pairwise_append.2 ⟨hA.two, h'.ap.two, fun a ha b hb' k e e' => ?_⟩⟩⟩
  · rcases List.mem_append.1 ht with ht | ht
    · exact ⟨(hA.all t ht).1, fun k e => ⟨Nat.le_trans h.size ((hA.all t ht).2 k e).1, ((hA.all t ht).2 k e).2⟩⟩
    · exact h'.ap.all t ht
  · have := ((hA.all a ha).2 k e).1
    have := ((h.ap.all b hb').2 k e').2
    omega
theorem Own.ints {wB w : World} {ts : List Thing} (h : Own wB ts w) (i : Nat) (hi : i < ts.length) {e : TypeId} {v : Value} {xs : List Int} (he : ts[i] = rowT e 1 v xs.length (xs.map (Value.int .i64))) : IsInts w v xs := IsInts.of_owns (h.row i hi he)
theorem Own.bools {wB w : World} {ts : List Thing} (h : Own wB ts w) (i : Nat) (hi : i < ts.length) {e : TypeId} {v : Value} {xs : List Bool} (he : ts[i] = rowT e 1 v xs.length (xs.map Value.bool)) : IsBools w v xs := IsBools.of_owns (h.row i hi he)
/-- a machine and whether it is one -/
def TmNew (T : Tm) (w : World) (e : Ending) (w' : World) : Prop :=
  ∃ (m : M) (a1 a2 : Option Addr) (c1 c2 : Nat), TmM T m ∧ e = .returned (.tuple #[.agg #[.int .i64 m.st, .slice a1 m.next.length c1, .slice a2 m.ends.length c2], .bool m.ok]) ∧
    Apart w.heap.size [rowT 3 1 (.slice a1 m.next.length c1) m.next.length (m.next.map (Value.int .i64)), rowT 4 1 (.slice a2 m.ends.length c2) m.ends.length (m.ends.map Value.bool)] w' ∧ Below w.heap.size w w'
/-- the result's block is written: rows and cells behind it -/
theorem Own.fin {wB w W : World} {ts us : List Thing} {R : Nat} {x y z x0 y0 z0 : Value} {t : TypeId} (h : Own wB ts w) (i : Nat) (hi : i < ts.length) (he : ts[i] = cellsT R #[x0, y0, z0] t) (hs : us.Sublist (ts.eraseIdx i))
    (hW : W = ((w.setCell ⟨R, 0, none⟩ x).setCell ⟨R, 1, none⟩ y).setCell ⟨R, 2, none⟩ z) :
    Apart wB.heap.size us W ∧ Below wB.heap.size wB W ∧ W.cell? ⟨R, 0, none⟩ = some x ∧ W.cell? ⟨R, 1, none⟩ = some y ∧ W.cell? ⟨R, 2, none⟩ = some z := by
  subst hW
  have p : ts.Perm (cellsT R #[x0, y0, z0] t :: ts.eraseIdx i) := by
    have := set_perm ts i hi ts[i]
    rw [List.set_getElem_self, he] at this; exact this
  have h1 := h.perm p
  have h2 := ((h1.put (i := 0) (by simp) rfl 0 x).put (i := 0) (by simp) rfl 1 y).put (i := 0) (by simp) rfl 2 z
  have c := h2.cells 0 (by simp) rfl
  exact ⟨(h2.sub (hs.cons _)).ap, h2.keep, cellsT_cell c 0, cellsT_cell c 1, cellsT_cell c 2⟩
end Go.Proofs.Ytlbblfbiiceofaa
