/- Slices of strings: how they lie in memory. No program, no condition. The laws' own words on slices of strings: the size, the copy, the comparison. No condition. The plain mathematics of chapter 10 (rosters): no program is named here. No condition. Contracts of the library's slices at this translation (out of the library's shelf): Clone, ContainsFunc at strings. No condition. RosterOk and NeedsOk of the program and of the model: what each returns, for every argument. No condition. DayOf and CoverOk of the program and of the model: what each returns, for every argument. No condition. CoverOk of  -/
import Derived.Test.YtlbblfbiiceofaaReads
import Derived.Test.YtlbblfbiiceofaaCopies
import Derived.Deep.QuietTactic
import Derived.BigQuiet
import Derived.WalkSmall
import Derived.Test.YtlbblfbiiceofaaMath
import Derived.Shelf.Slices.Clone
import Derived.Shelf.SlicesE.IndexFunc
import Derived.Test.YtlbblfbiiceofaaProg
import Derived.Test.YtlbblfbiiceofaaRolled
import Derived.Deep.RegionWith
import Derived.OpenShut
import Derived.Test.YtlbblfbiiceofaaOwnD
import Derived.Test.YtlbblfbiiceofaaCount
import Derived.Deep.AppendLies
import Derived.Maps.AppendAt
import Derived.Laws.Strings2
import Derived.Deep.RegionHeld3
import Derived.Outline
import Derived.Deep.CutRange
import Derived.Deep.CutBlock
import Derived.Test.YtlbblfbiiceofaaKeepsTI
import Derived.Test.YtlbblfbiiceofaaSpecKeepsT
import Derived.Test.YtlbblfbiiceofaaMarksLaw
import Derived.Test.YtlbblfbiiceofaaMarksCopy

namespace Go.Proofs.Ytlbblfbiiceofaa
open Go.RowKit Go.ChangeShapes Go.WideShapes Go.ChangeAt Go.Deep

/-- a value that reads as a list of strings -/
def IsStrs (w : World) (v : Value) (xs : List ByteArray) : Prop :=
  ∃ (a : Option Addr) (cap : Nat), v = .slice a xs.length cap ∧ xs.length ≤ cap ∧ cap ≤ maxLen ∧
    (xs = [] ∨ ∃ g off : Nat, a = some ⟨g, off, none⟩ ∧ g < w.heap.size ∧ ∀ k (h : k < xs.length), w.cell? ⟨g, off + k, none⟩ = some (.string xs[k]))
/-- no string is too long -/
def Short (xs : List ByteArray) : Prop := ∀ s ∈ xs, s.size ≤ maxLen
theorem IsStrs.nil (w : World) : IsStrs w (.slice none 0 0) [] := ⟨none, 0, rfl, Nat.le_refl _, Nat.zero_le _, .inl rfl⟩
theorem IsStrs.below {w w' : World} {v : Value} {xs : List ByteArray} (h : IsStrs w v xs) (hb : Below w.heap.size w w') : IsStrs w' v xs := by
  obtain ⟨a, cap, hv, h1, h2, h3⟩ := h
  exact ⟨a, cap, hv, h1, h2, h3.imp id fun ⟨g, off, ha, hg, hc⟩ => ⟨g, off, ha, Nat.lt_of_lt_of_le hg hb.size, fun k hk => (hb.cell (p := ⟨g, off + k, none⟩) hg).trans (hc k hk)⟩⟩
theorem IsStrs.of_owns {w : World} {base : Nat} {e : TypeId} {v : Value} {xs : List ByteArray} (h : w.ownsRow base e 1 v xs.length (xs.map Value.string)) : IsStrs w v xs := by
  rcases h.2 with ⟨rfl, hn⟩ | ⟨g, cap, cur, rfl, hb, hg, h1, h2, h3, h4⟩
  · obtain rfl : xs = [] := List.eq_nil_of_length_eq_zero hn
    exact IsStrs.nil w
  · refine ⟨some ⟨g, 0, none⟩, cap, rfl, h1, h2, .inr ⟨g, 0, rfl, (h.lt g rfl).2, fun k hk => ?_⟩⟩
    rw [Nat.zero_add, h.cellAt k (by omega)]
    simp [hk]
/-- written out -/
theorem IsStrs.form {w : World} {v : Value} {xs : List ByteArray} (h : IsStrs w v xs) : ∃ a c, v = .slice a xs.length c ∧ xs.length ≤ c ∧ c ≤ 9223372036854775807 := by
  obtain ⟨a, c, rfl, h1, h2, _⟩ := h
  unfold maxLen at h2
  exact ⟨a, c, rfl, h1, h2⟩
/-- the strings of a place on -/
theorem IsStrs.at {w : World} {a : Option Addr} {n c : Nat} {xs : List ByteArray} (h : IsStrs w (.slice a n c) xs) (h0 : 0 < xs.length) : ∃ g off : Nat, a = some ⟨g, off, none⟩ ∧ g < w.heap.size ∧ ∀ k (h : k < xs.length), w.cell? ⟨g, off + k, none⟩ = some (.string xs[k]) := by
  obtain ⟨a', c', hv, -, -, h3⟩ := h
  simp only [Value.slice.injEq] at hv
  obtain ⟨rfl, _, rfl⟩ := hv
  exact h3.resolve_left (fun e => by rw [e] at h0; exact absurd h0 (Nat.lt_irrefl _))
theorem IsStrs.cut {w : World} {a : Option Addr} {n c : Nat} {xs : List ByteArray} (h : IsStrs w (.slice a n c) xs) (k : Nat) (hk : k ≤ n) (hn : xs.length = n) : IsStrs w (.slice a k c) (xs.take k) := by
  obtain ⟨a', c', e, h1, h2, h3⟩ := h
  simp only [Value.slice.injEq] at e
  obtain ⟨rfl, _, rfl⟩ := e
  have hl : (xs.take k).length = k := by rw [List.length_take]; omega
  refine ⟨a, c, by rw [hl], by omega, h2, ?_⟩
  rcases h3 with rfl | ⟨g, off, rfl, hg, hc⟩
  · exact .inl List.take_nil
  · exact .inr ⟨g, off, rfl, hg, fun j hj => by rw [hc j (by omega)]; simp⟩

section
variable {H : Type} {enc : TypeId × Value → H} {P : Program} {w : World}
theorem strs_read {t e : TypeId} {fuel : Nat} {v : Value} {x : DataW H × List MemPlace} (ht : P.underlying t = some (.slice e)) (he : P.underlying e = some .string) (hc : P.cellsOf e = 1)
    (h : DataW.trod enc P w 0 (fun _ => true) true fuel t [v] = some x) : ∃ xs : List ByteArray, IsStrs w v xs ∧ Short xs := by
  rcases open_slice1 ht hc h with ⟨hcs, _⟩ | ⟨a, len, cap, m, n, V, D, Pl, hcs, _, hl, hm, hmm, _, hcell⟩
  · simp only [List.cons.injEq, and_true] at hcs
    subst hcs
    exact ⟨[], IsStrs.nil w, fun s h => by cases h⟩
  · simp only [List.cons.injEq, and_true] at hcs
    subst hcs
    have hmc : m = cap := by simpa using hmm
    subst hmc
    have hv : ∀ i, i < m → ∃ b : ByteArray, V i = .string b ∧ b.size ≤ maxLen := fun i hi => by
      obtain ⟨b, hb, _, hs⟩ := DataW.trod_string he (hcell i hi).2
      simp only [List.cons.injEq, and_true] at hb
      exact ⟨b, hb, hs⟩
    refine ⟨(List.range len).map (fun i => match V i with | .string b => b | _ => ⟨#[]⟩), ⟨some a, m, by simp, by simpa using hl, hm, ?_⟩, fun s hs => ?_⟩
    · by_cases h0 : len = 0
      · exact .inl (by rw [h0]; rfl)
      · obtain ⟨g, off, rfl, hg⟩ := plain_addr (hcell 0 (by omega)).1
        refine .inr ⟨g, off, rfl, hg, fun k hk => ?_⟩
        have hk' : k < len := by simpa using hk
        have := (hcell k (by omega)).1
        rw [add_off] at this
        obtain ⟨b, hb, _⟩ := hv k (by omega)
        rw [this]
        simp [hb]
    · obtain ⟨i, hi, rfl⟩ := List.mem_map.1 hs
      obtain ⟨b, hb, hsz⟩ := hv i (by have := List.mem_range.1 hi; omega)
      simp only [hb]
      exact hsz
end
end Go.Proofs.Ytlbblfbiiceofaa

namespace Go.Proofs.Ytlbblfbiiceofaa
open Go.RowKit

theorem bytes_ext' {s t : ByteArray} (h : s.data.toList = t.data.toList) : s = t := by
  cases s; cases t; simp only [ByteArray.mk.injEq]; exact Array.toList_inj.1 h

set_option maxHeartbeats 1600000 in
theorem szStringS_any (xs : List ByteArray) (hwf : Short xs) (v : Value) (w : World) (h : IsStrs w v xs) (left : Int) (h0 : 0 ≤ left) (hl : left ≤ 1048576) :
    Calls Try.prog 43 #[v, .int .i64 left] w
      fun e w' => (∃ r : Int, e = .returned (.int .i64 r) ∧ -1 ≤ r ∧ r ≤ left ∧ (0 ≤ r → xs.length ≤ 1048576)) ∧ Below w.heap.size w w' := by
  obtain ⟨a, cap, rfl, ha1, ha2, ha⟩ := h
  have HA := Lib.hid ha
  have HWF := Lib.hid hwf
  unfold maxLen at ha2
  clear ha hwf
  by_cases hb : left - xs.length < 0
  · go_enter Try.func43, Try.ntmps43
    go_wp2_with fail
    go_ret
    exact ⟨⟨_, rfl, by omega, by omega, by omega⟩, Below.refl _ _⟩
  · go_enter Try.func43, Try.ntmps43
    go_wp2_with fail
    go_loopw [1, 5] (fun l i wr => ∃ (k : Nat) (x : Int), k ≤ xs.length ∧ i = .int .i64 k ∧ l = .int .i64 x ∧ 0 ≤ x ∧ x ≤ left ∧ Below w.heap.size w wr) (fun _ i _ => xs.length - (intOf i).toNat)
    case atStart => exact ⟨0, _, Nat.zero_le _, rfl, rfl, by omega, by omega, Below.refl _ _⟩
    case round =>
      obtain ⟨k, x, hk, rfl, rfl, hx0, hx1, hbel⟩ := hrel
      by_cases hlt : k < xs.length
      · obtain ⟨g, off, rfl, hg, hc⟩ := HA.out.resolve_left (fun h => by rw [h] at hlt; exact absurd hlt (Nat.not_lt_zero k))
        have c0 := (hbel.cell (p := ⟨g, off + k, none⟩) hg).trans (hc k hlt)
        have hsz := HWF.out xs[k] (List.getElem_mem hlt)
        unfold maxLen at hsz
        have BB := Lib.hid hbel
        clear hc hbel
        generalize xs[k] = s at c0 hsz
        by_cases hr : x - s.size < 0
        · go_wp2_with fail
          first | go_ret | (go_quiet (fail); go_wp2_with fail; go_ret)
          exact ⟨⟨_, rfl, by omega, by omega, by omega⟩, by first | exact BB.out | exact below_drewN BB.out _⟩
        · go_wp2_with fail
          first | go_roundw | (go_quiet (fail); go_wp2_with fail; go_roundw)
          case rel => exact ⟨k + 1, x - s.size, by omega, by go_num, rfl, by omega, by omega, by first | exact BB.out | exact below_drewN BB.out _⟩
          case measure => simp [intOf]; omega
      · obtain rfl : k = xs.length := by omega
        go_wp2_with fail
        go_ret
        exact ⟨⟨_, rfl, by omega, by omega, fun _ => by omega⟩, hbel⟩

theorem infoStrC : (Try.prog.info? 9).map (fun i => (i.zero, i.size, i.bytes)) = some (some (.string ⟨#[]⟩), 1, 16) := by kernel_rfl
/-- a list of which the first k are copied -/
def cpToS (xs : List ByteArray) (k : Nat) : List ByteArray := xs.take k ++ List.replicate (xs.length - k) ⟨#[]⟩
theorem cpToS_length (xs : List ByteArray) (k : Nat) (h : k ≤ xs.length) : (cpToS xs k).length = xs.length := by
  rw [cpToS, List.length_append, List.length_take, List.length_replicate]; omega
theorem cpToS_zero (xs : List ByteArray) : cpToS xs 0 = List.replicate xs.length ⟨#[]⟩ := by simp [cpToS]
theorem cpToS_all (xs : List ByteArray) : cpToS xs xs.length = xs := by simp [cpToS]
theorem cpToS_step (xs : List ByteArray) (k : Nat) (h : k < xs.length) : (cpToS xs k).set k xs[k] = cpToS xs (k + 1) := by
  have e : xs.length - k = (xs.length - (k + 1)) + 1 := by omega
  have hl : (xs.take k).length = k := by rw [List.length_take]; omega
  rw [cpToS, cpToS, List.set_append_right _ _ (by rw [hl]; exact Nat.le_refl _), hl, Nat.sub_self, e, List.replicate_succ, List.set_cons_zero, List.take_succ_eq_append_getElem h, List.append_assoc]
  rfl
/-- a fresh slice that holds a list of strings -/
def CopyPostS (xs : List ByteArray) (w : World) (e : Ending) (w' : World) : Prop :=
  ∃ v, e = .returned v ∧ w'.ownsRow w.heap.size 9 1 v xs.length (xs.map Value.string) ∧ Below w.heap.size w w'

set_option maxHeartbeats 800000 in
theorem toStringS_any (v : Value) (xs : List ByteArray) (w : World) (h : IsStrs w v xs) (hx : xs.length ≤ 1048576) :
    Calls Try.prog 44 #[v] w (CopyPostS xs w) := by
  obtain ⟨i0, hi, hz0, hz1, hz2⟩ := info_parts infoStrC
  have hsz : i0.bytes * xs.length ≤ 281474976710656 := by rw [hz2]; omega
  have HI := Lib.hid hi
  have HZ0 := Lib.hid hz0
  have HZ1 := Lib.hid hz1
  have HSZ := Lib.hid hsz
  clear hi hz0 hz1 hz2 hsz
  obtain ⟨a, cap, rfl, ha1, ha2, ha⟩ := h
  have HA := Lib.hid ha
  unfold maxLen at ha2
  clear ha
  go_enter Try.func44, Try.ntmps44
  go_wp2_with (at_make; refine wpList_make_full _ rfl _ _ 23 rfl w.heap.size 9 i0 (.string ⟨#[]⟩) 1 Try.underlying23 HI.out HZ0.out HZ1.out .i64 .i64 _ _ xs.length rfl rfl rfl rfl HSZ.out (by unfold maxLen; omega) (Nat.le_refl _) ?_; intro w1 hown1 hgrow1)
  have hown0 : w1.ownsRow w.heap.size 9 1 (.slice (some ⟨w.heap.size, 0, none⟩) xs.length xs.length) xs.length ((cpToS xs 0).map Value.string) := by
    have e : (madeCells (Value.string ⟨#[]⟩).cells (xs.length * 1)).toList = (cpToS xs 0).map Value.string := by
      rw [cpToS_zero, Nat.mul_one, List.map_replicate]
      exact toList_madeCells_one _ _
    rw [← e]; exact hown1
  have HOWN := Lib.hid hown0
  have hbel1 : Below w.heap.size w w1 := (Below.refl _ _).grown hgrow1 (Nat.le_refl _) (fun k e => by cases e)
  clear hown0 hown1 hgrow1
  go_loopw [4] (fun i wr => ∃ k : Nat, k ≤ xs.length ∧ i = .int .i64 k ∧ wr.ownsRow w.heap.size 9 1 (.slice (some ⟨w.heap.size, 0, none⟩) xs.length xs.length) xs.length ((cpToS xs k).map Value.string) ∧ Below w.heap.size w wr) (fun i _ => xs.length - (intOf i).toNat)
  case atStart => exact ⟨0, Nat.zero_le _, rfl, HOWN.out, hbel1⟩
  case round =>
    obtain ⟨k, hk, rfl, hown, hbel⟩ := hrel
    by_cases hlt : k < xs.length
    · obtain ⟨g, off, rfl, hg, hc⟩ := HA.out.resolve_left (fun h => by rw [h] at hlt; exact absurd hlt (Nat.not_lt_zero k))
      have hcell := (hbel.cell (p := ⟨g, off + k, none⟩) hg).trans (hc k hlt)
      have hst := hown.stored k (.string xs[k])
      rw [← List.map_set, cpToS_step xs k hlt] at hst
      have hml := cpToS_length xs k hk
      have hcl := hown.cellAt k (by omega)
      obtain ⟨c, hdell⟩ : ∃ c, wr.cell? ⟨w.heap.size, k, none⟩ = some (.string c) := ⟨(cpToS xs k)[k]'(by omega), by rw [hcl]; simp [hml, hlt]⟩
      have hfr := hown.frozenAt k
      have HST := Lib.hid hst
      have hsz := hbel.size
      clear hst hcl hml hown hc
      generalize xs[k] = c0 at hcell HST
      go_wp2
      go_roundw
      case rel => exact ⟨k + 1, by omega, by go_num, HST.out.1, hbel.setCell (p := ⟨w.heap.size, k, none⟩) (Nat.le_refl _) _⟩
      case measure => simp [intOf]; omega
    · obtain rfl : k = xs.length := by omega
      have HC := Lib.hid (cpToS_all xs)
      go_wp2
      go_ret
      refine ⟨_, rfl, ?_, hbel⟩
      rw [HC.out] at hown
      exact hown

set_option maxHeartbeats 1600000 in
theorem eqStringS_any (u v : Value) (xs ys : List ByteArray) (w : World) (hu : IsStrs w u xs) (hv : IsStrs w v ys) :
    Calls Try.prog 45 #[u, v] w fun e w' => e = .returned (.bool (decide (xs = ys))) ∧ Below w.heap.size w w' := by
  obtain ⟨a, cap, rfl, ha1, ha2, ha⟩ := hu
  obtain ⟨b, cbp, rfl, hb1, hb2, hb⟩ := hv
  unfold maxLen at ha2 hb2
  by_cases hlen : xs.length = ys.length
  · have hl' : ((xs.length : Int) != (ys.length : Int)) = false := by simp [hlen]
    have HA := Lib.hid ha
    have HB := Lib.hid hb
    clear ha hb
    have hle : xs.length ≤ ys.length := by omega
    have HLN := Lib.hid hlen
    clear hlen
    go_enter Try.func45, Try.ntmps45
    go_wp2
    go_loopw [5] (fun i wr => ∃ k : Nat, k ≤ xs.length ∧ i = .int .i64 k ∧ Hid (∀ j, j < k → xs[j]? = ys[j]?) ∧ ∃ n, wr = w.drewN n) (fun i _ => xs.length - (intOf i).toNat)
    case atStart => exact ⟨0, Nat.zero_le _, rfl, Lib.hid (fun j h => absurd h (Nat.not_lt_zero j)), 0, rfl⟩
    case round =>
      obtain ⟨k, hk, rfl, HE, n, rfl⟩ := hrel
      by_cases hlt : k < xs.length
      · obtain ⟨g, off, rfl, hg, hc⟩ := HA.out.resolve_left (fun h => by rw [h] at hlt; exact absurd hlt (Nat.not_lt_zero k))
        obtain ⟨g2, off2, rfl, hg2, hc2⟩ := HB.out.resolve_left (fun h => by rw [h] at hle; have : xs.length ≤ 0 := hle; omega)
        have hlt2 : k < ys.length := by omega
        have hc1 := hc k hlt
        have hd1 := hc2 k hlt2
        clear hc hc2
        have HY : Hid (xs[k] = ys[k] → ∀ j, j < k + 1 → xs[j]? = ys[j]?) := by
          have : xs[k] = ys[k] → ∀ j, j < k + 1 → xs[j]? = ys[j]? := fun e j hj => by
            by_cases hjk : j = k
            · subst hjk; rw [List.getElem?_eq_getElem hlt, List.getElem?_eq_getElem hlt2, e]
            · exact HE.out j (by omega)
          exact Lib.hid this
        have HN : Hid (xs[k] ≠ ys[k] → decide (xs = ys) = false) := by
          have : xs[k] ≠ ys[k] → decide (xs = ys) = false := fun e => by
            rw [decide_eq_false_iff_not]
            intro h
            exact e (by simp only [h])
          exact Lib.hid this
        have hc1' : (w.drewN n).cell? ⟨g, off + k, none⟩ = some (.string xs[k]) := hc1
        have hd1' : (w.drewN n).cell? ⟨g2, off2 + k, none⟩ = some (.string ys[k]) := hd1
        have HW : Hid (∀ q, ∃ d', (w.drewN n).drewN q = w.drewN d') := Lib.hid (fun q => ⟨n + q, by rw [World.drewN_drewN]⟩)
        have HBW := Lib.hid (below_drewN (Below.refl w.heap.size w) n)
        generalize w.drewN n = W at hc1' hd1' HW HBW ⊢
        generalize xs[k] = x at *
        generalize ys[k] = y at *
        clear hc1 hd1
        by_cases hb : x = y
        · subst hb
          have HS := Lib.hid (HY.out rfl)
          clear HY HN
          go_wp2
          go_quiet (fail)
          go_wp2
          go_roundw
          case rel => exact ⟨k + 1, by omega, by go_num, HS, (HW.out _).choose, (HW.out _).choose_spec⟩
          case measure => simp [intOf]; omega
        · have hb' : ¬ x.toList = y.toList := fun e => hb (bytes_ext' (by rw [← ByteArray.toList_eq, ← ByteArray.toList_eq, e]))
          have hb2 : (x.toList == y.toList) = false := by rw [beq_eq_false_iff_ne]; exact hb'
          have HS := Lib.hid (HN.out hb)
          clear HY HN hb
          go_wp2
          go_quiet (fail)
          go_wp2
          go_ret
          exact ⟨ret_bool HS.out.symm, HBW.out.trans (below_drewN (Below.refl _ _) _ |>.mono HBW.out.size)⟩
      · obtain rfl : k = xs.length := by omega
        have HN : Hid (decide (xs = ys) = true) := by
          have : decide (xs = ys) = true := by
            rw [decide_eq_true_eq]
            refine List.ext_getElem? fun i => ?_
            by_cases hi : i < xs.length
            · exact HE.out i hi
            · rw [List.getElem?_eq_none (by omega), List.getElem?_eq_none (by have := HLN.out; omega)]
          exact Lib.hid this
        go_wp2
        go_ret
        exact ⟨ret_bool HN.out.symm, below_drewN (Below.refl _ _) _⟩
  · have hl' : ((xs.length : Int) != (ys.length : Int)) = true := by simp; omega
    have HN : Hid (decide (xs = ys) = false) := by
      have : decide (xs = ys) = false := by
        rw [decide_eq_false_iff_not]
        intro h
        exact hlen (by rw [h])
      exact Lib.hid this
    clear hlen ha hb
    go_enter Try.func45, Try.ntmps45
    go_wp2
    go_ret
    exact ⟨ret_bool HN.out.symm, Below.refl _ _⟩

set_option maxHeartbeats 1600000 in
theorem sameTexts_any (u v : Value) (xs ys : List ByteArray) (w : World) (hu : IsStrs w u xs) (hv : IsStrs w v ys) :
    Calls Try.prog 42 #[u, v] w fun e w' => e = .returned (.bool (decide (xs = ys))) ∧ Below w.heap.size w w' := by
  obtain ⟨a, cap, rfl, ha1, ha2, ha⟩ := hu
  obtain ⟨b, cbp, rfl, hb1, hb2, hb⟩ := hv
  unfold maxLen at ha2 hb2
  by_cases hlen : xs.length = ys.length
  · have hl' : ((xs.length : Int) != (ys.length : Int)) = false := by simp [hlen]
    have HA := Lib.hid ha
    have HB := Lib.hid hb
    clear ha hb
    have hle : xs.length ≤ ys.length := by omega
    have HLN := Lib.hid hlen
    clear hlen
    go_enter Try.func42, Try.ntmps42
    go_wp2
    go_loopw [5] (fun i wr => ∃ k : Nat, k ≤ xs.length ∧ i = .int .i64 k ∧ Hid (∀ j, j < k → xs[j]? = ys[j]?) ∧ ∃ n, wr = w.drewN n) (fun i _ => xs.length - (intOf i).toNat)
    case atStart => exact ⟨0, Nat.zero_le _, rfl, Lib.hid (fun j h => absurd h (Nat.not_lt_zero j)), 0, rfl⟩
    case round =>
      obtain ⟨k, hk, rfl, HE, n, rfl⟩ := hrel
      by_cases hlt : k < xs.length
      · obtain ⟨g, off, rfl, hg, hc⟩ := HA.out.resolve_left (fun h => by rw [h] at hlt; exact absurd hlt (Nat.not_lt_zero k))
        obtain ⟨g2, off2, rfl, hg2, hc2⟩ := HB.out.resolve_left (fun h => by rw [h] at hle; have : xs.length ≤ 0 := hle; omega)
        have hlt2 : k < ys.length := by omega
        have hc1 := hc k hlt
        have hd1 := hc2 k hlt2
        clear hc hc2
        have HY : Hid (xs[k] = ys[k] → ∀ j, j < k + 1 → xs[j]? = ys[j]?) := by
          have : xs[k] = ys[k] → ∀ j, j < k + 1 → xs[j]? = ys[j]? := fun e j hj => by
            by_cases hjk : j = k
            · subst hjk; rw [List.getElem?_eq_getElem hlt, List.getElem?_eq_getElem hlt2, e]
            · exact HE.out j (by omega)
          exact Lib.hid this
        have HN : Hid (xs[k] ≠ ys[k] → decide (xs = ys) = false) := by
          have : xs[k] ≠ ys[k] → decide (xs = ys) = false := fun e => by
            rw [decide_eq_false_iff_not]
            intro h
            exact e (by simp only [h])
          exact Lib.hid this
        have hc1' : (w.drewN n).cell? ⟨g, off + k, none⟩ = some (.string xs[k]) := hc1
        have hd1' : (w.drewN n).cell? ⟨g2, off2 + k, none⟩ = some (.string ys[k]) := hd1
        have HW : Hid (∀ q, ∃ d', (w.drewN n).drewN q = w.drewN d') := Lib.hid (fun q => ⟨n + q, by rw [World.drewN_drewN]⟩)
        have HBW := Lib.hid (below_drewN (Below.refl w.heap.size w) n)
        generalize w.drewN n = W at hc1' hd1' HW HBW ⊢
        generalize xs[k] = x at *
        generalize ys[k] = y at *
        clear hc1 hd1
        by_cases hb : x = y
        · subst hb
          have HS := Lib.hid (HY.out rfl)
          clear HY HN
          go_wp2
          go_quiet (fail)
          go_wp2
          go_roundw
          case rel => exact ⟨k + 1, by omega, by go_num, HS, (HW.out _).choose, (HW.out _).choose_spec⟩
          case measure => simp [intOf]; omega
        · have hb' : ¬ x.toList = y.toList := fun e => hb (bytes_ext' (by rw [← ByteArray.toList_eq, ← ByteArray.toList_eq, e]))
          have hb2 : (x.toList == y.toList) = false := by rw [beq_eq_false_iff_ne]; exact hb'
          have HS := Lib.hid (HN.out hb)
          clear HY HN hb
          go_wp2
          go_quiet (fail)
          go_wp2
          go_ret
          exact ⟨ret_bool HS.out.symm, HBW.out.trans (below_drewN (Below.refl _ _) _ |>.mono HBW.out.size)⟩
      · obtain rfl : k = xs.length := by omega
        have HN : Hid (decide (xs = ys) = true) := by
          have : decide (xs = ys) = true := by
            rw [decide_eq_true_eq]
            refine List.ext_getElem? fun i => ?_
            by_cases hi : i < xs.length
            · exact HE.out i hi
            · rw [List.getElem?_eq_none (by omega), List.getElem?_eq_none (by have := HLN.out; omega)]
          exact Lib.hid this
        go_wp2
        go_ret
        exact ⟨ret_bool HN.out.symm, below_drewN (Below.refl _ _) _⟩
  · have hl' : ((xs.length : Int) != (ys.length : Int)) = true := by simp; omega
    have HN : Hid (decide (xs = ys) = false) := by
      have : decide (xs = ys) = false := by
        rw [decide_eq_false_iff_not]
        intro h
        exact hlen (by rw [h])
      exact Lib.hid this
    clear hlen ha hb
    go_enter Try.func42, Try.ntmps42
    go_wp2
    go_ret
    exact ⟨ret_bool HN.out.symm, Below.refl _ _⟩
end Go.Proofs.Ytlbblfbiiceofaa

namespace Go.Proofs.Ytlbblfbiiceofaa

/-- how many days a roster has -/
def daysOf (xs : List ByteArray) : Nat := (xs.headD ⟨#[]⟩).size
/-- a row of so many letters -/
def rowFits (d : Nat) (s : ByteArray) : Bool := decide (s.size = d) && wordOk s
/-- a roster -/
def rosterOk (xs : List ByteArray) : Bool := decide (1 ≤ xs.length) && decide (xs.length ≤ 4) && decide (daysOf xs ≤ 12) && xs.all (rowFits (daysOf xs))
theorem rosterOk_iff {xs : List ByteArray} : rosterOk xs = true ↔ 1 ≤ xs.length ∧ xs.length ≤ 4 ∧ daysOf xs ≤ 12 ∧ ∀ s ∈ xs, s.size = daysOf xs ∧ wordOk s = true := by
  simp only [rosterOk, Bool.and_eq_true, decide_eq_true_eq, List.all_eq_true, rowFits]
  constructor
  · rintro ⟨⟨⟨h1, h2⟩, h3⟩, h4⟩; exact ⟨h1, h2, h3, h4⟩
  · rintro ⟨h1, h2, h3, h4⟩; exact ⟨⟨⟨h1, h2⟩, h3⟩, h4⟩
theorem rosterOk_short {xs : List ByteArray} (h : xs.length < 1) : rosterOk xs = false := by simp [rosterOk]; omega
theorem rosterOk_long {xs : List ByteArray} (h : 4 < xs.length) : rosterOk xs = false := by simp [rosterOk]; omega
theorem rosterOk_days {xs : List ByteArray} (h : 12 < daysOf xs) : rosterOk xs = false := by
  have : decide (daysOf xs ≤ 12) = false := decide_eq_false (by omega)
  simp [rosterOk, this]
theorem rosterOk_rest {xs : List ByteArray} (h1 : 1 ≤ xs.length) (h2 : xs.length ≤ 4) (h3 : daysOf xs ≤ 12) : rosterOk xs = xs.all (rowFits (daysOf xs)) := by
  simp [rosterOk, h1, h2, h3]
theorem daysOf_get {xs : List ByteArray} (h : 0 < xs.length) : daysOf xs = xs[0].size := by
  cases xs with
  | nil => exact absurd h (Nat.not_lt_zero 0)
  | cons a l => rfl
theorem roster_row {xs : List ByteArray} (h : rosterOk xs = true) (k : Nat) (hk : k < xs.length) : xs[k].size = daysOf xs ∧ wordOk xs[k] = true := (rosterOk_iff.1 h).2.2.2 _ (List.getElem_mem hk)
theorem rosterOk_init {xs : List ByteArray} (h : rosterOk xs = true) (h2 : 2 ≤ xs.length) : rosterOk (xs.take (xs.length - 1)) = true := by
  obtain ⟨h1, h4, hd, ha⟩ := rosterOk_iff.1 h
  have hl : (xs.take (xs.length - 1)).length = xs.length - 1 := by rw [List.length_take]; omega
  have hdd : daysOf (xs.take (xs.length - 1)) = daysOf xs := by
    rw [daysOf_get (by omega), daysOf_get (by omega)]
    simp
  rw [rosterOk_iff, hl, hdd]
  exact ⟨by omega, by omega, hd, fun s hs => ha s (List.mem_of_mem_take hs)⟩

/-- needs -/
def needsOk (l d : Int) : Bool := decide (0 ≤ l) && decide (0 ≤ d) && decide (l + d ≤ 4)

/-- the letters of a day, and how many rows they come from -/
def dayBytes (xs : List ByteArray) (d : Nat) : List UInt8 := xs.map (fun s => byteAt s d)
def dayStr (xs : List ByteArray) (d : Nat) : ByteArray := ⟨(dayBytes xs d).toArray⟩
def dayOf (xs : List ByteArray) (d : Int) : ByteArray := if rosterOk xs = true ∧ 0 ≤ d ∧ d < daysOf xs then dayStr xs d.toNat else ⟨#[]⟩
theorem dayOf_yes {xs : List ByteArray} {d : Nat} (h : rosterOk xs = true) (hd : d < daysOf xs) : dayOf xs d = dayStr xs d := by
  rw [dayOf, if_pos ⟨h, by omega, by omega⟩]; rfl
theorem dayOf_no {xs : List ByteArray} {d : Int} (h : ¬ (rosterOk xs = true ∧ 0 ≤ d ∧ d < daysOf xs)) : dayOf xs d = ⟨#[]⟩ := if_neg h
theorem dayStr_size (xs : List ByteArray) (d : Nat) : (dayStr xs d).size = xs.length := by
  show (dayBytes xs d).toArray.size = _
  simp [dayBytes]
theorem dayBytes_take (xs : List ByteArray) (d k : Nat) (h : k < xs.length) : dayBytes (xs.take (k + 1)) d = dayBytes (xs.take k) d ++ [byteAt xs[k] d] := by
  rw [List.take_succ_eq_append_getElem h]; simp only [dayBytes, List.map_append, List.map_cons, List.map_nil]
theorem isL_byteAt {s : ByteArray} (h : wordOk s = true) (k : Nat) (hk : k < s.size) : isL (byteAt s k) = true := by
  cases hb : isL (byteAt s k) with
  | true => rfl
  | false =>
    rw [← byteAt_eq s k hk] at hb
    have := allL_false s k hk hb
    simp [wordOk, this] at h
theorem dayStr_word {xs : List ByteArray} (h : rosterOk xs = true) (d : Nat) (hd : d < daysOf xs) : wordOk (dayStr xs d) = true := by
  obtain ⟨h1, h4, -, ha⟩ := rosterOk_iff.1 h
  have hs := dayStr_size xs d
  have : allL (dayStr xs d).data.toList = true := by
    show allL (dayBytes xs d).toArray.toList = true
    rw [List.toList_toArray, allL, List.all_eq_true]
    intro c hc
    obtain ⟨s, hs, rfl⟩ := List.mem_map.1 hc
    obtain ⟨e, hw⟩ := ha s hs
    exact isL_byteAt hw d (by omega)
  rw [wordOk, this, Bool.true_and]
  exact decide_eq_true (by omega)

/-- so many have d, and so many n -/
def covers (s : ByteArray) (l d : Int) : Bool := countOf s ⟨#[100]⟩ == l && countOf s ⟨#[110]⟩ == d
def coverTo (xs : List ByteArray) (l d : Int) (k : Nat) : Bool := (List.range k).all (fun j => covers (dayStr xs j) l d)
def coverOk (xs : List ByteArray) (l d : Int) : Bool := rosterOk xs && needsOk l d && coverTo xs l d (daysOf xs)
theorem coverTo_succ (xs : List ByteArray) (l d : Int) (k : Nat) : coverTo xs l d (k + 1) = (coverTo xs l d k && covers (dayStr xs k) l d) := by
  simp [coverTo, List.range_succ]
theorem coverTo_false {xs : List ByteArray} {l d : Int} {k n : Nat} (hk : k < n) (h : covers (dayStr xs k) l d = false) : coverTo xs l d n = false := by
  rw [coverTo, List.all_eq_false]
  exact ⟨k, List.mem_range.2 hk, by simp [h]⟩
theorem coverOk_false {xs : List ByteArray} {l d : Int} {k : Nat} (hk : k < daysOf xs) (h : covers (dayStr xs k) l d = false) : coverOk xs l d = false := by
  simp [coverOk, coverTo_false hk h]
theorem coverOk_no1 {xs : List ByteArray} {l d : Int} (h : rosterOk xs = false) : coverOk xs l d = false := by simp [coverOk, h]
theorem coverOk_no2 {xs : List ByteArray} {l d : Int} (h : needsOk l d = false) : coverOk xs l d = false := by simp [coverOk, h]

/-- two rows exchanged -/
def exchOk (xs : List ByteArray) (a b : Int) : Bool := rosterOk xs && (decide (0 ≤ a) && decide (a < xs.length)) && (decide (0 ≤ b) && decide (b < xs.length)) && decide (a ≠ b)
def exchTo (xs : List ByteArray) (a b : Nat) : List ByteArray := (xs.set a (xs.getD b ⟨#[]⟩)).set b (xs.getD a ⟨#[]⟩)
def exch (xs : List ByteArray) (a b : Int) : List ByteArray := if exchOk xs a b = true then exchTo xs a.toNat b.toNat else []
theorem exch_no {xs : List ByteArray} {a b : Int} (h : exchOk xs a b = false) : exch xs a b = [] := by simp [exch, h]
theorem exch_yes {xs : List ByteArray} {a b : Nat} (h : exchOk xs a b = true) : exch xs a b = exchTo xs a b := by simp [exch, h]
theorem exchTo_length (xs : List ByteArray) (a b : Nat) : (exchTo xs a b).length = xs.length := by simp [exchTo]
theorem exchOk_iff {xs : List ByteArray} {a b : Int} : exchOk xs a b = true ↔ rosterOk xs = true ∧ (0 ≤ a ∧ a < xs.length) ∧ (0 ≤ b ∧ b < xs.length) ∧ a ≠ b := by
  simp only [exchOk, Bool.and_eq_true, decide_eq_true_eq]
  constructor
  · rintro ⟨⟨⟨h1, h2⟩, h3⟩, h4⟩; exact ⟨h1, h2, h3, h4⟩
  · rintro ⟨h1, h2, h3, h4⟩; exact ⟨⟨⟨h1, h2⟩, h3⟩, h4⟩
theorem exchTo_get {xs : List ByteArray} {a b : Nat} (ha : a < xs.length) (hb : b < xs.length) (k : Nat) (hk : k < (exchTo xs a b).length) :
    (exchTo xs a b)[k] = if k = b then xs[a] else if k = a then xs[b] else xs[k]'(by rw [exchTo_length] at hk; exact hk) := by
  have e1 : xs.getD a ⟨#[]⟩ = xs[a] := by simp [List.getD, ha]
  have e2 : xs.getD b ⟨#[]⟩ = xs[b] := by simp [List.getD, hb]
  simp only [exchTo, e1, e2, List.getElem_set]
  by_cases h1 : b = k
  · subst h1; simp
  · rw [if_neg h1, if_neg (show ¬ k = b from fun e => h1 e.symm)]
    by_cases h2 : a = k
    · subst h2; simp
    · rw [if_neg h2, if_neg (show ¬ k = a from fun e => h2 e.symm)]
theorem exchTo_perm {xs : List ByteArray} {a b : Nat} (ha : a < xs.length) (hb : b < xs.length) (s : ByteArray) : s ∈ exchTo xs a b ↔ s ∈ xs := by
  have hl := exchTo_length xs a b
  constructor
  · intro h
    obtain ⟨k, hk, rfl⟩ := List.mem_iff_getElem.1 h
    rw [exchTo_get ha hb]
    split
    · exact List.getElem_mem _
    · split <;> exact List.getElem_mem _
  · intro h
    obtain ⟨k, hk, rfl⟩ := List.mem_iff_getElem.1 h
    by_cases h1 : k = a
    · subst h1
      have := exchTo_get ha hb b (by omega)
      rw [if_pos rfl] at this
      rw [← this]; exact List.getElem_mem _
    · by_cases h2 : k = b
      · subst h2
        have := exchTo_get ha hb a (by omega)
        rw [if_neg (fun e => h1 e.symm), if_pos rfl] at this
        rw [← this]; exact List.getElem_mem _
      · have := exchTo_get ha hb k (by omega)
        rw [if_neg h2, if_neg h1] at this
        rw [← this]; exact List.getElem_mem _
theorem roster_all {xs ys : List ByteArray} (h : rosterOk xs = true) (hl : ys.length = xs.length) (hm : ∀ s, s ∈ ys → s ∈ xs) : rosterOk ys = true ∧ daysOf ys = daysOf xs := by
  obtain ⟨h1, h4, hd, ha⟩ := rosterOk_iff.1 h
  have hdd : daysOf ys = daysOf xs := by
    rw [daysOf_get (by omega)]
    exact (ha _ (hm _ (List.getElem_mem (by omega)))).1
  refine ⟨rosterOk_iff.2 ⟨by omega, by omega, by omega, fun s hs => ?_⟩, hdd⟩
  rw [hdd]
  exact ha s (hm s hs)
theorem exch_roster {xs : List ByteArray} {a b : Int} (h : exchOk xs a b = true) : rosterOk (exch xs a b) = true ∧ daysOf (exch xs a b) = daysOf xs ∧ (exch xs a b).length = xs.length := by
  obtain ⟨h1, h2, h3, -⟩ := exchOk_iff.1 h
  rw [exch, if_pos h]
  have := roster_all h1 (exchTo_length xs a.toNat b.toNat) (fun s hs => (exchTo_perm (by omega) (by omega) s).1 hs)
  exact ⟨this.1, this.2, exchTo_length _ _ _⟩
theorem exch_back {xs : List ByteArray} {a b : Int} (h : exchOk xs a b = true) : exchOk (exch xs a b) b a = true ∧ exch (exch xs a b) b a = xs := by
  obtain ⟨h1, h2, h3, h4⟩ := exchOk_iff.1 h
  obtain ⟨r1, r2, r3⟩ := exch_roster h
  have hok : exchOk (exch xs a b) b a = true := exchOk_iff.2 ⟨r1, by rw [r3]; exact h3, by rw [r3]; exact h2, fun e => h4 e.symm⟩
  refine ⟨hok, ?_⟩
  rw [exch, if_pos hok, exch, if_pos h]
  have ha : a.toNat < xs.length := by omega
  have hb : b.toNat < xs.length := by omega
  have hab : a.toNat ≠ b.toNat := by omega
  refine List.ext_getElem (by rw [exchTo_length, exchTo_length]) fun k hk1 hk2 => ?_
  rw [exchTo_get (by rw [exchTo_length]; exact hb) (by rw [exchTo_length]; exact ha), exchTo_get ha hb, exchTo_get ha hb, exchTo_get ha hb k (by rw [exchTo_length]; exact hk2)]
  by_cases e1 : k = a.toNat
  · subst e1; simp
  · rw [if_neg e1]
    by_cases e2 : k = b.toNat
    · subst e2; simp [hab]
    · rw [if_neg e2, if_neg e2, if_neg e1]
theorem exch_at {xs : List ByteArray} {a b : Nat} (h : exchOk xs a b = true) (ha : a < (exch xs a b).length) (hb : b < xs.length) : (exch xs a b)[a] = xs[b] := by
  obtain ⟨h1, h2, h3, h4⟩ := exchOk_iff.1 h
  have e : exch xs a b = exchTo xs a b := exch_yes h
  simp only [e]
  rw [exchTo_get (by omega) (by omega), if_neg (by omega), if_pos rfl]
end Go.Proofs.Ytlbblfbiiceofaa

namespace Go.Proofs.Ytlbblfbiiceofaa
open Go.Shelf

def shCloneS_ren : Go.Shelf.Ren := ⟨fun | 16 => 66 | n => n, fun | 4 => 4 | 9 => 9 | 24 => 23 | n => n, fun | n => n⟩
set_option maxRecDepth 100000 in
theorem shCloneS_lays : Go.Proofs.Lays2.n16 Try.prog shCloneS_ren := {
  mixed := by kernel_rfl
  f16 := Try.func66.trans (congrArg some (by kernel_rfl))
  t4 := Try.underlying4
  a4 := Try.isAgg4
  z4 := Try.sizeOf4
  v4 := Try.zeroValue4
  t9 := Try.underlying9
  a9 := Try.isAgg9
  z9 := Try.sizeOf9
  v9 := Try.zeroValue9
  t24 := Try.underlying23
  a24 := Try.isAgg23
  z24 := Try.sizeOf23
  v24 := Try.zeroValue23
  i9 := by kernel_rfl }

def shContS_ren : Go.Shelf.Ren := ⟨fun | 6 => 79 | 8 => 54 | n => n, fun | 0 => 0 | 3 => 3 | 4 => 4 | 22 => 23 | 23 => 9 | 25 => 71 | n => n, fun | n => n⟩
set_option maxRecDepth 100000 in
theorem shContS_lays : Go.Proofs.SlLaysH.n8 Try.prog shContS_ren := {
  mixed := by kernel_rfl
  f6 := ⟨Try.f79.name, by decide, Try.func79.trans (congrArg some (by kernel_rfl))⟩
  f8 := ⟨Try.f54.name, by decide, Try.func54.trans (congrArg some (by kernel_rfl))⟩
  t0 := Try.underlying0
  a0 := Try.isAgg0
  z0 := Try.sizeOf0
  v0 := Try.zeroValue0
  t3 := Try.underlying3
  a3 := Try.isAgg3
  z3 := Try.sizeOf3
  v3 := Try.zeroValue3
  t4 := Try.underlying4
  a4 := Try.isAgg4
  z4 := Try.sizeOf4
  v4 := Try.zeroValue4
  t22 := Try.underlying23
  a22 := Try.isAgg23
  z22 := Try.sizeOf23
  v22 := Try.zeroValue23
  a23 := Try.isAgg9
  z23 := Try.sizeOf9
  t25 := Try.underlying71
  a25 := Try.isAgg71
  z25 := Try.sizeOf71
  v25 := Try.zeroValue71 }
end Go.Proofs.Ytlbblfbiiceofaa

namespace Go.Proofs.Ytlbblfbiiceofaa
open Go.RowKit

theorem l1In_sameR (n lo hi : Int) (w : World) :
    Calls Try.prog 57 #[.int .i64 n, .int .i64 lo, .int .i64 hi] w fun e w' => e = .returned (.bool (decide (lo ≤ n) && decide (n ≤ hi))) ∧ w' = w := (l1In_any n lo hi w).mono fun _ _ ⟨h, g⟩ => ⟨h, g.symm⟩
theorem drewN_zero (w : World) : w = w.drewN 0 := rfl

set_option maxHeartbeats 800000 in
theorem rowBad_any (d : Nat) (hd : d ≤ 12) (a : Addr) (W : World) (x : ByteArray) (hc : W.cell? a = some (.int .i64 (d : Int))) :
    Calls Try.prog 55 #[.string x, .pointer (some a)] W fun e w' => e = .returned (.bool (!rowFits d x)) ∧ ∃ q, w' = W.drewN q := by
  by_cases hx : x.size = d
  · have hne : ((x.size : Int) != (d : Int)) = false := by simp [hx]
    have HR : Hid (rowFits d x = wordOk x) := by
      have : rowFits d x = wordOk x := by simp [rowFits, hx]
      exact Lib.hid this
    have hm : x.size ≤ maxLen := by unfold maxLen; omega
    clear hx
    go_enter Try.func55, Try.ntmps55
    go_wp2_with (go_at_call 56; refine (implWordOk_any _ _ hm).mono ?_; rintro e w' ⟨rfl, rfl⟩)
    go_ret
    exact ⟨ret_bool (by rw [HR.out]), 0, rfl⟩
  · have hne : ((x.size : Int) != (d : Int)) = true := by simp; omega
    have HR : Hid (rowFits d x = false) := by
      have : rowFits d x = false := by simp [rowFits, hx]
      exact Lib.hid this
    clear hx
    go_enter Try.func55, Try.ntmps55
    go_wp2
    go_ret
    exact ⟨ret_bool (by rw [HR.out]; rfl), 0, rfl⟩
theorem contS_any (v : Value) (xs : List ByteArray) (d : Nat) (hd : d ≤ 12) (b : Nat) (w : World) (h : IsStrs w v xs) (h1 : 1 ≤ xs.length) (h4 : xs.length ≤ 4) (hb : b < w.heap.size) (hc : w.cell? ⟨b, 0, none⟩ = some (.int .i64 (d : Int))) :
    Calls Try.prog 54 #[v, .func (.func 55) #[] #[.pointer (some ⟨b, 0, none⟩)]] w fun e w' => e = .returned (.bool (!xs.all (rowFits d))) ∧ ∃ n, w' = w.drewN n := by
  obtain ⟨a, cap, rfl, ha1, ha2, ha⟩ := h
  have eg : ∀ args w, (callFunc 55 args).run Try.prog w = .ok (.enter 55 args) w := enters_of Try.func55 (by kernel_rfl) rfl
  obtain ⟨g, off, rfl, hg, hcc⟩ := ha.resolve_left (fun e => by rw [e] at h1; exact absurd h1 (by decide))
  refine (AnyE.slices_ContainsFunc shContS_lays Value.string (fun x => !rowFits d x) 55 #[.pointer (some ⟨b, 0, none⟩)] eg g off xs.length cap xs w (fun W x hW => rowBad_any d hd _ W x ((hW.cell (p := ⟨b, 0, none⟩) hb).trans hc)) (Nat.le_refl _) (by omega) (fun j hj => by rw [hcc j hj]; simp [hj])).mono ?_
  rintro e w' ⟨rfl, q, rfl⟩
  refine ⟨ret_bool ?_, q, rfl⟩
  rw [List.take_length, List.not_all_eq_any_not]

set_option maxHeartbeats 1600000 in
theorem implRosterOk_any (v : Value) (xs : List ByteArray) (hwf : Short xs) (w : World) (h : IsStrs w v xs) :
    Calls Try.prog 18 #[v] w fun e w' => e = .returned (.bool (rosterOk xs)) ∧ Below w.heap.size w w' := by
  have H := Lib.hid h
  obtain ⟨a, cap, rfl, ha1, ha2, ha⟩ := h
  unfold maxLen at ha2
  by_cases h1 : xs.length < 1
  · have HS := Lib.hid (rosterOk_short h1)
    clear ha
    go_enter Try.func18, Try.ntmps18
    go_wp2
    go_ret
    exact ⟨ret_bool HS.out.symm, by first | exact Below.refl _ _ | exact Go.Joins.below_alloc1 _ _⟩
  · by_cases h4 : 4 < xs.length
    · have HS := Lib.hid (rosterOk_long h4)
      clear ha
      go_enter Try.func18, Try.ntmps18
      go_wp2
      go_ret
      exact ⟨ret_bool HS.out.symm, by first | exact Below.refl _ _ | exact Go.Joins.below_alloc1 _ _⟩
    · obtain ⟨g, off, rfl, hg, hc⟩ := ha.resolve_left (fun h => by rw [h] at h1; exact h1 (by decide))
      have h0 : 0 < xs.length := by omega
      have c0 : w.cell? ⟨g, off, none⟩ = some (.string xs[0]) := hc 0 h0
      have hsz : xs[0].size ≤ 9223372036854775807 := by have := hwf xs[0] (List.getElem_mem h0); unfold maxLen at this; exact this
      have HD := Lib.hid (daysOf_get h0)
      have HLong : Hid (12 < daysOf xs → rosterOk xs = false) := Lib.hid rosterOk_days
      have HRest : Hid (daysOf xs ≤ 12 → rosterOk xs = xs.all (rowFits (daysOf xs))) := Lib.hid (rosterOk_rest (by omega) (by omega))
      have HCF : Hid (∀ (d : Nat), d ≤ 12 → ∀ (b : Nat) (W : World), IsStrs W (.slice (some ⟨g, off, none⟩) xs.length cap) xs → b < W.heap.size → W.cell? ⟨b, 0, none⟩ = some (.int .i64 (d : Int)) → Calls Try.prog 54 #[.slice (some ⟨g, off, none⟩) xs.length cap, .func (.func 55) #[] #[.pointer (some ⟨b, 0, none⟩)]] W fun e w' => e = .returned (.bool (!xs.all (rowFits d))) ∧ ∃ n, w' = W.drewN n) :=
        Lib.hid (fun d hd b W hI hb hcl => contS_any _ xs d hd b W hI (by omega) (by omega) hb hcl)
      rw [HD.out] at HLong HRest
      clear hc ha hwf HD
      generalize xs[0] = s0 at *
      by_cases hd : s0.size ≤ 12
      · have HR := Lib.hid (HRest.out hd)
        have HC2 := Lib.hid (HCF.out _ hd)
        clear HLong HRest HCF
        generalize xs.all (rowFits s0.size) = b at HR HC2
        go_enter Try.func18, Try.ntmps18
        go_wp2_with fail
        refine (HC2.out w.heap.size _ (H.out.below (Go.Joins.below_alloc1 _ _)) (by simp) (World.cell?_alloc_new w _ _ 0)).mono ?_
        rintro e w' ⟨rfl, n, rfl⟩
        go_wp2
        go_ret
        exact ⟨ret_bool (by first | (rw [HR.out]; done) | (rw [HR.out]; simp)), below_drewN (Go.Joins.below_alloc1 _ _) n⟩
      · have HR := Lib.hid (HLong.out (by omega))
        clear HLong HRest HCF
        go_enter Try.func18, Try.ntmps18
        go_wp2
        go_ret
        exact ⟨ret_bool HR.out.symm, Go.Joins.below_alloc1 _ _⟩

theorem roster_stop {xs : List ByteArray} (k : Nat) (hk : k < xs.length) (h : ¬ (wordOk xs[k] = true ∧ xs[k].size = daysOf xs ∧ xs[k].size ≤ 12)) : rosterOk xs = false := by
  cases hr : rosterOk xs with
  | false => rfl
  | true =>
    obtain ⟨h1, h2, h3, h4⟩ := rosterOk_iff.1 hr
    obtain ⟨h5, h6⟩ := h4 _ (List.getElem_mem hk)
    exact absurd ⟨h6, h5, by omega⟩ h

set_option maxHeartbeats 3200000 in
theorem specRosterOk_any (v : Value) (xs : List ByteArray) (hwf : Short xs) (w : World) (h : IsStrs w v xs) :
    Calls Try.prog 19 #[v] w fun e w' => e = .returned (.bool (rosterOk xs)) ∧ Below w.heap.size w w' := by
  obtain ⟨a, cap, rfl, ha1, ha2, ha⟩ := h
  unfold maxLen at ha2
  by_cases hin : 1 ≤ xs.length ∧ xs.length ≤ 4
  · have hi : (decide ((1 : Int) ≤ xs.length) && decide ((xs.length : Int) ≤ 4)) = true := by simp; omega
    obtain ⟨g, off, rfl, hg, hc⟩ := ha.resolve_left (fun h => by rw [h] at hin; exact absurd hin.1 (by decide))
    have h0 : 0 < xs.length := by omega
    have hsz0 : xs[0].size ≤ 9223372036854775807 := by have := hwf xs[0] (List.getElem_mem h0); unfold maxLen at this; exact this
    have HWF := Lib.hid hwf
    have HC := Lib.hid hc
    have HD := Lib.hid (daysOf_get h0)
    have HST : Hid (∀ k (hk : k < xs.length), ¬ (wordOk xs[k] = true ∧ xs[k].size = xs[0].size ∧ xs[k].size ≤ 12) → rosterOk xs = false) := by
      have := fun k hk => roster_stop (xs := xs) k hk
      rw [HD.out] at this
      exact Lib.hid this
    have HALL : Hid ((∀ j (hj : j < xs.length), wordOk xs[j] = true ∧ xs[j].size = xs[0].size ∧ xs[j].size ≤ 12) → rosterOk xs = true) := by
      have : (∀ j (hj : j < xs.length), wordOk xs[j] = true ∧ xs[j].size = xs[0].size ∧ xs[j].size ≤ 12) → rosterOk xs = true := fun h => by
        rw [rosterOk_iff, HD.out]
        refine ⟨hin.1, hin.2, (h 0 h0).2.2, fun s hs => ?_⟩
        obtain ⟨j, hj, rfl⟩ := List.mem_iff_getElem.1 hs
        exact ⟨(h j hj).2.1, (h j hj).1⟩
      exact Lib.hid this
    have hc0 := hc 0 h0
    clear hc ha hwf HD hin
    go_enter Try.func19, Try.ntmps19
    go_wp2_with (go_at_call 57; refine (l1In_any _ _ _ _).mono ?_; rintro e w' ⟨rfl, rfl⟩)
    go_loopw [3] (fun i wr => ∃ k : Nat, k ≤ xs.length ∧ i = .int .i64 k ∧ Hid (∀ j (hj : j < xs.length), j < k → wordOk xs[j] = true ∧ xs[j].size = xs[0].size ∧ xs[j].size ≤ 12) ∧ ∃ d, wr = w.drewN d) (fun i _ => xs.length - (intOf i).toNat)
    case atStart => exact ⟨0, Nat.zero_le _, rfl, Lib.hid (fun j _ h => absurd h (Nat.not_lt_zero j)), 0, rfl⟩
    case round =>
      obtain ⟨k, hk, rfl, HA, d, rfl⟩ := hrel
      by_cases hlt : k < xs.length
      · have c0 : (w.drewN d).cell? ⟨g, off, none⟩ = some (.string xs[0]) := hc0
        have ck : (w.drewN d).cell? ⟨g, off + k, none⟩ = some (.string xs[k]) := HC.out k hlt
        have hszk := HWF.out xs[k] (List.getElem_mem hlt)
        have hszk' : xs[k].size ≤ 9223372036854775807 := by unfold maxLen at hszk; exact hszk
        have HSK := Lib.hid (HST.out k hlt)
        have HSZ := Lib.hid hszk
        have HAN : Hid (wordOk xs[k] = true ∧ xs[k].size = xs[0].size ∧ xs[k].size ≤ 12 → ∀ j (hj : j < xs.length), j < k + 1 → wordOk xs[j] = true ∧ xs[j].size = xs[0].size ∧ xs[j].size ≤ 12) := by
          have : wordOk xs[k] = true ∧ xs[k].size = xs[0].size ∧ xs[k].size ≤ 12 → ∀ j (hj : j < xs.length), j < k + 1 → wordOk xs[j] = true ∧ xs[j].size = xs[0].size ∧ xs[j].size ≤ 12 := fun h j hj hjk => by
            by_cases e : j = k
            · subst e; exact h
            · exact HA.out j hj (by omega)
          exact Lib.hid this
        have HW : Hid (∀ q, ∃ d', (w.drewN d).drewN q = w.drewN d') := Lib.hid (fun q => ⟨d + q, by rw [World.drewN_drewN]⟩)
        have HBW := Lib.hid (below_drewN (Below.refl w.heap.size w) d)
        generalize w.drewN d = W at c0 ck HW HBW ⊢
        clear hszk
        generalize xs[k] = s at *
        generalize hx0 : xs[0] = s0 at *
        by_cases hw : wordOk s = true
        · have HWO : Hid (∀ W, Calls Try.prog 58 #[.string s] W fun e w' => e = .returned (.bool true) ∧ w' = W) := Lib.hid (fun W => (specWordOk_any s W HSZ.out).mono fun _ _ ⟨h, g⟩ => ⟨by rw [h, hw], g.symm⟩)
          by_cases hs : s.size = s0.size
          · have hne : ((s.size : Int) != (s0.size : Int)) = false := by simp [hs]
            by_cases h12 : s.size ≤ 12
            · have HN := Lib.hid (HAN.out ⟨hw, hs, h12⟩)
              have hd12 : decide ((12 : Int) < (s.size : Int)) = false := decide_eq_false (by omega)
              clear HSK HAN hs hw
              go_wp2
              go_quiet ((go_at_call 58; exact Calls.quiet_of_same (HWO.out _)))
              go_wp2
              go_roundw
              case rel => exact ⟨k + 1, by omega, by go_num, HN, HW.out _⟩
              case measure => simp [intOf]; omega
            · have HR := Lib.hid (HSK.out (fun h => h12 h.2.2))
              have hd12 : decide ((12 : Int) < (s.size : Int)) = true := decide_eq_true (by omega)
              clear HSK HAN hs hw
              go_wp2
              go_quiet ((go_at_call 58; exact Calls.quiet_of_same (HWO.out _)))
              go_wp2
              go_ret
              exact ⟨ret_bool HR.out.symm, HBW.out.trans (below_drewN (Below.refl _ _) _ |>.mono HBW.out.size)⟩
          · have HR := Lib.hid (HSK.out (fun h => hs h.2.1))
            have hne : ((s.size : Int) != (s0.size : Int)) = true := by simp; omega
            clear HSK HAN hs hw
            go_wp2
            go_quiet ((go_at_call 58; exact Calls.quiet_of_same (HWO.out _)))
            go_wp2
            go_ret
            exact ⟨ret_bool HR.out.symm, HBW.out.trans (below_drewN (Below.refl _ _) _ |>.mono HBW.out.size)⟩
        · have HR := Lib.hid (HSK.out (fun h => hw h.1))
          have hwf : wordOk s = false := by simpa using hw
          have HWO : Hid (∀ W, Calls Try.prog 58 #[.string s] W fun e w' => e = .returned (.bool false) ∧ w' = W) := Lib.hid (fun W => (specWordOk_any s W HSZ.out).mono fun _ _ ⟨h, g⟩ => ⟨by rw [h, hwf], g.symm⟩)
          clear HSK HAN hw hwf
          go_wp2
          go_quiet ((go_at_call 58; exact Calls.quiet_of_same (HWO.out _)))
          go_wp2
          go_ret
          exact ⟨ret_bool HR.out.symm, HBW.out.trans (below_drewN (Below.refl _ _) _ |>.mono HBW.out.size)⟩
      · obtain rfl : k = xs.length := by omega
        have HR := Lib.hid (HALL.out (fun j hj => HA.out j hj hj))
        go_wp2
        go_ret
        exact ⟨ret_bool HR.out.symm, below_drewN (Below.refl _ _) d⟩
  · have hi : (decide ((1 : Int) ≤ xs.length) && decide ((xs.length : Int) ≤ 4)) = false := by simp; omega
    have HR : Hid (rosterOk xs = false) := by
      have : rosterOk xs = false := by
        rcases Nat.lt_or_ge xs.length 1 with h | h
        · exact rosterOk_short h
        · exact rosterOk_long (by omega)
      exact Lib.hid this
    clear ha hin
    go_enter Try.func19, Try.ntmps19
    go_wp2_with (go_at_call 57; refine (l1In_any _ _ _ _).mono ?_; rintro e w' ⟨rfl, rfl⟩)
    go_ret
    exact ⟨ret_bool HR.out.symm, Below.refl _ _⟩

theorem needsOk_sum {l d : Int} (h1 : 0 ≤ l) (h2 : 0 ≤ d) : needsOk l d = decide (d ≤ 4 - l) := by
  simp only [needsOk, h1, h2, decide_true, Bool.true_and]
  exact decide_eq_decide.2 (by omega)
theorem needsOk_no {l d : Int} (h : ¬ (0 ≤ l ∧ 0 ≤ d)) : needsOk l d = false := by
  simp only [needsOk, Bool.and_eq_false_iff, decide_eq_false_iff_not]
  omega

set_option maxHeartbeats 800000 in
theorem implNeedsOk_any (l d : Int) (w : World) (hl : (Lit.int .i64 l).wf = true) (hd : (Lit.int .i64 d).wf = true) :
    Calls Try.prog 22 #[.agg #[.int .i64 l, .int .i64 d]] w fun e w' => e = .returned (.bool (needsOk l d)) ∧ Below w.heap.size w w' := by
  have hb := bounds_i64 hl
  have hb2 := bounds_i64 hd
  by_cases h1 : 0 ≤ l
  · by_cases h2 : 0 ≤ d
    · have HE := Lib.hid (needsOk_sum h1 h2)
      go_enter Try.func22, Try.ntmps22
      go_wp2
      go_ret
      exact ⟨ret_bool HE.out.symm, Go.Joins.below_alloc1 _ _⟩
    · have HE := Lib.hid (needsOk_no (l := l) (d := d) (by omega))
      go_enter Try.func22, Try.ntmps22
      go_wp2
      go_ret
      exact ⟨ret_bool HE.out.symm, Go.Joins.below_alloc1 _ _⟩
  · have HE := Lib.hid (needsOk_no (l := l) (d := d) (by omega))
    go_enter Try.func22, Try.ntmps22
    go_wp2
    go_ret
    exact ⟨ret_bool HE.out.symm, Go.Joins.below_alloc1 _ _⟩

set_option maxHeartbeats 800000 in
theorem specNeedsOk_any (l d : Int) (w : World) :
    Calls Try.prog 23 #[.agg #[.int .i64 l, .int .i64 d]] w fun e w' => e = .returned (.bool (needsOk l d)) ∧ Below w.heap.size w w' := by
  have x0 : (w.alloc (.cells #[.int .i64 l, .int .i64 d] 29)).cell? ⟨w.heap.size, 0, none⟩ = some (.int .i64 l) := World.cell?_alloc_new w _ _ 0
  have x1 : (w.alloc (.cells #[.int .i64 l, .int .i64 d] 29)).cell? ⟨w.heap.size, 1, none⟩ = some (.int .i64 d) := World.cell?_alloc_new w _ _ 1
  by_cases h1 : 0 ≤ l ∧ l ≤ 4
  · by_cases h2 : 0 ≤ d ∧ d ≤ 4
    · have HE := Lib.hid (needsOk_sum h1.1 h2.1)
      have e1 : (decide ((0 : Int) ≤ l) && decide (l ≤ 4)) = true := by simp; omega
      have e2 : (decide ((0 : Int) ≤ d) && decide (d ≤ 4)) = true := by simp; omega
      have hb1 := h1.1
      have hb2 := h1.2
      have hb3 := h2.1
      have hb4 := h2.2
      clear h1 h2
      go_enter Try.func23, Try.ntmps23
      go_wp2_with (go_at_call 57; refine (l1In_any _ _ _ _).mono ?_; rintro e w' ⟨rfl, rfl⟩)
      go_ret
      exact ⟨ret_bool (by rw [HE.out]; exact decide_eq_decide.2 (by omega)), Go.Joins.below_alloc1 _ _⟩
    · have HE : Hid (needsOk l d = false) := by
        have : needsOk l d = false := by
          by_cases h : 0 ≤ l ∧ 0 ≤ d
          · rw [needsOk_sum h.1 h.2]; exact decide_eq_false (by omega)
          · exact needsOk_no h
        exact Lib.hid this
      have e1 : (decide ((0 : Int) ≤ l) && decide (l ≤ 4)) = true := by simp; omega
      have e2 : (decide ((0 : Int) ≤ d) && decide (d ≤ 4)) = false := by simp; omega
      clear h1 h2
      go_enter Try.func23, Try.ntmps23
      go_wp2_with (go_at_call 57; refine (l1In_any _ _ _ _).mono ?_; rintro e w' ⟨rfl, rfl⟩)
      go_ret
      exact ⟨ret_bool HE.out.symm, Go.Joins.below_alloc1 _ _⟩
  · have HE : Hid (needsOk l d = false) := by
      have : needsOk l d = false := by
        by_cases h : 0 ≤ l ∧ 0 ≤ d
        · rw [needsOk_sum h.1 h.2]; exact decide_eq_false (by omega)
        · exact needsOk_no h
      exact Lib.hid this
    have e1 : (decide ((0 : Int) ≤ l) && decide (l ≤ 4)) = false := by simp; omega
    clear h1
    go_enter Try.func23, Try.ntmps23
    go_wp2_with (go_at_call 57; refine (l1In_any _ _ _ _).mono ?_; rintro e w' ⟨rfl, rfl⟩)
    go_ret
    exact ⟨ret_bool HE.out.symm, Go.Joins.below_alloc1 _ _⟩
end Go.Proofs.Ytlbblfbiiceofaa

namespace Go.Proofs.Ytlbblfbiiceofaa
open Go.RowKit

theorem infoU8R : (Try.prog.info? 5).map (fun i => (i.zero, i.size, i.bytes)) = some (some (.int .u8 0), 1, 1) := by kernel_rfl
theorem cellRD (w : World) (u : Value) (t : TypeId) : ∀ j x, [u][j]? = some x → (w.alloc (.cells #[u] t)).cell? ((⟨w.heap.size, 0, none⟩ : Addr).add j) = some x := by
  intro j x h
  match j, h with
  | 0, h =>
    simp only [List.getElem?_cons_zero, Option.some.injEq] at h
    subst h
    rw [add_off, Nat.zero_add, World.cell?_alloc_new]; rfl
/-- the bytes of a row -/
def bvR (p : List UInt8) : List Value := p.map fun b => .int .u8 (b.toNat : Int)
theorem bvR_more (p : List UInt8) (b : UInt8) : bvR (p ++ [b]) = bvR p ++ [.int .u8 (b.toNat : Int)] := by simp [bvR]
theorem bvR_at (p : List UInt8) (j : Nat) (h : j < p.length) : (bvR p)[j]? = some (.int .u8 (p[j].toNat : Int)) := by simp [bvR, h]
/-- a row of bytes as a string -/
theorem row_convertR {W : World} {v : Value} {p : List UInt8} (h : W.ownsRow 0 5 1 v p.length (bvR p)) : (convert 22 9 v).run Try.prog W = .ok (.string ⟨p.toArray⟩) W := by
  rcases h.2 with ⟨rfl, hn⟩ | ⟨g, cap, cur, rfl, _⟩
  · obtain rfl : p = [] := List.eq_nil_of_length_eq_zero hn
    kernel_rfl
  · refine run_convert_bytes_back (P := Try.prog) W 22 9 5 ⟨g, 0, none⟩ cap p Try.underlying22 Try.underlying5 Try.underlying9 (fun j hj => ?_)
    have hc := World.ownsRow.cellAt h j (by omega)
    rw [bvR_at p j hj] at hc
    rw [add_off, Nat.zero_add]; exact hc
theorem ownsRow_sliceR {w : World} {b : Nat} {e : TypeId} {size : Nat} {v : Value} {n : Nat} {xs : List Value} (h : w.ownsRow b e size v n xs) : ∃ a c, v = .slice a n c := by
  rcases h.2 with ⟨rfl, rfl⟩ | ⟨g, cap, cur, rfl, _⟩
  · exact ⟨_, _, rfl⟩
  · exact ⟨_, _, rfl⟩
/-- the letters of the first rows -/
def dayTo (xs : List ByteArray) (d k : Nat) : List UInt8 := dayBytes (xs.take k) d
theorem dayTo_zero (xs : List ByteArray) (d : Nat) : dayTo xs d 0 = [] := rfl
theorem dayTo_succ (xs : List ByteArray) (d k : Nat) (h : k < xs.length) : dayTo xs d (k + 1) = dayTo xs d k ++ [byteAt xs[k] d] := dayBytes_take xs d k h
theorem dayTo_length (xs : List ByteArray) (d k : Nat) (h : k ≤ xs.length) : (dayTo xs d k).length = k := by
  simp only [dayTo, dayBytes, List.length_map, List.length_take]; omega
theorem dayTo_all (xs : List ByteArray) (d : Nat) : (⟨(dayTo xs d xs.length).toArray⟩ : ByteArray) = dayStr xs d := by
  simp [dayTo, dayStr]

set_option maxHeartbeats 3200000 in
theorem implDayOf_yes (v : Value) (xs : List ByteArray) (hwf : Short xs) (d : Nat) (w : World) (h : IsStrs w v xs) (hok : rosterOk xs = true) (hd : d < daysOf xs) :
    Calls Try.prog 25 #[v, .int .i64 (d : Int)] w fun e w' => e = .returned (.string (dayStr xs d)) ∧ Below w.heap.size w w' := by
  have HR := Lib.hid (implRosterOk_any v xs hwf w h)
  rw [hok] at HR
  have H := Lib.hid h
  obtain ⟨u0, hu, hz0, hz1, hz2⟩ := info_parts infoU8R
  have HU := Lib.hid (And.intro hu (And.intro hz0 (And.intro hz1 hz2)))
  clear hu hz0 hz1 hz2
  obtain ⟨hn1, hn4, hd12, hrows⟩ := rosterOk_iff.1 hok
  have HRW := Lib.hid hrows
  have hd0 := daysOf_get (xs := xs) (by omega)
  obtain ⟨a, cap, rfl, hcp, hmx⟩ := h.form
  obtain ⟨g, off, rfl, hg, hc⟩ := h.at (by omega)
  have HC := Lib.hid hc
  have hdle : d < xs[0].size := by omega
  have hszi : xs[0].size ≤ 12 := by omega
  have HD0 := Lib.hid hd0
  have HDD := Lib.hid hd
  have HG := Lib.hid hg
  clear hc h hwf hrows hd0 hd hd12 hok hg
  go_enter Try.func25, Try.ntmps25
  go_wp2_with fail
  refine HR.out.mono ?_
  clear HR
  rintro e w1 ⟨rfl, hb1⟩
  have B1 := Lib.hid hb1
  have hcell0 : w1.cell? ⟨g, off, none⟩ = some (.string xs[0]) := (hb1.cell (p := ⟨g, off, none⟩) HG.out).trans (HC.out 0 (by omega))
  have hg1 := Lib.hid (Nat.lt_of_lt_of_le HG.out hb1.size)
  have HC1 : Hid (∀ k (hk : k < xs.length), w1.cell? ⟨g, off + k, none⟩ = some (.string xs[k])) := Lib.hid (fun k hk => (hb1.cell (p := ⟨g, off + k, none⟩) HG.out).trans (HC.out k hk))
  clear hb1
  have h0 : 0 < xs.length := by omega
  have HX0 : Hid (∀ k (hk : k < xs.length), xs[k].size = xs[0].size) := Lib.hid (fun k hk => by rw [(HRW.out _ (List.getElem_mem hk)).1, HD0.out])
  generalize hs0 : xs[0] = s0 at *
  have O1 := Lib.hid ((Own.nil w1).idle 5)
  have hdn : decide ((d : Int) < 0) = false := decide_eq_false (by omega)
  have hdg : decide ((s0.size : Int) ≤ (d : Int)) = false := decide_eq_false (by omega)
  have hdg2 : decide (s0.size ≤ d) = false := decide_eq_false (by omega)
  have HS0 := Lib.hid hs0
  clear hs0
  go_wp2_with fail
  go_loopw [5, 7, 25] (fun lv rv iv wr => ∃ (k : Nat) (p : List UInt8), k ≤ xs.length ∧ iv = .int .i64 (k : Int) ∧ Hid (p = dayTo xs d k) ∧ p.length = k ∧ Own w1 [rowT 5 1 lv p.length (bvR p)] wr) (fun _ _ iv _ => xs.length - (intOf iv).toNat)
  case atStart => exact ⟨0, [], Nat.zero_le _, rfl, Lib.hid rfl, rfl, O1.out⟩
  case round =>
    obtain ⟨k, p, hk, rfl, HP, hpl, hO⟩ := hrel
    obtain ⟨wa, wc, rfl⟩ := ownsRow_sliceR (hO.row 0 (by simp) rfl)
    have O2 := Lib.hid hO
    by_cases hlt : k < xs.length
    · have ck := (O2.out.keep.cell (p := ⟨g, off + k, none⟩) hg1.out).trans (HC1.out k hlt)
      have hsz := HX0.out k hlt
      have HS := Lib.hid (dayTo_succ xs d k hlt)
      have hlt2 : d < xs[k].size := by omega
      have HBY := Lib.hid (byteAt_eq xs[k] d hlt2)
      have hpl4 : p.length ≤ 4 := by omega
      have HPL := Lib.hid hpl
      clear hO hsz hpl
      generalize xs[k] = s at *
      go_wp2_with (at_builtin; refine wpList_append_lies _ rfl _ _ 22 rfl 0 5 u0 (.int .u8 0) 1 1 Try.underlying22 HU.out.1 HU.out.2.1 HU.out.2.2.1 HU.out.2.2.2 rfl (by decide) (.slice wa p.length wc) p.length (bvR p) rfl ((O2.out.row 0 (by simp) rfl).alloc _) ⟨wr.heap.size, 0, none⟩ 1 1 [.int .u8 (s[d].toNat : Int)] rfl rfl (cellRD _ _ _) (by simp [Value.oneCell']) (by omega) (by unfold maxLen; omega) (by omega) (Nat.zero_le _) _ rfl ?_; intro g9 cp w6 hown hgrow hat hlt3; have O5 := Lib.hid (O2.out.push (i := 0) (by simp) rfl hgrow hown hat); clear hown hgrow hat hlt3)
      go_roundw
      case rel => exact ⟨k + 1, p ++ [s[d]], by omega, by go_num, Lib.hid (by rw [HS.out, HP.out, HBY.out]), by rw [List.length_append, HPL.out]; rfl, by rw [List.length_append, bvR_more]; exact O5.out⟩
      case measure => simp [intOf]; omega
    · obtain rfl : k = xs.length := by omega
      have hcv := row_convertR (O2.out.row 0 (by simp) rfl)
      have HE : Hid (dayStr xs d = ⟨p.toArray⟩) := by
        have : dayStr xs d = ⟨p.toArray⟩ := by rw [HP.out, dayTo_all]
        exact Lib.hid this
      clear hO hpl
      go_wp2_with fail
      go_ret
      exact ⟨ret_str HE.out.symm, B1.out.trans (O2.out.keep.mono B1.out.size)⟩

set_option maxHeartbeats 1600000 in
theorem implDayOf_any (v : Value) (xs : List ByteArray) (hwf : Short xs) (d : Int) (w : World) (h : IsStrs w v xs) :
    Calls Try.prog 25 #[v, .int .i64 d] w fun e w' => e = .returned (.string (dayOf xs d)) ∧ Below w.heap.size w w' := by
  by_cases hall : rosterOk xs = true ∧ 0 ≤ d ∧ d < daysOf xs
  · obtain ⟨n, rfl⟩ := Int.eq_ofNat_of_zero_le hall.2.1
    rw [dayOf_yes hall.1 (by have := hall.2.2; omega)]
    exact implDayOf_yes v xs hwf n w h hall.1 (by have := hall.2.2; omega)
  · have HE := Lib.hid (dayOf_no hall)
    have HR := Lib.hid (implRosterOk_any v xs hwf w h)
    obtain ⟨a, cap, rfl, hcp, hmx⟩ := h.form
    cases hb : rosterOk xs with
    | false =>
      rw [hb] at HR
      clear hall
      go_enter Try.func25, Try.ntmps25
      go_wp2_with (go_at_call 18; refine HR.out.mono ?_; rintro e w1 ⟨rfl, hb1⟩)
      go_ret
      exact ⟨ret_str HE.out.symm, hb1⟩
    | true =>
      rw [hb] at HR
      obtain ⟨hn1, hn4, hd12, -⟩ := rosterOk_iff.1 hb
      have hd0 := daysOf_get (xs := xs) (by omega)
      obtain ⟨g, off, rfl, hg, hc⟩ := h.at (by omega)
      have hor : d < 0 ∨ (xs[0].size : Int) ≤ d := by
        rcases Int.lt_or_le d 0 with h1 | h1
        · exact .inl h1
        · exact .inr (by rcases Int.lt_or_le d (xs[0].size : Int) with h2 | h2
                         · exact absurd ⟨hb, h1, by omega⟩ hall
                         · exact h2)
      have HC := Lib.hid (hc 0 (by omega))
      have hs12 : xs[0].size ≤ 12 := by omega
      clear hall hb h hc hd0
      have h0 : 0 < xs.length := by omega
      have HG := Lib.hid hg
      generalize xs[0] = s0 at *
      by_cases hneg : d < 0
      · clear hor
        go_enter Try.func25, Try.ntmps25
        go_wp2_with (go_at_call 18; refine HR.out.mono ?_; rintro e w1 ⟨rfl, hb1⟩)
        go_ret
        exact ⟨ret_str HE.out.symm, hb1⟩
      · have hge : (s0.size : Int) ≤ d := by omega
        clear hor
        go_enter Try.func25, Try.ntmps25
        go_wp2_with fail
        refine HR.out.mono ?_
        rintro e w1 ⟨rfl, hb1⟩
        have c1 : w1.cell? ⟨g, off, none⟩ = some (.string s0) := (hb1.cell (p := ⟨g, off, none⟩) HG.out).trans HC.out
        go_wp2_with fail
        go_ret
        exact ⟨ret_str HE.out.symm, hb1⟩

theorem extract_one (s : ByteArray) (d : Nat) (h : d < s.size) : s.extract d (d + 1) = ⟨#[byteAt s d]⟩ := by
  refine bytes_ext' ?_
  have hl : d < s.data.toList.length := by rw [Array.length_toList]; exact h
  rw [ByteArray.data_extract, Array.toList_extract, List.extract_eq_take_drop, show d + 1 - d = 1 by omega, List.drop_eq_getElem_cons hl, List.take_succ_cons, List.take_zero]
  simp only [byteAt, List.getD, List.getElem?_eq_getElem hl, Option.getD_some]
theorem cut_one (s : ByteArray) (d : Nat) (h : d < s.size) (W : World) : (Instr.slice 9 (.string s) (some (.int .i64 (d : Int))) (some (.int .i64 ((d : Int) + 1))) none).run Try.prog W = .ok (.string (s.extract d (d + 1))) W := by
  have := run_slice_string (P := Try.prog) W 9 s .i64 .i64 (d : Int) ((d : Int) + 1) Try.underlying9 (by omega) (by omega) (by omega)
  rw [this]
  have e : ((d : Int) + 1).toNat = d + 1 := by omega
  rw [e, Int.toNat_natCast]
theorem arr_more (p : List UInt8) (b : UInt8) : (⟨p.toArray⟩ : ByteArray) ++ ⟨#[b]⟩ = ⟨(p ++ [b]).toArray⟩ := by
  refine bytes_ext' ?_
  rw [ByteArray.data_append, Array.toList_append]

set_option maxHeartbeats 3200000 in
set_option maxRecDepth 20000 in
theorem specDayOf_yes (v : Value) (xs : List ByteArray) (hwf : Short xs) (d : Nat) (w : World) (h : IsStrs w v xs) (hok : rosterOk xs = true) (hd : d < daysOf xs) :
    Calls Try.prog 26 #[v, .int .i64 (d : Int)] w fun e w' => e = .returned (.string (dayStr xs d)) ∧ Below w.heap.size w w' := by
  have HR := Lib.hid (fun W hI => specRosterOk_any v xs hwf W hI)
  rw [hok] at HR
  have H := Lib.hid h
  obtain ⟨hn1, hn4, hd12, hrows⟩ := rosterOk_iff.1 hok
  have HRW := Lib.hid hrows
  have hd0 := daysOf_get (xs := xs) (by omega)
  obtain ⟨a, cap, rfl, hcp, hmx⟩ := h.form
  obtain ⟨g, off, rfl, hg, hc⟩ := h.at (by omega)
  have HC := Lib.hid hc
  have hdle : d < xs[0].size := by omega
  have hszi : xs[0].size ≤ 12 := by omega
  have HG := Lib.hid hg
  have h0 : 0 < xs.length := by omega
  have HX0 : Hid (∀ k (hk : k < xs.length), xs[k].size = xs[0].size) := Lib.hid (fun k hk => by rw [(HRW.out _ (List.getElem_mem hk)).1, hd0])
  have HIN : Hid (∀ W, Calls Try.prog 57 #[.int .i64 (d : Int), .int .i64 0, .int .i64 ((xs[0].size : Int) - 1)] W fun e w' => e = .returned (.bool true) ∧ W = w') := by
    have : ∀ W, Calls Try.prog 57 #[.int .i64 (d : Int), .int .i64 0, .int .i64 ((xs[0].size : Int) - 1)] W fun e w' => e = .returned (.bool true) ∧ W = w' := fun W => by
      have := l1In_any (d : Int) 0 ((xs[0].size : Int) - 1) W
      rw [show (decide ((0 : Int) ≤ d) && decide ((d : Int) ≤ (xs[0].size : Int) - 1)) = true by simp; omega] at this
      exact this
    exact Lib.hid this
  clear hc h hwf hrows hd0 hd hd12 hok hg
  go_enter Try.func26, Try.ntmps26
  go_wp2_with fail
  go_loopw [5, 6] (fun ov iv wr => ∃ (k : Nat) (o : ByteArray), k ≤ xs.length ∧ iv = .int .i64 (k : Int) ∧ ov = .string o ∧ Hid (o = ⟨(dayTo xs d k).toArray⟩) ∧ o.size ≤ 4 ∧ o.size = k ∧ Below w.heap.size w wr) (fun _ iv _ => xs.length - (intOf iv).toNat)
  case atStart => exact ⟨0, ⟨#[]⟩, Nat.zero_le _, rfl, rfl, Lib.hid rfl, Nat.zero_le _, rfl, Below.refl _ _⟩
  case round =>
    obtain ⟨k, o, hk, rfl, rfl, HO, ho4, hok', hbel⟩ := hrel
    have HOK := Lib.hid hok'
    clear hok'
    have BB := Lib.hid hbel
    by_cases hlt : k < xs.length
    · have HRK := Lib.hid (HR.out wr (H.out.below BB.out))
      have ck := fun (W : World) (hb : Below wr.heap.size wr W) => ((BB.out.trans (hb.mono BB.out.size)).cell (p := ⟨g, off + k, none⟩) HG.out).trans (HC.out k hlt)
      have c0 := fun (W : World) (hb : Below wr.heap.size wr W) => ((BB.out.trans (hb.mono BB.out.size)).cell (p := ⟨g, off, none⟩) HG.out).trans (HC.out 0 h0)
      have CK := Lib.hid ck
      have C0 := Lib.hid c0
      have hsz := HX0.out k hlt
      have HS := Lib.hid (dayTo_succ xs d k hlt)
      have hlt2 : d < xs[k].size := by omega
      have HBY := Lib.hid (extract_one xs[k] d hlt2)
      have hone : (xs[k].extract d (d + 1)).size = 1 := by rw [HBY.out]; rfl
      have hlt3 : ((d : Int) + 1) ≤ (xs[k].size : Int) := by omega
      have hs12 : xs[k].size ≤ 12 := by omega
      have hcut := fun W => cut_one xs[k] d hlt2 W
      clear ck c0 hbel hsz
      generalize xs[0] = s0 at *
      generalize xs[k] = s at *
      go_wp2_with fail
      refine HRK.out.mono ?_
      rintro e w2 ⟨rfl, hb2⟩
      have ck := CK.out _ hb2
      have c0 := C0.out _ hb2
      have B2 := Lib.hid (BB.out.trans (hb2.mono BB.out.size))
      clear hb2
      go_wp2_with (go_at_call 57; refine (HIN.out _).mono ?_; rintro e w' ⟨rfl, rfl⟩)
      go_roundw
      case rel => exact ⟨k + 1, o ++ s.extract d (d + 1), by omega, by go_num, by first | rfl | go_num | simp, Lib.hid (by rw [HO.out, HBY.out, arr_more, HS.out]), by rw [ByteArray.size_append, hone]; have := HOK.out; omega, by rw [ByteArray.size_append, hone]; have := HOK.out; omega, B2.out⟩
      case measure => simp [intOf]; omega
    · obtain rfl : k = xs.length := by omega
      have HE : Hid (dayStr xs d = o) := by
        have : dayStr xs d = o := by rw [HO.out, dayTo_all]
        exact Lib.hid this
      go_wp2_with fail
      go_ret
      exact ⟨ret_str HE.out.symm, BB.out⟩

set_option maxHeartbeats 1600000 in
theorem specDayOf_any (v : Value) (xs : List ByteArray) (hwf : Short xs) (d : Int) (w : World) (h : IsStrs w v xs) :
    Calls Try.prog 26 #[v, .int .i64 d] w fun e w' => e = .returned (.string (dayOf xs d)) ∧ Below w.heap.size w w' := by
  by_cases hall : rosterOk xs = true ∧ 0 ≤ d ∧ d < daysOf xs
  · obtain ⟨n, rfl⟩ := Int.eq_ofNat_of_zero_le hall.2.1
    rw [dayOf_yes hall.1 (by have := hall.2.2; omega)]
    exact specDayOf_yes v xs hwf n w h hall.1 (by have := hall.2.2; omega)
  · have HE := Lib.hid (dayOf_no hall)
    have HR := Lib.hid (fun W hI => specRosterOk_any v xs hwf W hI)
    have H := Lib.hid h
    obtain ⟨a, cap, rfl, hcp, hmx⟩ := h.form
    by_cases h0 : xs.length = 0
    · clear hall
      go_enter Try.func26, Try.ntmps26
      go_wp2_with fail
      go_loopw [5, 6] (fun ov iv wr => iv = .int .i64 0 ∧ ov = .string ⟨#[]⟩ ∧ wr = w) (fun _ iv _ => 0)
      case atStart => exact ⟨rfl, rfl, rfl⟩
      case round =>
        obtain ⟨rfl, rfl, rfl⟩ := hrel
        go_wp2_with fail
        go_ret
        exact ⟨ret_str HE.out.symm, Below.refl _ _⟩
    · obtain ⟨g, off, rfl, hg, hc⟩ := h.at (by omega)
      have h1 : 0 < xs.length := by omega
      cases hb : rosterOk xs with
      | false =>
        rw [hb] at HR
        clear hall
        go_enter Try.func26, Try.ntmps26
        go_wp2_with fail
        go_loopw [5, 6] (fun ov iv wr => iv = .int .i64 0 ∧ ov = .string ⟨#[]⟩ ∧ wr = w) (fun _ iv _ => 0)
        case atStart => exact ⟨rfl, rfl, rfl⟩
        case round =>
          obtain ⟨rfl, rfl, rfl⟩ := hrel
          go_wp2_with fail
          refine (HR.out _ H.out).mono ?_
          rintro e w1 ⟨rfl, hb1⟩
          go_wp2_with fail
          go_ret
          exact ⟨ret_str HE.out.symm, hb1⟩
      | true =>
        rw [hb] at HR
        obtain ⟨hn1, hn4, hd12, -⟩ := rosterOk_iff.1 hb
        have hd0 := daysOf_get (xs := xs) (by omega)
        have hno : (decide ((0 : Int) ≤ d) && decide (d ≤ (xs[0].size : Int) - 1)) = false := by
          rw [Bool.and_eq_false_iff, decide_eq_false_iff_not, decide_eq_false_iff_not]
          by_cases h2 : 0 ≤ d
          · exact .inr (fun h3 => hall ⟨hb, h2, by omega⟩)
          · exact .inl h2
        have HIN : Hid (∀ W, Calls Try.prog 57 #[.int .i64 d, .int .i64 0, .int .i64 ((xs[0].size : Int) - 1)] W fun e w' => e = .returned (.bool false) ∧ W = w') := by
          have : ∀ W, Calls Try.prog 57 #[.int .i64 d, .int .i64 0, .int .i64 ((xs[0].size : Int) - 1)] W fun e w' => e = .returned (.bool false) ∧ W = w' := fun W => by
            have := l1In_any d 0 ((xs[0].size : Int) - 1) W
            rw [hno] at this
            exact this
          exact Lib.hid this
        have HC := Lib.hid (hc 0 (by omega))
        have hs12 : xs[0].size ≤ 12 := by omega
        clear hall hb h hc hd0 hno
        have HG := Lib.hid hg
        generalize xs[0] = s0 at *
        go_enter Try.func26, Try.ntmps26
        go_wp2_with fail
        go_loopw [5, 6] (fun ov iv wr => iv = .int .i64 0 ∧ ov = .string ⟨#[]⟩ ∧ wr = w) (fun _ iv _ => 0)
        case atStart => exact ⟨rfl, rfl, rfl⟩
        case round =>
          obtain ⟨rfl, rfl, rfl⟩ := hrel
          go_wp2_with fail
          refine (HR.out _ H.out).mono ?_
          rintro e w1 ⟨rfl, hb1⟩
          have c1 : w1.cell? ⟨g, off, none⟩ = some (.string s0) := (hb1.cell (p := ⟨g, off, none⟩) HG.out).trans HC.out
          go_wp2_with (go_at_call 57; refine (HIN.out _).mono ?_; rintro e w' ⟨rfl, rfl⟩)
          go_ret
          exact ⟨ret_str HE.out.symm, hb1⟩
end Go.Proofs.Ytlbblfbiiceofaa

namespace Go.Proofs.Ytlbblfbiiceofaa
open Go.RowKit

/-- the box of needs -/
structure NdBox (B : Nat) (l d : Int) (w : World) : Prop where
  c0 : w.cell? ⟨B, 0, none⟩ = some (.int .i64 l)
  c1 : w.cell? ⟨B, 1, none⟩ = some (.int .i64 d)
  lt : B < w.heap.size
theorem NdBox.new (w : World) (l d : Int) (t : TypeId) : NdBox w.heap.size l d (w.alloc (.cells #[.int .i64 l, .int .i64 d] t)) := ⟨World.cell?_alloc_new w _ _ 0, World.cell?_alloc_new w _ _ 1, by simp⟩
theorem NdBox.below {B : Nat} {l d : Int} {w w' : World} (h : NdBox B l d w) (hb : Below w.heap.size w w') : NdBox B l d w' :=
  ⟨(hb.cell (p := ⟨B, 0, none⟩) h.lt).trans h.c0, (hb.cell (p := ⟨B, 1, none⟩) h.lt).trans h.c1, Nat.lt_of_lt_of_le h.lt hb.size⟩

set_option maxHeartbeats 1600000 in
theorem specCovers_any (s : ByteArray) (l d : Int) (w : World) (hs : s.size ≤ maxLen) :
    Calls Try.prog 61 #[.string s, .agg #[.int .i64 l, .int .i64 d]] w fun e w' => e = .returned (.bool (covers s l d)) ∧ Below w.heap.size w w' := by
  have HA := Lib.hid (fun W => specCountOf_any s ⟨#[100]⟩ W hs)
  have HB := Lib.hid (fun W => specCountOf_any s ⟨#[110]⟩ W hs)
  have HE : Hid (covers s l d = (countOf s ⟨#[100]⟩ == l && countOf s ⟨#[110]⟩ == d)) := Lib.hid rfl
  generalize countOf s ⟨#[100]⟩ = a at HA HE
  generalize countOf s ⟨#[110]⟩ = b at HB HE
  have X0 := Lib.hid (NdBox.new w l d 29)
  have Q0 : Hid (Below w.heap.size w (w.alloc (.cells #[.int .i64 l, .int .i64 d] 29))) := Lib.hid ((Below.refl _ _).alloc (Nat.le_refl _) _)
  by_cases h1 : (a == l) = true
  · have hr : covers s l d = (b == d) := by rw [HE.out, h1, Bool.true_and]
    have HR := Lib.hid hr
    clear hr
    go_enter Try.func61, Try.ntmps61
    go_upto_region 1 with fail
    generalize (w.alloc (.cells #[.int .i64 l, .int .i64 d] 29)) = W0 at *
    have BD := Lib.hid ((Below.refl W0.heap.size W0).drew)
    have c0 := X0.out.c0; have c1 := X0.out.c1
    go_region_held3 (fun w' => w'.cell? ⟨w.heap.size, 0, none⟩ = some (.int .i64 l) ∧ w'.cell? ⟨w.heap.size, 1, none⟩ = some (.int .i64 d))
      (refine ⟨?_, ?_⟩ <;> go_simp)
      (first | (go_at_call 85; with_reducible refine Calls.mono (HA.out _) ?_; rintro e w1 ⟨rfl, hb1⟩; have B1 := Lib.hid (BD.out.trans (hb1.mono BD.out.size)); clear hb1; have x0 := (X0.out.below B1.out).c0; have x1 := (X0.out.below B1.out).c1) | (go_at_call 85; with_reducible refine Calls.mono (HB.out _) ?_; rintro e w2 ⟨rfl, hb2⟩; have B2 := Lib.hid (B1.out.trans (hb2.mono B1.out.size)); clear hb2; have y0 := (X0.out.below B2.out).c0; have y1 := (X0.out.below B2.out).c1))
    all_goals
      go_wp2_with fail
      go_ret
      exact ⟨ret_bool (by rw [HR.out]), Q0.out.trans (B2.out.mono Q0.out.size)⟩
  · have h1f : (a == l) = false := by simpa using h1
    have hr : covers s l d = false := by rw [HE.out, h1f, Bool.false_and]
    have HR := Lib.hid hr
    clear hr h1 HB
    go_enter Try.func61, Try.ntmps61
    go_upto_region 1 with fail
    generalize (w.alloc (.cells #[.int .i64 l, .int .i64 d] 29)) = W0 at *
    have BD := Lib.hid ((Below.refl W0.heap.size W0).drew)
    have c0 := X0.out.c0; have c1 := X0.out.c1
    first | (go_region_with (go_at_call 85; with_reducible refine Calls.mono (HA.out _) ?_; rintro e w1 ⟨rfl, hb1⟩; have B1 := Lib.hid (BD.out.trans (hb1.mono BD.out.size)); clear hb1; have x0 := (X0.out.below B1.out).c0; have x1 := (X0.out.below B1.out).c1)) | fail
    all_goals
      go_wp2_with fail
      go_ret
      exact ⟨ret_bool HR.out.symm, Q0.out.trans (B1.out.mono Q0.out.size)⟩

theorem coverOk_all {xs : List ByteArray} {l d : Int} (h1 : rosterOk xs = true) (h2 : needsOk l d = true) (h : coverTo xs l d (daysOf xs) = true) : coverOk xs l d = true := by rw [coverOk, h1, h2, h]; rfl

set_option maxHeartbeats 3200000 in
theorem specCoverOk_any (v : Value) (xs : List ByteArray) (hwf : Short xs) (l d : Int) (w : World) (h : IsStrs w v xs) :
    Calls Try.prog 29 #[v, .agg #[.int .i64 l, .int .i64 d]] w fun e w' => e = .returned (.bool (coverOk xs l d)) ∧ Below w.heap.size w w' := by
  have HR := Lib.hid (fun W hI => specRosterOk_any v xs hwf W hI)
  have HN := Lib.hid (fun W => specNeedsOk_any l d W)
  have HDY := Lib.hid (fun W hI k => specDayOf_any v xs hwf k W hI)
  have H := Lib.hid h
  obtain ⟨a, cap, rfl, hcp, hmx⟩ := h.form
  have X0 := Lib.hid (NdBox.new w l d 29)
  have Q0 : Hid (Below w.heap.size w (w.alloc (.cells #[.int .i64 l, .int .i64 d] 29))) := Lib.hid ((Below.refl _ _).alloc (Nat.le_refl _) _)
  cases hb : rosterOk xs with
  | false =>
    have HE := Lib.hid (coverOk_no1 (l := l) (d := d) hb)
    rw [hb] at HR
    go_enter Try.func29, Try.ntmps29
    go_wp2_with fail
    refine (HR.out _ (H.out.below Q0.out)).mono ?_
    rintro e w1 ⟨rfl, hb1⟩
    go_wp2_with fail
    go_ret
    exact ⟨ret_bool HE.out.symm, Q0.out.trans (hb1.mono Q0.out.size)⟩
  | true =>
    rw [hb] at HR
    cases hn : needsOk l d with
    | false =>
      have HE := Lib.hid (coverOk_no2 (xs := xs) hn)
      rw [hn] at HN
      go_enter Try.func29, Try.ntmps29
      go_wp2_with fail
      refine (HR.out _ (H.out.below Q0.out)).mono ?_
      rintro e w1 ⟨rfl, hb1⟩
      have x0 := (X0.out.below hb1).c0; have x1 := (X0.out.below hb1).c1
      have B1 := Lib.hid (Q0.out.trans (hb1.mono Q0.out.size))
      clear hb1
      go_wp2_with fail
      refine (HN.out _).mono ?_
      rintro e w2 ⟨rfl, hb2⟩
      go_wp2_with fail
      go_ret
      exact ⟨ret_bool HE.out.symm, B1.out.trans (hb2.mono B1.out.size)⟩
    | true =>
      rw [hn] at HN
      obtain ⟨hn1, hn4, hd12, -⟩ := rosterOk_iff.1 hb
      have hd0 := daysOf_get (xs := xs) (by omega)
      obtain ⟨g, off, rfl, hg, hc⟩ := h.at (by omega)
      have HC := Lib.hid (hc 0 (by omega))
      have HG := Lib.hid hg
      have HFA : Hid (∀ k, k < daysOf xs → covers (dayStr xs k) l d = false → coverOk xs l d = false) := Lib.hid (fun k hk h => coverOk_false hk h)
      have HTR : Hid (coverTo xs l d (daysOf xs) = true → coverOk xs l d = true) := Lib.hid (fun h => coverOk_all hb hn h)
      have HDS : Hid (∀ k : Nat, k < daysOf xs → dayOf xs (k : Int) = dayStr xs k) := Lib.hid (fun k hk => dayOf_yes hb hk)
      have HSM : Hid (∀ k : Nat, k < daysOf xs → (dayStr xs k).size ≤ maxLen) := Lib.hid (fun k _ => by rw [dayStr_size]; unfold maxLen; omega)
      have hs12 : xs[0].size ≤ 12 := by omega
      rw [hd0] at HFA HTR HDS HSM
      have h0 : 0 < xs.length := by omega
      clear hb hn h hc hd0 hd12 hg
      generalize xs[0] = s0 at *
      go_enter Try.func29, Try.ntmps29
      go_wp2_with fail
      refine (HR.out _ (H.out.below Q0.out)).mono ?_
      rintro e w1 ⟨rfl, hb1⟩
      have X1 := Lib.hid (X0.out.below hb1)
      have x0 := X1.out.c0; have x1 := X1.out.c1
      have B1 := Lib.hid (Q0.out.trans (hb1.mono Q0.out.size))
      clear hb1
      go_wp2_with fail
      refine (HN.out _).mono ?_
      rintro e w2 ⟨rfl, hb2⟩
      have X2 := Lib.hid (X1.out.below hb2)
      have B2 := Lib.hid (B1.out.trans (hb2.mono B1.out.size))
      clear hb2 x0 x1
      go_wp2_with fail
      go_loopw [5] (fun iv wr => ∃ k : Nat, k ≤ s0.size ∧ iv = .int .i64 (k : Int) ∧ Hid (coverTo xs l d k = true) ∧ Hid (Below w.heap.size w wr) ∧ Hid (NdBox w.heap.size l d wr)) (fun iv _ => s0.size - (intOf iv).toNat)
      case atStart => exact ⟨0, Nat.zero_le _, rfl, Lib.hid rfl, B2, X2⟩
      case round =>
        obtain ⟨k, hk, rfl, HCT, BB, XX⟩ := hrel
        have c0 : wr.cell? ⟨g, off, none⟩ = some (.string s0) := (BB.out.cell (p := ⟨g, off, none⟩) HG.out).trans HC.out
        by_cases hlt : k < s0.size
        · have HDK := Lib.hid (fun W hI => HDY.out W hI (k : Int))
          rw [HDS.out k hlt] at HDK
          have HCV := Lib.hid (fun W => specCovers_any (dayStr xs k) l d W (HSM.out k hlt))
          have HF := Lib.hid (HFA.out k hlt)
          have HST := Lib.hid (coverTo_succ xs l d k)
          generalize dayStr xs k = ds at *
          have HKF : ∀ b, covers ds l d = b → Hid (∀ W, Calls Try.prog 61 #[.string ds, .agg #[.int .i64 l, .int .i64 d]] W fun e w' => e = .returned (.bool b) ∧ Below W.heap.size W w') := fun b hb => Lib.hid (fun W => by have := HCV.out W; rwa [hb] at this)
          go_wp2_with fail
          have BD := Lib.hid ((Below.refl wr.heap.size wr).drew)
          have z0 := XX.out.c0; have z1 := XX.out.c1
          cases hcv : covers ds l d with
          | false =>
            have HCV2 := HKF _ hcv
            have HE := Lib.hid (HF.out hcv)
            clear HKF hcv
            go_region_with (first | (go_at_call 26; with_reducible refine Calls.mono (HDK.out _ (H.out.below (BB.out.trans (BD.out.mono BB.out.size)))) ?_; rintro e w3 ⟨rfl, hb3⟩; have B3 := Lib.hid (BD.out.trans (hb3.mono BD.out.size)); clear hb3; have y0 := (XX.out.below B3.out).c0; have y1 := (XX.out.below B3.out).c1) | (go_at_call 61; with_reducible refine Calls.mono (HCV2.out _) ?_; rintro e w4 ⟨rfl, hb4⟩; have B4 := Lib.hid (B3.out.trans (hb4.mono B3.out.size)); clear hb4))
            all_goals
              go_wp2_with fail
              go_ret
              exact ⟨ret_bool HE.out.symm, BB.out.trans (B4.out.mono BB.out.size)⟩
          | true =>
            have HCV2 := HKF _ hcv
            have HE : Hid (coverTo xs l d (k + 1) = true) := by
              have : coverTo xs l d (k + 1) = true := by rw [HST.out, HCT.out, hcv]; rfl
              exact Lib.hid this
            clear HKF hcv
            go_region_with (first | (go_at_call 26; with_reducible refine Calls.mono (HDK.out _ (H.out.below (BB.out.trans (BD.out.mono BB.out.size)))) ?_; rintro e w3 ⟨rfl, hb3⟩; have B3 := Lib.hid (BD.out.trans (hb3.mono BD.out.size)); clear hb3; have y0 := (XX.out.below B3.out).c0; have y1 := (XX.out.below B3.out).c1) | (go_at_call 61; with_reducible refine Calls.mono (HCV2.out _) ?_; rintro e w4 ⟨rfl, hb4⟩; have B4 := Lib.hid (B3.out.trans (hb4.mono B3.out.size)); clear hb4))
            all_goals
              go_wp2_with fail
              go_roundw
              case rel => exact ⟨k + 1, by omega, by go_num, HE, Lib.hid (BB.out.trans (B4.out.mono BB.out.size)), Lib.hid (XX.out.below B4.out)⟩
              case measure => simp [intOf]; omega
        · obtain rfl : k = s0.size := by omega
          have HE := Lib.hid (HTR.out HCT.out)
          go_wp2_with fail
          go_ret
          exact ⟨ret_bool HE.out.symm, BB.out⟩

theorem covers_parts {s : ByteArray} {l d a b : Int} (ha : countOf s ⟨#[100]⟩ = a) (hb : countOf s ⟨#[110]⟩ = b) : covers s l d = (a == l && b == d) := by rw [covers, ha, hb]

set_option maxHeartbeats 3200000 in
theorem implCoverOk_any (v : Value) (xs : List ByteArray) (hwf : Short xs) (l d : Int) (hl : (Lit.int .i64 l).wf = true) (hd : (Lit.int .i64 d).wf = true) (w : World) (h : IsStrs w v xs) :
    Calls Try.prog 28 #[v, .agg #[.int .i64 l, .int .i64 d]] w fun e w' => e = .returned (.bool (coverOk xs l d)) ∧ Below w.heap.size w w' := by
  have HR := Lib.hid (fun W hI => implRosterOk_any v xs hwf W hI)
  have HN := Lib.hid (fun W => implNeedsOk_any l d W hl hd)
  have HDY := Lib.hid (fun W hI k => implDayOf_any v xs hwf k W hI)
  have H := Lib.hid h
  obtain ⟨a, cap, rfl, hcp, hmx⟩ := h.form
  have X0 := Lib.hid (NdBox.new w l d 29)
  have Q0 : Hid (Below w.heap.size w (w.alloc (.cells #[.int .i64 l, .int .i64 d] 29))) := Lib.hid ((Below.refl _ _).alloc (Nat.le_refl _) _)
  clear hl hd
  cases hb : rosterOk xs with
  | false =>
    have HE := Lib.hid (coverOk_no1 (l := l) (d := d) hb)
    rw [hb] at HR
    go_enter Try.func28, Try.ntmps28
    go_wp2_with fail
    refine (HR.out _ (H.out.below Q0.out)).mono ?_
    rintro e w1 ⟨rfl, hb1⟩
    go_wp2_with fail
    go_ret
    exact ⟨ret_bool HE.out.symm, Q0.out.trans (hb1.mono Q0.out.size)⟩
  | true =>
    rw [hb] at HR
    cases hn : needsOk l d with
    | false =>
      have HE := Lib.hid (coverOk_no2 (xs := xs) hn)
      rw [hn] at HN
      go_enter Try.func28, Try.ntmps28
      go_wp2_with fail
      refine (HR.out _ (H.out.below Q0.out)).mono ?_
      rintro e w1 ⟨rfl, hb1⟩
      have x0 := (X0.out.below hb1).c0; have x1 := (X0.out.below hb1).c1
      have B1 := Lib.hid (Q0.out.trans (hb1.mono Q0.out.size))
      clear hb1
      go_wp2_with fail
      refine (HN.out _).mono ?_
      rintro e w2 ⟨rfl, hb2⟩
      go_wp2_with fail
      go_ret
      exact ⟨ret_bool HE.out.symm, B1.out.trans (hb2.mono B1.out.size)⟩
    | true =>
      rw [hn] at HN
      obtain ⟨hn1, hn4, hd12, -⟩ := rosterOk_iff.1 hb
      have hd0 := daysOf_get (xs := xs) (by omega)
      obtain ⟨g, off, rfl, hg, hc⟩ := h.at (by omega)
      have HC := Lib.hid (hc 0 (by omega))
      have HG := Lib.hid hg
      have HFA : Hid (∀ k, k < daysOf xs → covers (dayStr xs k) l d = false → coverOk xs l d = false) := Lib.hid (fun k hk h => coverOk_false hk h)
      have HTR : Hid (coverTo xs l d (daysOf xs) = true → coverOk xs l d = true) := Lib.hid (fun h => coverOk_all hb hn h)
      have HDS : Hid (∀ k : Nat, k < daysOf xs → dayOf xs (k : Int) = dayStr xs k) := Lib.hid (fun k hk => dayOf_yes hb hk)
      have HSM : Hid (∀ k : Nat, k < daysOf xs → (dayStr xs k).size ≤ maxLen) := Lib.hid (fun k _ => by rw [dayStr_size]; unfold maxLen; omega)
      have hs12 : xs[0].size ≤ 12 := by omega
      rw [hd0] at HFA HTR HDS HSM
      have h0 : 0 < xs.length := by omega
      clear hb hn h hc hd0 hd12 hg
      generalize xs[0] = s0 at *
      go_enter Try.func28, Try.ntmps28
      go_wp2_with fail
      refine (HR.out _ (H.out.below Q0.out)).mono ?_
      rintro e w1 ⟨rfl, hb1⟩
      have X1 := Lib.hid (X0.out.below hb1)
      have x0 := X1.out.c0; have x1 := X1.out.c1
      have B1 := Lib.hid (Q0.out.trans (hb1.mono Q0.out.size))
      clear hb1
      go_wp2_with fail
      refine (HN.out _).mono ?_
      rintro e w2 ⟨rfl, hb2⟩
      have X2 := Lib.hid (X1.out.below hb2)
      have B2 := Lib.hid (B1.out.trans (hb2.mono B1.out.size))
      have c2 : w2.cell? ⟨g, off, none⟩ = some (.string s0) := (B2.out.cell (p := ⟨g, off, none⟩) HG.out).trans HC.out
      clear hb2 x0 x1
      go_wp2_with fail
      go_loopw [5, 6, 19] (fun _ _ iv wr => ∃ k : Nat, k ≤ s0.size ∧ iv = .int .i64 (k : Int) ∧ Hid (coverTo xs l d k = true) ∧ Hid (Below w.heap.size w wr) ∧ Hid (NdBox w.heap.size l d wr)) (fun _ _ iv _ => s0.size - (intOf iv).toNat)
      case atStart => exact ⟨0, Nat.zero_le _, rfl, Lib.hid rfl, B2, X2⟩
      case round =>
        obtain ⟨k, hk, rfl, HCT, BB, XX⟩ := hrel
        by_cases hlt : k < s0.size
        · have HDK := Lib.hid (HDY.out wr (H.out.below BB.out) (k : Int))
          rw [HDS.out k hlt] at HDK
          have HA := Lib.hid (fun W => implCountOf_any (dayStr xs k) ⟨#[100]⟩ W (HSM.out k hlt) (by decide))
          have HB := Lib.hid (fun W => implCountOf_any (dayStr xs k) ⟨#[110]⟩ W (HSM.out k hlt) (by decide))
          have HF := Lib.hid (HFA.out k hlt)
          have HST := Lib.hid (coverTo_succ xs l d k)
          generalize dayStr xs k = ds at *
          have HCV := Lib.hid (fun a b (ha : countOf ds ⟨#[100]⟩ = a) (hb : countOf ds ⟨#[110]⟩ = b) => covers_parts (l := l) (d := d) ha hb)
          have HCV2 := Lib.hid (HCV.out _ _ rfl rfl)
          generalize countOf ds ⟨#[100]⟩ = p at HA HCV2
          generalize countOf ds ⟨#[110]⟩ = q at HB HCV2
          clear HCV
          go_wp2_with fail
          refine HDK.out.mono ?_
          rintro e w3 ⟨rfl, hb3⟩
          have B3 := Lib.hid (BB.out.trans (hb3.mono BB.out.size))
          have X3 := Lib.hid (XX.out.below hb3)
          clear hb3
          go_wp2_with fail
          have BD := Lib.hid ((Below.refl w3.heap.size w3).drew)
          have z0 := X3.out.c0; have z1 := X3.out.c1
          by_cases h1 : (p == l) = true
          · have h1' : (p != l) = false := by simpa using h1
            by_cases h2 : (q == d) = true
            · have h2' : (q != d) = false := by simpa using h2
              have HE : Hid (coverTo xs l d (k + 1) = true) := by
                have : coverTo xs l d (k + 1) = true := by rw [HST.out, HCT.out, HCV2.out, h1, h2]; rfl
                exact Lib.hid this
              clear h1 h2
              go_region_held3 (fun w' => w'.cell? ⟨w.heap.size, 0, none⟩ = some (.int .i64 l) ∧ w'.cell? ⟨w.heap.size, 1, none⟩ = some (.int .i64 d))
                (refine ⟨?_, ?_⟩ <;> go_simp)
                (first | (go_at_call 30; with_reducible refine Calls.mono (HA.out _) ?_; rintro e w4 ⟨rfl, hb4⟩; have B4 := Lib.hid (BD.out.trans (hb4.mono BD.out.size)); clear hb4; have x0 := (X3.out.below B4.out).c0; have x1 := (X3.out.below B4.out).c1) | (go_at_call 30; with_reducible refine Calls.mono (HB.out _) ?_; rintro e w5 ⟨rfl, hb5⟩; have B5 := Lib.hid (B4.out.trans (hb5.mono B4.out.size)); clear hb5; have y0 := (X3.out.below B5.out).c0; have y1 := (X3.out.below B5.out).c1))
              all_goals
                go_wp2_with fail
                go_roundw
                case rel => exact ⟨k + 1, by omega, by go_num, HE, Lib.hid (B3.out.trans (B5.out.mono B3.out.size)), Lib.hid (X3.out.below B5.out)⟩
                case measure => simp [intOf]; omega
            · have h2f : (q == d) = false := by simpa using h2
              have h2' : (q != d) = true := by simpa using h2
              have HE : Hid (coverOk xs l d = false) := by
                have : coverOk xs l d = false := HF.out (by rw [HCV2.out, h2f, Bool.and_false])
                exact Lib.hid this
              clear h1 h2 h2f
              go_region_held3 (fun w' => w'.cell? ⟨w.heap.size, 0, none⟩ = some (.int .i64 l) ∧ w'.cell? ⟨w.heap.size, 1, none⟩ = some (.int .i64 d))
                (refine ⟨?_, ?_⟩ <;> go_simp)
                (first | (go_at_call 30; with_reducible refine Calls.mono (HA.out _) ?_; rintro e w4 ⟨rfl, hb4⟩; have B4 := Lib.hid (BD.out.trans (hb4.mono BD.out.size)); clear hb4; have x0 := (X3.out.below B4.out).c0; have x1 := (X3.out.below B4.out).c1) | (go_at_call 30; with_reducible refine Calls.mono (HB.out _) ?_; rintro e w5 ⟨rfl, hb5⟩; have B5 := Lib.hid (B4.out.trans (hb5.mono B4.out.size)); clear hb5; have y0 := (X3.out.below B5.out).c0; have y1 := (X3.out.below B5.out).c1))
              all_goals
                go_wp2_with fail
                go_ret
                exact ⟨ret_bool HE.out.symm, B3.out.trans (B5.out.mono B3.out.size)⟩
          · have h1f : (p == l) = false := by simpa using h1
            have h1' : (p != l) = true := by simpa using h1
            have HE : Hid (coverOk xs l d = false) := by
              have : coverOk xs l d = false := HF.out (by rw [HCV2.out, h1f, Bool.false_and])
              exact Lib.hid this
            clear h1 HB
            first | (go_region_with (go_at_call 30; with_reducible refine Calls.mono (HA.out _) ?_; rintro e w4 ⟨rfl, hb4⟩; have B4 := Lib.hid (BD.out.trans (hb4.mono BD.out.size)); clear hb4; have x0 := (X3.out.below B4.out).c0; have x1 := (X3.out.below B4.out).c1)) | fail
            all_goals
              go_wp2_with fail
              go_ret
              exact ⟨ret_bool HE.out.symm, B3.out.trans (B4.out.mono B3.out.size)⟩
        · obtain rfl : k = s0.size := by omega
          have HE := Lib.hid (HTR.out HCT.out)
          go_wp2_with fail
          go_ret
          exact ⟨ret_bool HE.out.symm, BB.out⟩
end Go.Proofs.Ytlbblfbiiceofaa

namespace Go.Proofs.Ytlbblfbiiceofaa
open Go.RowKit

/-- whether all rows keep a term -/
def IsAll (ms : List Mk) (xs : List ByteArray) (b : Bool) : Prop :=
  (b = true ∧ rosterOk xs = true ∧ termOk ms = true ∧ ∀ s ∈ xs, IsKept ms s true) ∨ (b = false ∧ (rosterOk xs = false ∨ termOk ms = false ∨ ∃ s ∈ xs, IsKept ms s false))
theorem IsAll.one {ms : List Mk} {xs : List ByteArray} {b c : Bool} (h : IsAll ms xs b) (g : IsAll ms xs c) : b = c := by
  rcases h with ⟨rfl, h1, h2, h3⟩ | ⟨rfl, h⟩ <;> rcases g with ⟨rfl, g1, g2, g3⟩ | ⟨rfl, g⟩
  · rfl
  · rcases g with g | g | ⟨s, hs, g⟩
    · rw [h1] at g; cases g
    · rw [h2] at g; cases g
    · exact (h3 s hs).one g
  · rcases h with g | g | ⟨s, hs, g⟩
    · rw [g1] at g; cases g
    · rw [g2] at g; cases g
    · exact ((g3 s hs).one g).symm
  · rfl
theorem IsKept.term {ms : List Mk} {s : ByteArray} (h : IsKept ms s true) : termOk ms = true := by
  rcases h with ⟨h, _⟩ | ⟨_, h⟩
  · exact h
  · cases h
theorem maxl_lt {w : World} {M : Int} (h : w.cell? ⟨0, 0, none⟩ = some (.int .i64 M)) : 0 < w.heap.size := World.block_lt_of_cell? w ⟨0, 0, none⟩ h

theorem keepsAllClos_any (ms : List Mk) (hwf : ∀ m ∈ ms, m.wf) (v : Value) (s : ByteArray) (M : Int) (b : Nat) (W : World) (h : IsMarks W v ms) (hs : s.size ≤ maxLen) (hM : W.cell? ⟨0, 0, none⟩ = some (.int .i64 M)) (hc : W.cell? ⟨b, 0, none⟩ = some v) :
    Calls Try.prog 67 #[.string s, .pointer (some ⟨b, 0, none⟩)] W fun e w' => (∃ k, IsKept ms s k ∧ e = .returned (.bool (!k))) ∧ Below W.heap.size W w' := by
  have HK := Lib.hid (implKeepsTerm_any ms hwf v s M W h hs hM)
  obtain ⟨a, n, c, rfl⟩ := h.slice
  clear h hM
  go_enter Try.func67, Try.ntmps67
  go_wp2_with fail
  refine HK.out.mono ?_
  rintro e w1 ⟨⟨k, hk, rfl⟩, hb⟩
  have HKK := Lib.hid hk
  clear hk
  go_wp2_with fail
  go_ret
  exact ⟨⟨k, HKK.out, rfl⟩, hb⟩

/-- which row is the first that does not keep -/
def IdxPost (ms : List Mk) (xs : List ByteArray) (r : Int) : Prop := (r = -1 ∧ ∀ s ∈ xs, IsKept ms s true) ∨ (0 ≤ r ∧ r ≤ 100 ∧ ∃ s ∈ xs, IsKept ms s false)

set_option maxHeartbeats 1600000 in
theorem idxKeeps_any (ms : List Mk) (hwf : ∀ m ∈ ms, m.wf) (v u : Value) (xs : List ByteArray) (hsh : Short xs) (M : Int) (b : Nat) (w : World) (hm : IsMarks w v ms) (h : IsStrs w u xs) (hl : xs.length ≤ 100) (hb : b < w.heap.size) (hM : w.cell? ⟨0, 0, none⟩ = some (.int .i64 M)) (hc : w.cell? ⟨b, 0, none⟩ = some v) :
    Calls Try.prog 79 #[u, .func (.func 67) #[] #[.pointer (some ⟨b, 0, none⟩)]] w fun e w' => (∃ r, IdxPost ms xs r ∧ e = .returned (.int .i64 r)) ∧ Below w.heap.size w w' := by
  have HCL := Lib.hid (fun (W : World) (hB : Below w.heap.size w W) (s : ByteArray) (hs : s ∈ xs) => keepsAllClos_any ms hwf v s M b W (hm.below hB) (hsh s hs) ((hB.cell (p := ⟨0, 0, none⟩) (maxl_lt hM)).trans hM) ((hB.cell (p := ⟨b, 0, none⟩) hb).trans hc))
  have H := Lib.hid h
  obtain ⟨a, cap, rfl, hcp, hmx⟩ := h.form
  clear h hM hc hm hwf hsh
  go_enter Try.func79, Try.ntmps79
  go_wp2_with fail
  go_loopw [5, 8] (fun _ iv wr => ∃ k : Nat, k ≤ xs.length ∧ iv = .int .i64 (k : Int) ∧ Hid (∀ j (hj : j < xs.length), j < k → IsKept ms xs[j] true) ∧ Hid (Below w.heap.size w wr)) (fun _ iv _ => xs.length - (intOf iv).toNat)
  case atStart => exact ⟨0, Nat.zero_le _, rfl, Lib.hid (fun j _ hj => absurd hj (Nat.not_lt_zero _)), Lib.hid (Below.refl _ _)⟩
  case round =>
    obtain ⟨k, hk, rfl, HA, BB⟩ := hrel
    by_cases hlt : k < xs.length
    · obtain ⟨g, off, rfl, hg, hcl⟩ := H.out.at (by omega)
      have ck := (BB.out.cell (p := ⟨g, off + k, none⟩) hg).trans (hcl k hlt)
      have HC := Lib.hid (HCL.out wr BB.out xs[k] (List.getElem_mem hlt))
      have HY : Hid (IsKept ms xs[k] true → ∀ j (hj : j < xs.length), j < k + 1 → IsKept ms xs[j] true) := by
        have : IsKept ms xs[k] true → ∀ j (hj : j < xs.length), j < k + 1 → IsKept ms xs[j] true := fun h j hj hjk => by
          by_cases e : j = k
          · subst e; exact h
          · exact HA.out j hj (by omega)
        exact Lib.hid this
      have HN : Hid (IsKept ms xs[k] false → IdxPost ms xs (k : Int)) := Lib.hid (fun h => .inr ⟨by omega, by omega, xs[k], List.getElem_mem hlt, h⟩)
      clear hcl hg
      generalize xs[k] = s at *
      go_wp2_with fail
      refine HC.out.mono ?_
      rintro e w2 ⟨⟨kb, hkb, rfl⟩, hb2⟩
      have B2 := Lib.hid (BB.out.trans (hb2.mono BB.out.size))
      clear hb2
      cases kb with
      | true =>
        have HS := Lib.hid (HY.out hkb)
        clear hkb
        go_wp2_with fail
        go_roundw
        case rel => exact ⟨k + 1, by omega, by go_num, HS, B2⟩
        case measure => simp [intOf]; omega
      | false =>
        have HS := Lib.hid (HN.out hkb)
        clear hkb
        go_wp2_with fail
        go_ret
        exact ⟨⟨_, HS.out, rfl⟩, B2.out⟩
    · have HS : Hid (IdxPost ms xs (-1)) := by
        have : IdxPost ms xs (-1) := .inl ⟨rfl, fun s hs => by
          obtain ⟨j, hj, rfl⟩ := List.mem_iff_getElem.1 hs
          exact HA.out j hj (by omega)⟩
        exact Lib.hid this
      go_wp2_with fail
      go_ret
      exact ⟨⟨_, HS.out, rfl⟩, BB.out⟩

theorem contKeeps_any (ms : List Mk) (hwf : ∀ m ∈ ms, m.wf) (v u : Value) (xs : List ByteArray) (hsh : Short xs) (M : Int) (b : Nat) (w : World) (hm : IsMarks w v ms) (h : IsStrs w u xs) (hl : xs.length ≤ 100) (hb : b < w.heap.size) (hM : w.cell? ⟨0, 0, none⟩ = some (.int .i64 M)) (hc : w.cell? ⟨b, 0, none⟩ = some v) :
    Calls Try.prog 54 #[u, .func (.func 67) #[] #[.pointer (some ⟨b, 0, none⟩)]] w fun e w' => ((e = .returned (.bool false) ∧ ∀ s ∈ xs, IsKept ms s true) ∨ (e = .returned (.bool true) ∧ ∃ s ∈ xs, IsKept ms s false)) ∧ Below w.heap.size w w' := by
  have HI := Lib.hid (idxKeeps_any ms hwf v u xs hsh M b w hm h hl hb hM hc)
  obtain ⟨a, cap, rfl, hcp, hmx⟩ := h.form
  clear h hM hc hm hwf hsh
  go_enter Try.func54, Try.ntmps54
  go_wp2_with fail
  refine HI.out.mono ?_
  rintro e w2 ⟨⟨r, hr, rfl⟩, hb2⟩
  rcases hr with ⟨rfl, hr⟩ | ⟨hr0, hr1, hr⟩
  · have HR := Lib.hid hr
    clear hr
    go_wp2_with fail
    go_ret
    exact ⟨.inl ⟨rfl, HR.out⟩, hb2⟩
  · have HR := Lib.hid hr
    have hd : decide (0 ≤ r) = true := decide_eq_true hr0
    clear hr
    go_wp2_with fail
    go_ret
    exact ⟨.inr ⟨rfl, HR.out⟩, hb2⟩

set_option maxHeartbeats 1600000 in
theorem implKeepsAll_any (ms : List Mk) (hwf : ∀ m ∈ ms, m.wf) (v u : Value) (xs : List ByteArray) (hsh : Short xs) (M : Int) (w : World) (hm : IsMarks w v ms) (h : IsStrs w u xs) (hM : w.cell? ⟨0, 0, none⟩ = some (.int .i64 M)) :
    Calls Try.prog 33 #[v, u] w fun e w' => (∃ b, IsAll ms xs b ∧ e = .returned (.bool b)) ∧ Below w.heap.size w w' := by
  have HR := Lib.hid (fun W hI => implRosterOk_any u xs hsh W hI)
  have HM := Lib.hid hm
  have H := Lib.hid h
  obtain ⟨av, n, cv, rfl⟩ := hm.slice
  have Q0 := Lib.hid (show Below w.heap.size w (w.alloc (.cells #[.slice av n cv] 41)) from (Below.refl _ _).alloc (Nat.le_refl _) _)
  have hc0 : (w.alloc (.cells #[.slice av n cv] 41)).cell? ⟨w.heap.size, 0, none⟩ = some (.slice av n cv) := World.cell?_alloc_new w _ _ 0
  have HC := Lib.hid (fun (W : World) (hb : Below w.heap.size w W) (hl : xs.length ≤ 100) (hlt : w.heap.size < W.heap.size) (hc : W.cell? ⟨w.heap.size, 0, none⟩ = some (.slice av n cv)) => contKeeps_any ms hwf (.slice av n cv) u xs hsh M w.heap.size W (hm.below hb) (h.below hb) hl hlt ((hb.cell (p := ⟨0, 0, none⟩) (maxl_lt hM)).trans hM) hc)
  obtain ⟨a, cap, rfl, hcp, hmx⟩ := h.form
  have HC0 := Lib.hid hc0
  clear h hm hM hc0 hwf
  cases hr : rosterOk xs with
  | false =>
    rw [hr] at HR
    go_enter Try.func33, Try.ntmps33
    go_wp2_with fail
    refine (HR.out _ (H.out.below Q0.out)).mono ?_
    rintro e w2 ⟨rfl, hb2⟩
    go_wp2_with fail
    go_ret
    exact ⟨⟨false, .inr ⟨rfl, .inl hr⟩, rfl⟩, Q0.out.trans (hb2.mono Q0.out.size)⟩
  | true =>
    rw [hr] at HR
    have h4 := (rosterOk_iff.1 hr).2.1
    have h1 := (rosterOk_iff.1 hr).1
    have HRR := Lib.hid hr
    have HSZ := Lib.hid (show w.heap.size < (w.alloc (.cells #[.slice av n cv] 41)).heap.size by simp)
    clear hr
    go_enter Try.func33, Try.ntmps33
    go_wp2_with fail
    refine (HR.out _ (H.out.below Q0.out)).mono ?_
    rintro e w2 ⟨rfl, hb2⟩
    have hcc := HC.out w2 (Q0.out.trans (hb2.mono Q0.out.size)) (by omega) (Nat.lt_of_lt_of_le HSZ.out hb2.size) ((hb2.cell (p := ⟨w.heap.size, 0, none⟩) HSZ.out).trans HC0.out)
    have HCC := Lib.hid hcc
    have B2 := Lib.hid (Q0.out.trans (hb2.mono Q0.out.size))
    clear hcc hb2
    go_wp2_with fail
    refine HCC.out.mono ?_
    rintro e w3 ⟨hh, hb3⟩
    have B3 := Lib.hid (B2.out.trans (hb3.mono B2.out.size))
    clear hb3
    rcases hh with ⟨rfl, hh⟩ | ⟨rfl, hh⟩
    · have HX : Hid (IsAll ms xs true) := by
        have : IsAll ms xs true := .inl ⟨rfl, HRR.out, (hh xs[0] (List.getElem_mem (by omega))).term, hh⟩
        exact Lib.hid this
      clear hh
      go_wp2_with fail
      go_ret
      exact ⟨⟨true, HX.out, rfl⟩, B3.out⟩
    · have HX : Hid (IsAll ms xs false) := by
        have : IsAll ms xs false := .inr ⟨rfl, .inr (.inr hh)⟩
        exact Lib.hid this
      clear hh
      go_wp2_with fail
      go_ret
      exact ⟨⟨false, HX.out, rfl⟩, B3.out⟩

set_option maxHeartbeats 1600000 in
theorem specKeepsAll_any (ms : List Mk) (v u : Value) (xs : List ByteArray) (hsh : Short xs) (w : World) (hm : IsMarks w v ms) (hml : ms.length ≤ 1048576) (h : IsStrs w u xs) :
    Calls Try.prog 34 #[v, u] w fun e w' => (∃ b, IsAll ms xs b ∧ e = .returned (.bool b)) ∧ Below w.heap.size w w' := by
  have HR := Lib.hid (fun W hI => specRosterOk_any u xs hsh W hI)
  have HT := Lib.hid (fun W (hI : IsMarks W v ms) => specTermOk_any ms v W hI hml)
  have HK := Lib.hid (fun (W : World) (hI : IsMarks W v ms) (s : ByteArray) (hs : s ∈ xs) => specKeepsTerm_any ms v s W hI hml (hsh s hs))
  have HM := Lib.hid hm
  have H := Lib.hid h
  obtain ⟨av, n, cv, rfl⟩ := hm.slice
  obtain ⟨a, cap, rfl, hcp, hmx⟩ := h.form
  clear h hm hsh
  go_enter Try.func34, Try.ntmps34
  go_wp2_with fail
  go_loopw [5] (fun iv wr => ∃ k : Nat, k ≤ xs.length ∧ iv = .int .i64 (k : Int) ∧ Hid (∀ j (hj : j < xs.length), j < k → IsKept ms xs[j] true) ∧ Hid (Below w.heap.size w wr)) (fun iv _ => xs.length - (intOf iv).toNat)
  case atStart => exact ⟨0, Nat.zero_le _, rfl, Lib.hid (fun j _ hj => absurd hj (Nat.not_lt_zero _)), Lib.hid (Below.refl _ _)⟩
  case round =>
    obtain ⟨k, hk, rfl, HA, BB⟩ := hrel
    by_cases hlt : k < xs.length
    · obtain ⟨g, off, rfl, hg, hcl⟩ := H.out.at (by omega)
      have ck := (BB.out.cell (p := ⟨g, off + k, none⟩) hg).trans (hcl k hlt)
      have HC := Lib.hid (HK.out wr (HM.out.below BB.out) xs[k] (List.getElem_mem hlt))
      have HY : Hid (IsKept ms xs[k] true → ∀ j (hj : j < xs.length), j < k + 1 → IsKept ms xs[j] true) := by
        have : IsKept ms xs[k] true → ∀ j (hj : j < xs.length), j < k + 1 → IsKept ms xs[j] true := fun h j hj hjk => by
          by_cases e : j = k
          · subst e; exact h
          · exact HA.out j hj (by omega)
        exact Lib.hid this
      have HN : Hid (IsKept ms xs[k] false → IsAll ms xs false) := Lib.hid (fun h => .inr ⟨rfl, .inr (.inr ⟨xs[k], List.getElem_mem hlt, h⟩)⟩)
      clear hcl hg
      generalize xs[k] = s at *
      go_wp2_with fail
      refine HC.out.mono ?_
      rintro e w2 ⟨⟨kb, hkb, rfl⟩, hb2⟩
      have B2 := Lib.hid (BB.out.trans (hb2.mono BB.out.size))
      clear hb2
      cases kb with
      | true =>
        have HS := Lib.hid (HY.out hkb)
        clear hkb
        go_wp2_with fail
        go_roundw
        case rel => exact ⟨k + 1, by omega, by go_num, HS, B2⟩
        case measure => simp [intOf]; omega
      | false =>
        have HS := Lib.hid (HN.out hkb)
        clear hkb
        go_wp2_with fail
        go_ret
        exact ⟨⟨_, HS.out, rfl⟩, B2.out⟩
    · have HS : Hid (∀ s ∈ xs, IsKept ms s true) := by
        have : ∀ s ∈ xs, IsKept ms s true := fun s hs => by
          obtain ⟨j, hj, rfl⟩ := List.mem_iff_getElem.1 hs
          exact HA.out j hj (by omega)
        exact Lib.hid this
      cases hr : rosterOk xs with
      | false =>
        rw [hr] at HR
        go_wp2_with fail
        refine (HR.out _ (H.out.below BB.out)).mono ?_
        rintro e w2 ⟨rfl, hb2⟩
        go_wp2_with fail
        go_ret
        exact ⟨⟨false, .inr ⟨rfl, .inl hr⟩, rfl⟩, BB.out.trans (hb2.mono BB.out.size)⟩
      | true =>
        rw [hr] at HR
        have HRR := Lib.hid hr
        clear hr
        go_wp2_with fail
        refine (HR.out _ (H.out.below BB.out)).mono ?_
        rintro e w2 ⟨rfl, hb2⟩
        have B2 := Lib.hid (BB.out.trans (hb2.mono BB.out.size))
        clear hb2
        go_wp2_with fail
        refine (HT.out _ (HM.out.below B2.out)).mono ?_
        rintro e w3 ⟨rfl, hb3⟩
        have B3 := Lib.hid (B2.out.trans (hb3.mono B2.out.size))
        clear hb3
        have HX : Hid (IsAll ms xs (termOk ms)) := by
          have : IsAll ms xs (termOk ms) := by
            cases ht : termOk ms with
            | true => exact .inl ⟨rfl, HRR.out, ht, HS.out⟩
            | false => exact .inr ⟨rfl, .inr (.inl ht)⟩
          exact Lib.hid this
        generalize termOk ms = tb at *
        go_wp2_with fail
        go_ret
        exact ⟨⟨tb, HX.out, rfl⟩, B3.out⟩

set_option maxHeartbeats 1600000 in
theorem specRightOk_any (ms : List Mk) (v u : Value) (xs : List ByteArray) (hsh : Short xs) (l d : Int) (w : World) (hm : IsMarks w v ms) (hml : ms.length ≤ 1048576) (h : IsStrs w u xs) :
    Calls Try.prog 39 #[v, u, .agg #[.int .i64 l, .int .i64 d]] w fun e w' => (∃ b, IsAll ms xs b ∧ e = .returned (.bool (b && coverOk xs l d))) ∧ Below w.heap.size w w' := by
  have HK := Lib.hid (fun W (hI : IsMarks W v ms) hJ => specKeepsAll_any ms v u xs hsh W hI hml hJ)
  have HC := Lib.hid (fun W hJ => specCoverOk_any u xs hsh l d W hJ)
  have HM := Lib.hid hm
  have H := Lib.hid h
  have X0 := Lib.hid (NdBox.new w l d 29)
  have Q0 := Lib.hid (show Below w.heap.size w (w.alloc (.cells #[.int .i64 l, .int .i64 d] 29)) from (Below.refl _ _).alloc (Nat.le_refl _) _)
  obtain ⟨av, n, cv, rfl⟩ := hm.slice
  obtain ⟨a, cap, rfl, hcp, hmx⟩ := h.form
  clear h hm hsh
  go_enter Try.func39, Try.ntmps39
  go_wp2_with fail
  refine (HK.out _ (HM.out.below Q0.out) (H.out.below Q0.out)).mono ?_
  rintro e w2 ⟨⟨b, hb, rfl⟩, hb2⟩
  have HB := Lib.hid hb
  have X2 := Lib.hid (X0.out.below hb2)
  have B2 := Lib.hid (Q0.out.trans (hb2.mono Q0.out.size))
  clear hb hb2
  cases b with
  | false =>
    go_wp2_with fail
    go_ret
    exact ⟨⟨false, HB.out, rfl⟩, B2.out⟩
  | true =>
    have c0 := X2.out.c0
    have c1 := X2.out.c1
    go_wp2_with fail
    refine (HC.out _ (H.out.below B2.out)).mono ?_
    rintro e w3 ⟨rfl, hb3⟩
    have B3 := Lib.hid (B2.out.trans (hb3.mono B2.out.size))
    clear hb3 c0 c1
    go_wp2_with fail
    go_ret
    exact ⟨⟨true, HB.out, by simp⟩, B3.out⟩

set_option maxHeartbeats 1600000 in
theorem implRightOk_any (ms : List Mk) (hwf : ∀ m ∈ ms, m.wf) (v u : Value) (xs : List ByteArray) (hsh : Short xs) (l d : Int) (hl : (Lit.int .i64 l).wf = true) (hd : (Lit.int .i64 d).wf = true) (M : Int) (w : World) (hm : IsMarks w v ms) (h : IsStrs w u xs) (hM : w.cell? ⟨0, 0, none⟩ = some (.int .i64 M)) :
    Calls Try.prog 38 #[v, u, .agg #[.int .i64 l, .int .i64 d]] w fun e w' => (∃ b, IsAll ms xs b ∧ e = .returned (.bool (b && coverOk xs l d))) ∧ Below w.heap.size w w' := by
  have HK := Lib.hid (fun W (hI : IsMarks W v ms) hJ hMM => implKeepsAll_any ms hwf v u xs hsh M W hI hJ hMM)
  have HC := Lib.hid (fun W hJ => implCoverOk_any u xs hsh l d hl hd W hJ)
  have HM := Lib.hid hm
  have H := Lib.hid h
  have X0 := Lib.hid (NdBox.new w l d 29)
  have Q0 := Lib.hid (show Below w.heap.size w (w.alloc (.cells #[.int .i64 l, .int .i64 d] 29)) from (Below.refl _ _).alloc (Nat.le_refl _) _)
  have HMX := Lib.hid ((Q0.out.cell (p := ⟨0, 0, none⟩) (maxl_lt hM)).trans hM)
  obtain ⟨av, n, cv, rfl⟩ := hm.slice
  obtain ⟨a, cap, rfl, hcp, hmx⟩ := h.form
  clear h hm hsh hM hwf
  go_enter Try.func38, Try.ntmps38
  go_wp2_with fail
  refine (HK.out _ (HM.out.below Q0.out) (H.out.below Q0.out) HMX.out).mono ?_
  rintro e w2 ⟨⟨b, hb, rfl⟩, hb2⟩
  have HB := Lib.hid hb
  have X2 := Lib.hid (X0.out.below hb2)
  have B2 := Lib.hid (Q0.out.trans (hb2.mono Q0.out.size))
  clear hb hb2
  cases b with
  | false =>
    go_wp2_with fail
    go_ret
    exact ⟨⟨false, HB.out, rfl⟩, B2.out⟩
  | true =>
    have c0 := X2.out.c0
    have c1 := X2.out.c1
    go_wp2_with fail
    refine (HC.out _ (H.out.below B2.out)).mono ?_
    rintro e w3 ⟨rfl, hb3⟩
    have B3 := Lib.hid (B2.out.trans (hb3.mono B2.out.size))
    clear hb3 c0 c1
    go_wp2_with fail
    go_ret
    exact ⟨⟨true, HB.out, by simp⟩, B3.out⟩
end Go.Proofs.Ytlbblfbiiceofaa

namespace Go.Proofs.Ytlbblfbiiceofaa
open Go.RowKit

theorem eqStringS_sameK (u v : Value) (xs : List ByteArray) (w : World) (hu : IsStrs w u xs) (hv : IsStrs w v xs) :
    Calls Try.prog 45 #[u, v] w fun e w' => e = .returned (.bool true) ∧ Below w.heap.size w w' :=
  (eqStringS_any u v xs xs w hu hv).mono fun _ _ ⟨h, g⟩ => ⟨by rw [h, decide_eq_true (rfl : xs = xs)], g⟩
theorem toNeedsK_any (l d : Int) (w : World) : Calls Try.prog 46 #[.agg #[.int .i64 l, .int .i64 d]] w fun e w' => e = .returned (.agg #[.int .i64 l, .int .i64 d]) ∧ Below w.heap.size w w' := by
  go_enter Try.func46, Try.ntmps46
  go_wp2_with fail
  refine bodyPost_ret (v := .agg #[.int .i64 l, .int .i64 d]) ?_ rfl ⟨rfl, ?_⟩
  · simp [results, Try.results46, go_sem]
  · exact (((Below.refl _ _).alloc (Nat.le_refl _) _).alloc (by simp) _).alloc (by simp; omega) _

set_option maxHeartbeats 3200000 in
theorem exactKeepsAll_walk {w : World} (v : Value) (ms : List Mk) (h : IsMarks w v ms) (hwf : ∀ m ∈ ms, m.wf) (u0 : Value) (xs : List ByteArray) (hx : IsStrs w u0 xs) (hsh : Short xs) (hglob : ∃ m, w.cell? ⟨0, 0, none⟩ = some (.int .i64 m)) :
    Calls Try.prog 14 #[v, u0] w fun e w' => e = .returned (.bool true) ∧ Below w.heap.size w w' := by
  have HM := Lib.hid h
  have HX := Lib.hid hx
  have HSH := Lib.hid hsh
  obtain ⟨M, hM⟩ := hglob
  have HG := Lib.hid (fun W (hb : Below w.heap.size w W) => (hb.cell (p := ⟨0, 0, none⟩) (maxl_lt hM)).trans hM)
  have HSP : Hid (ms.length ≤ 1048576 → ∀ (W : World) (u z : Value), IsMarks W u ms → IsStrs W z xs → Calls Try.prog 34 #[u, z] W fun e w' => (∃ b, IsAll ms xs b ∧ e = .returned (.bool b)) ∧ Below W.heap.size W w') := Lib.hid (fun hlm W u z hI hJ => specKeepsAll_any ms u z xs HSH.out W hI hlm hJ)
  have HIM : Hid (∀ (W : World) (u z : Value), IsMarks W u ms → IsStrs W z xs → W.cell? ⟨0, 0, none⟩ = some (.int .i64 M) → Calls Try.prog 33 #[u, z] W fun e w' => (∃ b, IsAll ms xs b ∧ e = .returned (.bool b)) ∧ Below W.heap.size W w') := Lib.hid (fun W u z hI hJ hMM => implKeepsAll_any ms hwf u z xs HSH.out M W hI hJ hMM)
  have HNE : Hid (∀ b : Bool, (b != b) = false) := Lib.hid (fun b => by cases b <;> rfl)
  obtain ⟨a, n, cap, rfl⟩ := h.slice
  obtain ⟨ax, cx, rfl, hcx, hmx⟩ := hx.form
  clear hM h hx hsh
  have Q0 := Lib.hid (Below.refl w.heap.size w)
  go_enter Try.func14, Try.ntmps14
  go_wp2_with fail
  refine (szMarkS_any ms hwf _ _ (HM.out.below Q0.out) 1048576 (by omega) (by omega)).mono ?_
  rintro e w1 ⟨⟨r1, rfl, hr10, hr11, hr12⟩, hb⟩
  have Q1 := Lib.hid (Q0.out.trans (hb.mono Q0.out.size))
  clear hb
  by_cases hrr1 : r1 < 0
  · go_wp2_with fail
    go_ret
    exact ⟨rfl, Q1.out⟩
  have hml := hr12 (by omega)
  go_wp2_with fail
  refine (szStringS_any xs HSH.out _ _ (HX.out.below Q1.out) r1 (by omega) (by omega)).mono ?_
  rintro e w2 ⟨⟨r2, rfl, hr20, hr21, hr22⟩, hb⟩
  have Q2 := Lib.hid (Q1.out.trans (hb.mono Q1.out.size))
  clear hb
  by_cases hrr2 : r2 < 0
  · go_wp2_with fail
    go_ret
    exact ⟨rfl, Q2.out⟩
  have hxl := hr22 (by omega)
  have HSQ := Lib.hid (HSP.out hml)
  go_wp2_with fail
  refine (toMarkS_any _ ms _ (HM.out.below Q2.out) hml).mono ?_
  rintro e w3 ⟨vA, rfl, ho, hb⟩
  have Q3 := Lib.hid (Q2.out.trans (hb.mono Q2.out.size))
  have MA := Lib.hid (IsMarks.of_owns ho)
  obtain ⟨aA, nA, cA, rfl⟩ := (IsMarks.of_owns ho).slice
  clear ho
  clear hb
  go_wp2_with fail
  refine (toStringS_any _ xs _ (HX.out.below Q3.out) hxl).mono ?_
  rintro e w4 ⟨vB, rfl, ho, hb⟩
  have Q4 := Lib.hid (Q3.out.trans (hb.mono Q3.out.size))
  have SB := Lib.hid (IsStrs.of_owns ho)
  obtain ⟨aB, cB, rfl, -, -⟩ := (IsStrs.of_owns ho).form
  clear ho
  have MB := Lib.hid (MA.out.below hb)
  clear hb
  go_wp2_with fail
  refine (HSQ.out _ _ _ MB.out SB.out).mono ?_
  rintro e w5 ⟨⟨b1, hb1, rfl⟩, hb⟩
  have Q5 := Lib.hid (Q4.out.trans (hb.mono Q4.out.size))
  have HB1 := Lib.hid hb1
  clear hb1
  clear hb
  go_wp2_with fail
  refine (toMarkS_any _ ms _ (HM.out.below Q5.out) hml).mono ?_
  rintro e w6 ⟨vP, rfl, ho, hb⟩
  have Q6 := Lib.hid (Q5.out.trans (hb.mono Q5.out.size))
  have MP := Lib.hid (IsMarks.of_owns ho)
  obtain ⟨aP, nP, cP, rfl⟩ := (IsMarks.of_owns ho).slice
  clear ho
  clear hb
  go_wp2_with fail
  refine (toStringS_any _ xs _ (HX.out.below Q6.out) hxl).mono ?_
  rintro e w7 ⟨vQ, rfl, ho, hb⟩
  have Q7 := Lib.hid (Q6.out.trans (hb.mono Q6.out.size))
  have SQ := Lib.hid (IsStrs.of_owns ho)
  obtain ⟨aQ, cQ, rfl, -, -⟩ := (IsStrs.of_owns ho).form
  clear ho
  have MQ := Lib.hid (MP.out.below hb)
  clear hb
  go_wp2_with fail
  refine (HIM.out _ _ _ MQ.out SQ.out (HG.out _ Q7.out)).mono ?_
  rintro e w8 ⟨⟨b2, hb2, rfl⟩, hb⟩
  have Q8 := Lib.hid (Q7.out.trans (hb.mono Q7.out.size))
  obtain rfl := hb2.one HB1.out
  have ME := Lib.hid (MQ.out.below hb)
  have SE := Lib.hid (SQ.out.below hb)
  clear hb2 HB1
  have hnb := HNE.out b2
  clear hb
  go_wp2_with fail
  refine (toMarkS_any _ ms _ (HM.out.below Q8.out) hml).mono ?_
  rintro e w9 ⟨vF, rfl, ho, hb⟩
  have Q9 := Lib.hid (Q8.out.trans (hb.mono Q8.out.size))
  have MF := Lib.hid (IsMarks.of_owns ho)
  obtain ⟨aF, nF, cF, rfl⟩ := (IsMarks.of_owns ho).slice
  clear ho
  have MG := Lib.hid (ME.out.below hb)
  have SG := Lib.hid (SE.out.below hb)
  clear hb
  go_wp2_with fail
  refine (eqMarkS_same ms _ _ _ MG.out MF.out).mono ?_
  rintro e w10 ⟨rfl, hb⟩
  have Q10 := Lib.hid (Q9.out.trans (hb.mono Q9.out.size))
  have SH := Lib.hid (SG.out.below hb)
  clear hb
  go_wp2_with fail
  refine (toStringS_any _ xs _ (HX.out.below Q10.out) hxl).mono ?_
  rintro e w11 ⟨vJ, rfl, ho, hb⟩
  have Q11 := Lib.hid (Q10.out.trans (hb.mono Q10.out.size))
  have SJ := Lib.hid (IsStrs.of_owns ho)
  obtain ⟨aJ, cJ, rfl, -, -⟩ := (IsStrs.of_owns ho).form
  clear ho
  have SI := Lib.hid (SH.out.below hb)
  clear hb
  go_wp2_with fail
  refine (eqStringS_sameK _ _ xs _ SI.out SJ.out).mono ?_
  rintro e w12 ⟨rfl, hb⟩
  have Q12 := Lib.hid (Q11.out.trans (hb.mono Q11.out.size))
  clear hb
  go_wp2_with fail
  go_ret
  exact ⟨rfl, Q12.out⟩

set_option maxHeartbeats 3200000 in
theorem exactRightOk_walk {w : World} (v : Value) (ms : List Mk) (h : IsMarks w v ms) (hwf : ∀ m ∈ ms, m.wf) (u0 : Value) (xs : List ByteArray) (hx : IsStrs w u0 xs) (hsh : Short xs) (l : Int) (hl : (Lit.int .i64 l).wf = true) (d : Int) (hd : (Lit.int .i64 d).wf = true) (hglob : ∃ m, w.cell? ⟨0, 0, none⟩ = some (.int .i64 m)) :
    Calls Try.prog 15 #[v, u0, .agg #[.int .i64 l, .int .i64 d]] w fun e w' => e = .returned (.bool true) ∧ Below w.heap.size w w' := by
  have HM := Lib.hid h
  have HX := Lib.hid hx
  have HSH := Lib.hid hsh
  obtain ⟨M, hM⟩ := hglob
  have HG := Lib.hid (fun W (hb : Below w.heap.size w W) => (hb.cell (p := ⟨0, 0, none⟩) (maxl_lt hM)).trans hM)
  have HSP : Hid (ms.length ≤ 1048576 → ∀ (W : World) (u z : Value), IsMarks W u ms → IsStrs W z xs → Calls Try.prog 39 #[u, z, .agg #[.int .i64 l, .int .i64 d]] W fun e w' => (∃ b, IsAll ms xs b ∧ e = .returned (.bool (b && coverOk xs l d))) ∧ Below W.heap.size W w') := Lib.hid (fun hlm W u z hI hJ => specRightOk_any ms u z xs HSH.out l d W hI hlm hJ)
  have HIM : Hid (∀ (W : World) (u z : Value), IsMarks W u ms → IsStrs W z xs → W.cell? ⟨0, 0, none⟩ = some (.int .i64 M) → Calls Try.prog 38 #[u, z, .agg #[.int .i64 l, .int .i64 d]] W fun e w' => (∃ b, IsAll ms xs b ∧ e = .returned (.bool (b && coverOk xs l d))) ∧ Below W.heap.size W w') := Lib.hid (fun W u z hI hJ hMM => implRightOk_any ms hwf u z xs HSH.out l d hl hd M W hI hJ hMM)
  have HNE : Hid (∀ b : Bool, (b != b) = false) := Lib.hid (fun b => by cases b <;> rfl)
  obtain ⟨a, n, cap, rfl⟩ := h.slice
  obtain ⟨ax, cx, rfl, hcx, hmx⟩ := hx.form
  clear hM h hx hsh
  generalize coverOk xs l d = cb at HSP HIM
  have X0 := Lib.hid (NdBox.new w l d 55)
  have Q0 := Lib.hid (show Below w.heap.size w (w.alloc (.cells #[.int .i64 l, .int .i64 d] 55)) from (Below.refl _ _).alloc (Nat.le_refl _) _)
  go_enter Try.func15, Try.ntmps15
  have c0 := X0.out.c0
  have c1 := X0.out.c1
  go_wp2_with fail
  clear c0 c1
  refine (szMarkS_any ms hwf _ _ (HM.out.below Q0.out) 1048576 (by omega) (by omega)).mono ?_
  rintro e w1 ⟨⟨r1, rfl, hr10, hr11, hr12⟩, hb⟩
  have Q1 := Lib.hid (Q0.out.trans (hb.mono Q0.out.size))
  have X1 := Lib.hid (X0.out.below hb)
  clear hb
  by_cases hrr1 : r1 < 0
  · go_wp2_with fail
    go_ret
    exact ⟨rfl, Q1.out⟩
  have hml := hr12 (by omega)
  have c0 := X1.out.c0
  have c1 := X1.out.c1
  go_wp2_with fail
  clear c0 c1
  refine (szStringS_any xs HSH.out _ _ (HX.out.below Q1.out) r1 (by omega) (by omega)).mono ?_
  rintro e w2 ⟨⟨r2, rfl, hr20, hr21, hr22⟩, hb⟩
  have Q2 := Lib.hid (Q1.out.trans (hb.mono Q1.out.size))
  have X2 := Lib.hid (X1.out.below hb)
  clear hb
  by_cases hrr2 : r2 < 0
  · go_wp2_with fail
    go_ret
    exact ⟨rfl, Q2.out⟩
  have hxl := hr22 (by omega)
  have HSQ := Lib.hid (HSP.out hml)
  have c0 := X2.out.c0
  have c1 := X2.out.c1
  go_wp2_with fail
  have BD := Lib.hid ((Below.refl w2.heap.size w2).drew)
  have HCM := Lib.hid (fun W (hb : Below w2.heap.size w2 W) => show Calls Try.prog 48 #[.slice a n cap] W fun e w' => ∃ v, e = .returned v ∧ w'.ownsRow W.heap.size 81 5 v ms.length (cellsM ms) ∧ Below W.heap.size W w' from toMarkS_any (.slice a n cap) ms W (HM.out.below (Q2.out.trans (hb.mono Q2.out.size))) hml)
  have HCS := Lib.hid (fun W (hb : Below w2.heap.size w2 W) => show Calls Try.prog 44 #[.slice ax xs.length cx] W fun e w' => ∃ v, e = .returned v ∧ w'.ownsRow W.heap.size 9 1 v xs.length (xs.map Value.string) ∧ Below W.heap.size W w' from toStringS_any (.slice ax xs.length cx) xs W (HX.out.below (Q2.out.trans (hb.mono Q2.out.size))) hxl)
  go_region_held3 (fun w' => w'.cell? ⟨w.heap.size, 0, none⟩ = some (.int .i64 l) ∧ w'.cell? ⟨w.heap.size, 1, none⟩ = some (.int .i64 d))
    (refine ⟨?_, ?_⟩ <;> go_simp)
    (first | (go_at_call 48; with_reducible refine Calls.mono (HCM.out _ BD.out) ?_; rintro e ua ⟨vA, rfl, ho, hb⟩; have Ba := Lib.hid (BD.out.trans (hb.mono BD.out.size)); have MA := Lib.hid (IsMarks.of_owns ho); obtain ⟨aA, nA, cA, rfl⟩ := (IsMarks.of_owns ho).slice; clear hb ho; have p0 := (X2.out.below Ba.out).c0; have p1 := (X2.out.below Ba.out).c1) | (go_at_call 44; with_reducible refine Calls.mono (HCS.out _ Ba.out) ?_; rintro e ub ⟨vB, rfl, ho, hb⟩; have Bb := Lib.hid (Ba.out.trans (hb.mono Ba.out.size)); have MB := Lib.hid (MA.out.below hb); have SB := Lib.hid (IsStrs.of_owns ho); obtain ⟨aB, cB, rfl, -, -⟩ := (IsStrs.of_owns ho).form; clear hb ho; have q0 := (X2.out.below Bb.out).c0; have q1 := (X2.out.below Bb.out).c1) | (go_at_call 46; with_reducible refine Calls.mono (toNeedsK_any l d _) ?_; rintro e uc ⟨rfl, hb⟩; have Bc := Lib.hid (Bb.out.trans (hb.mono Bb.out.size)); have MC := Lib.hid (MB.out.below hb); have SC := Lib.hid (SB.out.below hb); clear hb; have s0 := (X2.out.below Bc.out).c0; have s1 := (X2.out.below Bc.out).c1) | (go_at_call 39; with_reducible refine Calls.mono (HSQ.out _ _ _ MC.out SC.out) ?_; rintro e w3 ⟨⟨b1, hb1, rfl⟩, hb⟩; have Bd := Lib.hid (Bc.out.trans (hb.mono Bc.out.size)); have HB1 := Lib.hid hb1; clear hb hb1; have t0 := (X2.out.below Bd.out).c0; have t1 := (X2.out.below Bd.out).c1))
  have Q3 := Lib.hid (Q2.out.trans (Bd.out.mono Q2.out.size))
  have X3 := Lib.hid (X2.out.below Bd.out)
  clear c0 c1 p0 p1 q0 q1 s0 s1 t0 t1
  have c0 := X3.out.c0
  have c1 := X3.out.c1
  go_wp2_with fail
  clear c0 c1
  refine (toMarkS_any _ ms _ (HM.out.below Q3.out) hml).mono ?_
  rintro e w4 ⟨vP, rfl, ho, hb⟩
  have Q4 := Lib.hid (Q3.out.trans (hb.mono Q3.out.size))
  have X4 := Lib.hid (X3.out.below hb)
  have MP := Lib.hid (IsMarks.of_owns ho)
  obtain ⟨aP, nP, cP, rfl⟩ := (IsMarks.of_owns ho).slice
  clear ho
  clear hb
  have c0 := X4.out.c0
  have c1 := X4.out.c1
  go_wp2_with fail
  clear c0 c1
  refine (toStringS_any _ xs _ (HX.out.below Q4.out) hxl).mono ?_
  rintro e w5 ⟨vQ, rfl, ho, hb⟩
  have Q5 := Lib.hid (Q4.out.trans (hb.mono Q4.out.size))
  have X5 := Lib.hid (X4.out.below hb)
  have SQ := Lib.hid (IsStrs.of_owns ho)
  obtain ⟨aQ, cQ, rfl, -, -⟩ := (IsStrs.of_owns ho).form
  clear ho
  have MQ := Lib.hid (MP.out.below hb)
  clear hb
  have c0 := X5.out.c0
  have c1 := X5.out.c1
  go_wp2_with fail
  clear c0 c1
  refine (toNeedsK_any l d _).mono ?_
  rintro e w6 ⟨rfl, hb⟩
  have Q6 := Lib.hid (Q5.out.trans (hb.mono Q5.out.size))
  have X6 := Lib.hid (X5.out.below hb)
  have MR := Lib.hid (MQ.out.below hb)
  have SR := Lib.hid (SQ.out.below hb)
  clear hb
  have c0 := X6.out.c0
  have c1 := X6.out.c1
  go_wp2_with fail
  clear c0 c1
  refine (HIM.out _ _ _ MR.out SR.out (HG.out _ Q6.out)).mono ?_
  rintro e w7 ⟨⟨b2, hb2, rfl⟩, hb⟩
  have Q7 := Lib.hid (Q6.out.trans (hb.mono Q6.out.size))
  have X7 := Lib.hid (X6.out.below hb)
  obtain rfl := hb2.one HB1.out
  have ME := Lib.hid (MR.out.below hb)
  have SE := Lib.hid (SR.out.below hb)
  clear hb2 HB1
  have hnb := HNE.out (b2 && cb)
  clear hb
  generalize (b2 && cb) = bb at *
  have c0 := X7.out.c0
  have c1 := X7.out.c1
  go_wp2_with fail
  clear c0 c1
  refine (toMarkS_any _ ms _ (HM.out.below Q7.out) hml).mono ?_
  rintro e w8 ⟨vF, rfl, ho, hb⟩
  have Q8 := Lib.hid (Q7.out.trans (hb.mono Q7.out.size))
  have X8 := Lib.hid (X7.out.below hb)
  have MF := Lib.hid (IsMarks.of_owns ho)
  obtain ⟨aF, nF, cF, rfl⟩ := (IsMarks.of_owns ho).slice
  clear ho
  have MG := Lib.hid (ME.out.below hb)
  have SG := Lib.hid (SE.out.below hb)
  clear hb
  have c0 := X8.out.c0
  have c1 := X8.out.c1
  go_wp2_with fail
  clear c0 c1
  refine (eqMarkS_same ms _ _ _ MG.out MF.out).mono ?_
  rintro e w9 ⟨rfl, hb⟩
  have Q9 := Lib.hid (Q8.out.trans (hb.mono Q8.out.size))
  have X9 := Lib.hid (X8.out.below hb)
  have SH := Lib.hid (SG.out.below hb)
  clear hb
  have c0 := X9.out.c0
  have c1 := X9.out.c1
  go_wp2_with fail
  clear c0 c1
  refine (toStringS_any _ xs _ (HX.out.below Q9.out) hxl).mono ?_
  rintro e w10 ⟨vJ, rfl, ho, hb⟩
  have Q10 := Lib.hid (Q9.out.trans (hb.mono Q9.out.size))
  have X10 := Lib.hid (X9.out.below hb)
  have SJ := Lib.hid (IsStrs.of_owns ho)
  obtain ⟨aJ, cJ, rfl, -, -⟩ := (IsStrs.of_owns ho).form
  clear ho
  have SI := Lib.hid (SH.out.below hb)
  clear hb
  have c0 := X10.out.c0
  have c1 := X10.out.c1
  go_wp2_with fail
  clear c0 c1
  refine (eqStringS_sameK _ _ xs _ SI.out SJ.out).mono ?_
  rintro e w11 ⟨rfl, hb⟩
  have Q11 := Lib.hid (Q10.out.trans (hb.mono Q10.out.size))
  have X11 := Lib.hid (X10.out.below hb)
  clear hb
  go_wp2_with fail
  go_ret
  exact ⟨rfl, Q11.out⟩
end Go.Proofs.Ytlbblfbiiceofaa
