/- The laws' own words on slices of strings: the size, the copy, the comparison. No condition. -/
import Derived.Test.YtggohgkjdnnndaaStrs
import Derived.Test.YtggohgkjdnnndaaCopies
import Derived.Deep.QuietTactic
import Derived.BigQuiet
import Derived.WalkSmall
namespace Go.Proofs.Ytggohgkjdnnndaa
open Go.RowKit

theorem bytes_ext' {s t : ByteArray} (h : s.data.toList = t.data.toList) : s = t := by
  cases s; cases t; simp only [ByteArray.mk.injEq]; exact Array.toList_inj.1 h

set_option maxHeartbeats 1600000 in
theorem szStringS_any (xs : List ByteArray) (hwf : Short xs) (v : Value) (w : World) (h : IsStrs w v xs) (left : Int) (h0 : 0 ≤ left) (hl : left ≤ 1048576) :
    Calls Try.prog 35 #[v, .int .i64 left] w
      fun e w' => (∃ r : Int, e = .returned (.int .i64 r) ∧ -1 ≤ r ∧ r ≤ left ∧ (0 ≤ r → xs.length ≤ 1048576)) ∧ Below w.heap.size w w' := by
  obtain ⟨a, cap, rfl, ha1, ha2, ha⟩ := h
  have HA := Lib.hid ha
  have HWF := Lib.hid hwf
  unfold maxLen at ha2
  clear ha hwf
  by_cases hb : left - xs.length < 0
  · go_enter Try.func35, Try.ntmps35
    go_wp2_with fail
    go_ret
    exact ⟨⟨_, rfl, by omega, by omega, by omega⟩, Below.refl _ _⟩
  · go_enter Try.func35, Try.ntmps35
    go_wp2_with fail
    go_loopw [1, 5] (fun l i wr => ∃ (k : Nat) (x : Int), k ≤ xs.length ∧ i = .int .i64 k ∧ l = .int .i64 x ∧ 0 ≤ x ∧ x ≤ left ∧ Below w.heap.size w wr) (fun _ i _ => xs.length - (intOf i).toNat)
    case atStart => exact ⟨0, _, Nat.zero_le _, rfl, rfl, by omega, by omega, Below.refl _ _⟩
    case round =>
      obtain ⟨k, x, hk, rfl, rfl, hx0, hx1, hbel⟩ := hrel
      by_cases hlt : k < xs.length
      · obtain ⟨g, off, rfl, hg, hc⟩ := HA.out.resolve_left (fun h => by rw [h] at hlt; exact absurd hlt (Nat.not_lt_zero k))
        have c0 := (hbel.cell (p := ⟨g, off + k, none⟩) hg).trans (hc k hlt)
        have hsz := HWF.out xs[k] (List.getElem_mem hlt)
        unfold maxLen at hsz
        have BB := Lib.hid hbel
        clear hc hbel
        generalize xs[k] = s at c0 hsz
        by_cases hr : x - s.size < 0
        · go_wp2_with fail
          first | go_ret | (go_quiet (fail); go_wp2_with fail; go_ret)
          exact ⟨⟨_, rfl, by omega, by omega, by omega⟩, by first | exact BB.out | exact below_drewN BB.out _⟩
        · go_wp2_with fail
          first | go_roundw | (go_quiet (fail); go_wp2_with fail; go_roundw)
          case rel => exact ⟨k + 1, x - s.size, by omega, by go_num, rfl, by omega, by omega, by first | exact BB.out | exact below_drewN BB.out _⟩
          case measure => simp [intOf]; omega
      · obtain rfl : k = xs.length := by omega
        go_wp2_with fail
        go_ret
        exact ⟨⟨_, rfl, by omega, by omega, fun _ => by omega⟩, hbel⟩

theorem infoStrC : (Try.prog.info? 9).map (fun i => (i.zero, i.size, i.bytes)) = some (some (.string ⟨#[]⟩), 1, 16) := by kernel_rfl
/-- a list of which the first k are copied -/
def cpToS (xs : List ByteArray) (k : Nat) : List ByteArray := xs.take k ++ List.replicate (xs.length - k) ⟨#[]⟩
theorem cpToS_length (xs : List ByteArray) (k : Nat) (h : k ≤ xs.length) : (cpToS xs k).length = xs.length := by
  rw [cpToS, List.length_append, List.length_take, List.length_replicate]; omega
theorem cpToS_zero (xs : List ByteArray) : cpToS xs 0 = List.replicate xs.length ⟨#[]⟩ := by simp [cpToS]
theorem cpToS_all (xs : List ByteArray) : cpToS xs xs.length = xs := by simp [cpToS]
theorem cpToS_step (xs : List ByteArray) (k : Nat) (h : k < xs.length) : (cpToS xs k).set k xs[k] = cpToS xs (k + 1) := by
  have e : xs.length - k = (xs.length - (k + 1)) + 1 := by omega
  have hl : (xs.take k).length = k := by rw [List.length_take]; omega
  rw [cpToS, cpToS, List.set_append_right _ _ (by rw [hl]; exact Nat.le_refl _), hl, Nat.sub_self, e, List.replicate_succ, List.set_cons_zero, List.take_succ_eq_append_getElem h, List.append_assoc]
  rfl
/-- a fresh slice that holds a list of strings -/
def CopyPostS (xs : List ByteArray) (w : World) (e : Ending) (w' : World) : Prop :=
  ∃ v, e = .returned v ∧ w'.ownsRow w.heap.size 9 1 v xs.length (xs.map Value.string) ∧ Below w.heap.size w w'

set_option maxHeartbeats 800000 in
theorem toStringS_any (v : Value) (xs : List ByteArray) (w : World) (h : IsStrs w v xs) (hx : xs.length ≤ 1048576) :
    Calls Try.prog 36 #[v] w (CopyPostS xs w) := by
  obtain ⟨i0, hi, hz0, hz1, hz2⟩ := info_parts infoStrC
  have hsz : i0.bytes * xs.length ≤ 281474976710656 := by rw [hz2]; omega
  have HI := Lib.hid hi
  have HZ0 := Lib.hid hz0
  have HZ1 := Lib.hid hz1
  have HSZ := Lib.hid hsz
  clear hi hz0 hz1 hz2 hsz
  obtain ⟨a, cap, rfl, ha1, ha2, ha⟩ := h
  have HA := Lib.hid ha
  unfold maxLen at ha2
  clear ha
  go_enter Try.func36, Try.ntmps36
  go_wp2_with (at_make; refine wpList_make_full _ rfl _ _ 23 rfl w.heap.size 9 i0 (.string ⟨#[]⟩) 1 Try.underlying23 HI.out HZ0.out HZ1.out .i64 .i64 _ _ xs.length rfl rfl rfl rfl HSZ.out (by unfold maxLen; omega) (Nat.le_refl _) ?_; intro w1 hown1 hgrow1)
  have hown0 : w1.ownsRow w.heap.size 9 1 (.slice (some ⟨w.heap.size, 0, none⟩) xs.length xs.length) xs.length ((cpToS xs 0).map Value.string) := by
    have e : (madeCells (Value.string ⟨#[]⟩).cells (xs.length * 1)).toList = (cpToS xs 0).map Value.string := by
      rw [cpToS_zero, Nat.mul_one, List.map_replicate]
      exact toList_madeCells_one _ _
    rw [← e]; exact hown1
  have HOWN := Lib.hid hown0
  have hbel1 : Below w.heap.size w w1 := (Below.refl _ _).grown hgrow1 (Nat.le_refl _) (fun k e => by cases e)
  clear hown0 hown1 hgrow1
  go_loopw [4] (fun i wr => ∃ k : Nat, k ≤ xs.length ∧ i = .int .i64 k ∧ wr.ownsRow w.heap.size 9 1 (.slice (some ⟨w.heap.size, 0, none⟩) xs.length xs.length) xs.length ((cpToS xs k).map Value.string) ∧ Below w.heap.size w wr) (fun i _ => xs.length - (intOf i).toNat)
  case atStart => exact ⟨0, Nat.zero_le _, rfl, HOWN.out, hbel1⟩
  case round =>
    obtain ⟨k, hk, rfl, hown, hbel⟩ := hrel
    by_cases hlt : k < xs.length
    · obtain ⟨g, off, rfl, hg, hc⟩ := HA.out.resolve_left (fun h => by rw [h] at hlt; exact absurd hlt (Nat.not_lt_zero k))
      have hcell := (hbel.cell (p := ⟨g, off + k, none⟩) hg).trans (hc k hlt)
      have hst := hown.stored k (.string xs[k])
      rw [← List.map_set, cpToS_step xs k hlt] at hst
      have hml := cpToS_length xs k hk
      have hcl := hown.cellAt k (by omega)
      obtain ⟨c, hdell⟩ : ∃ c, wr.cell? ⟨w.heap.size, k, none⟩ = some (.string c) := ⟨(cpToS xs k)[k]'(by omega), by rw [hcl]; simp [hml, hlt]⟩
      have hfr := hown.frozenAt k
      have HST := Lib.hid hst
      have hsz := hbel.size
      clear hst hcl hml hown hc
      generalize xs[k] = c0 at hcell HST
      go_wp2
      go_roundw
      case rel => exact ⟨k + 1, by omega, by go_num, HST.out.1, hbel.setCell (p := ⟨w.heap.size, k, none⟩) (Nat.le_refl _) _⟩
      case measure => simp [intOf]; omega
    · obtain rfl : k = xs.length := by omega
      have HC := Lib.hid (cpToS_all xs)
      go_wp2
      go_ret
      refine ⟨_, rfl, ?_, hbel⟩
      rw [HC.out] at hown
      exact hown

set_option maxHeartbeats 1600000 in
theorem eqStringS_any (u v : Value) (xs ys : List ByteArray) (w : World) (hu : IsStrs w u xs) (hv : IsStrs w v ys) :
    Calls Try.prog 37 #[u, v] w fun e w' => e = .returned (.bool (decide (xs = ys))) ∧ Below w.heap.size w w' := by
  obtain ⟨a, cap, rfl, ha1, ha2, ha⟩ := hu
  obtain ⟨b, cbp, rfl, hb1, hb2, hb⟩ := hv
  unfold maxLen at ha2 hb2
  by_cases hlen : xs.length = ys.length
  · have hl' : ((xs.length : Int) != (ys.length : Int)) = false := by simp [hlen]
    have HA := Lib.hid ha
    have HB := Lib.hid hb
    clear ha hb
    have hle : xs.length ≤ ys.length := by omega
    have HLN := Lib.hid hlen
    clear hlen
    go_enter Try.func37, Try.ntmps37
    go_wp2
    go_loopw [5] (fun i wr => ∃ k : Nat, k ≤ xs.length ∧ i = .int .i64 k ∧ Hid (∀ j, j < k → xs[j]? = ys[j]?) ∧ ∃ n, wr = w.drewN n) (fun i _ => xs.length - (intOf i).toNat)
    case atStart => exact ⟨0, Nat.zero_le _, rfl, Lib.hid (fun j h => absurd h (Nat.not_lt_zero j)), 0, rfl⟩
    case round =>
      obtain ⟨k, hk, rfl, HE, n, rfl⟩ := hrel
      by_cases hlt : k < xs.length
      · obtain ⟨g, off, rfl, hg, hc⟩ := HA.out.resolve_left (fun h => by rw [h] at hlt; exact absurd hlt (Nat.not_lt_zero k))
        obtain ⟨g2, off2, rfl, hg2, hc2⟩ := HB.out.resolve_left (fun h => by rw [h] at hle; have : xs.length ≤ 0 := hle; omega)
        have hlt2 : k < ys.length := by omega
        have hc1 := hc k hlt
        have hd1 := hc2 k hlt2
        clear hc hc2
        have HY : Hid (xs[k] = ys[k] → ∀ j, j < k + 1 → xs[j]? = ys[j]?) := by
          have : xs[k] = ys[k] → ∀ j, j < k + 1 → xs[j]? = ys[j]? := fun e j hj => by
            by_cases hjk : j = k
            · subst hjk; rw [List.getElem?_eq_getElem hlt, List.getElem?_eq_getElem hlt2, e]
            · exact HE.out j (by omega)
          exact Lib.hid this
        have HN : Hid (xs[k] ≠ ys[k] → decide (xs = ys) = false) := by
          have : xs[k] ≠ ys[k] → decide (xs = ys) = false := fun e => by
            rw [decide_eq_false_iff_not]
            intro h
            exact e (by simp only [h])
          exact Lib.hid this
        have hc1' : (w.drewN n).cell? ⟨g, off + k, none⟩ = some (.string xs[k]) := hc1
        have hd1' : (w.drewN n).cell? ⟨g2, off2 + k, none⟩ = some (.string ys[k]) := hd1
        have HW : Hid (∀ q, ∃ d', (w.drewN n).drewN q = w.drewN d') := Lib.hid (fun q => ⟨n + q, by rw [World.drewN_drewN]⟩)
        have HBW := Lib.hid (below_drewN (Below.refl w.heap.size w) n)
        generalize w.drewN n = W at hc1' hd1' HW HBW ⊢
        generalize xs[k] = x at *
        generalize ys[k] = y at *
        clear hc1 hd1
        by_cases hb : x = y
        · subst hb
          have HS := Lib.hid (HY.out rfl)
          clear HY HN
          go_wp2
          go_quiet (fail)
          go_wp2
          go_roundw
          case rel => exact ⟨k + 1, by omega, by go_num, HS, (HW.out _).choose, (HW.out _).choose_spec⟩
          case measure => simp [intOf]; omega
        · have hb' : ¬ x.toList = y.toList := fun e => hb (bytes_ext' (by rw [← ByteArray.toList_eq, ← ByteArray.toList_eq, e]))
          have hb2 : (x.toList == y.toList) = false := by rw [beq_eq_false_iff_ne]; exact hb'
          have HS := Lib.hid (HN.out hb)
          clear HY HN hb
          go_wp2
          go_quiet (fail)
          go_wp2
          go_ret
          exact ⟨ret_bool HS.out.symm, HBW.out.trans (below_drewN (Below.refl _ _) _ |>.mono HBW.out.size)⟩
      · obtain rfl : k = xs.length := by omega
        have HN : Hid (decide (xs = ys) = true) := by
          have : decide (xs = ys) = true := by
            rw [decide_eq_true_eq]
            refine List.ext_getElem? fun i => ?_
            by_cases hi : i < xs.length
            · exact HE.out i hi
            · rw [List.getElem?_eq_none (by omega), List.getElem?_eq_none (by have := HLN.out; omega)]
          exact Lib.hid this
        go_wp2
        go_ret
        exact ⟨ret_bool HN.out.symm, below_drewN (Below.refl _ _) _⟩
  · have hl' : ((xs.length : Int) != (ys.length : Int)) = true := by simp; omega
    have HN : Hid (decide (xs = ys) = false) := by
      have : decide (xs = ys) = false := by
        rw [decide_eq_false_iff_not]
        intro h
        exact hlen (by rw [h])
      exact Lib.hid this
    clear hlen ha hb
    go_enter Try.func37, Try.ntmps37
    go_wp2
    go_ret
    exact ⟨ret_bool HN.out.symm, Below.refl _ _⟩

set_option maxHeartbeats 1600000 in
theorem sameTexts_any (u v : Value) (xs ys : List ByteArray) (w : World) (hu : IsStrs w u xs) (hv : IsStrs w v ys) :
    Calls Try.prog 16 #[u, v] w fun e w' => e = .returned (.bool (decide (xs = ys))) ∧ Below w.heap.size w w' := by
  obtain ⟨a, cap, rfl, ha1, ha2, ha⟩ := hu
  obtain ⟨b, cbp, rfl, hb1, hb2, hb⟩ := hv
  unfold maxLen at ha2 hb2
  by_cases hlen : xs.length = ys.length
  · have hl' : ((xs.length : Int) != (ys.length : Int)) = false := by simp [hlen]
    have HA := Lib.hid ha
    have HB := Lib.hid hb
    clear ha hb
    have hle : xs.length ≤ ys.length := by omega
    have HLN := Lib.hid hlen
    clear hlen
    go_enter Try.func16, Try.ntmps16
    go_wp2
    go_loopw [5] (fun i wr => ∃ k : Nat, k ≤ xs.length ∧ i = .int .i64 k ∧ Hid (∀ j, j < k → xs[j]? = ys[j]?) ∧ ∃ n, wr = w.drewN n) (fun i _ => xs.length - (intOf i).toNat)
    case atStart => exact ⟨0, Nat.zero_le _, rfl, Lib.hid (fun j h => absurd h (Nat.not_lt_zero j)), 0, rfl⟩
    case round =>
      obtain ⟨k, hk, rfl, HE, n, rfl⟩ := hrel
      by_cases hlt : k < xs.length
      · obtain ⟨g, off, rfl, hg, hc⟩ := HA.out.resolve_left (fun h => by rw [h] at hlt; exact absurd hlt (Nat.not_lt_zero k))
        obtain ⟨g2, off2, rfl, hg2, hc2⟩ := HB.out.resolve_left (fun h => by rw [h] at hle; have : xs.length ≤ 0 := hle; omega)
        have hlt2 : k < ys.length := by omega
        have hc1 := hc k hlt
        have hd1 := hc2 k hlt2
        clear hc hc2
        have HY : Hid (xs[k] = ys[k] → ∀ j, j < k + 1 → xs[j]? = ys[j]?) := by
          have : xs[k] = ys[k] → ∀ j, j < k + 1 → xs[j]? = ys[j]? := fun e j hj => by
            by_cases hjk : j = k
            · subst hjk; rw [List.getElem?_eq_getElem hlt, List.getElem?_eq_getElem hlt2, e]
            · exact HE.out j (by omega)
          exact Lib.hid this
        have HN : Hid (xs[k] ≠ ys[k] → decide (xs = ys) = false) := by
          have : xs[k] ≠ ys[k] → decide (xs = ys) = false := fun e => by
            rw [decide_eq_false_iff_not]
            intro h
            exact e (by simp only [h])
          exact Lib.hid this
        have hc1' : (w.drewN n).cell? ⟨g, off + k, none⟩ = some (.string xs[k]) := hc1
        have hd1' : (w.drewN n).cell? ⟨g2, off2 + k, none⟩ = some (.string ys[k]) := hd1
        have HW : Hid (∀ q, ∃ d', (w.drewN n).drewN q = w.drewN d') := Lib.hid (fun q => ⟨n + q, by rw [World.drewN_drewN]⟩)
        have HBW := Lib.hid (below_drewN (Below.refl w.heap.size w) n)
        generalize w.drewN n = W at hc1' hd1' HW HBW ⊢
        generalize xs[k] = x at *
        generalize ys[k] = y at *
        clear hc1 hd1
        by_cases hb : x = y
        · subst hb
          have HS := Lib.hid (HY.out rfl)
          clear HY HN
          go_wp2
          go_quiet (fail)
          go_wp2
          go_roundw
          case rel => exact ⟨k + 1, by omega, by go_num, HS, (HW.out _).choose, (HW.out _).choose_spec⟩
          case measure => simp [intOf]; omega
        · have hb' : ¬ x.toList = y.toList := fun e => hb (bytes_ext' (by rw [← ByteArray.toList_eq, ← ByteArray.toList_eq, e]))
          have hb2 : (x.toList == y.toList) = false := by rw [beq_eq_false_iff_ne]; exact hb'
          have HS := Lib.hid (HN.out hb)
          clear HY HN hb
          go_wp2
          go_quiet (fail)
          go_wp2
          go_ret
          exact ⟨ret_bool HS.out.symm, HBW.out.trans (below_drewN (Below.refl _ _) _ |>.mono HBW.out.size)⟩
      · obtain rfl : k = xs.length := by omega
        have HN : Hid (decide (xs = ys) = true) := by
          have : decide (xs = ys) = true := by
            rw [decide_eq_true_eq]
            refine List.ext_getElem? fun i => ?_
            by_cases hi : i < xs.length
            · exact HE.out i hi
            · rw [List.getElem?_eq_none (by omega), List.getElem?_eq_none (by have := HLN.out; omega)]
          exact Lib.hid this
        go_wp2
        go_ret
        exact ⟨ret_bool HN.out.symm, below_drewN (Below.refl _ _) _⟩
  · have hl' : ((xs.length : Int) != (ys.length : Int)) = true := by simp; omega
    have HN : Hid (decide (xs = ys) = false) := by
      have : decide (xs = ys) = false := by
        rw [decide_eq_false_iff_not]
        intro h
        exact hlen (by rw [h])
      exact Lib.hid this
    clear hlen ha hb
    go_enter Try.func16, Try.ntmps16
    go_wp2
    go_ret
    exact ⟨ret_bool HN.out.symm, Below.refl _ _⟩
end Go.Proofs.Ytggohgkjdnnndaa
