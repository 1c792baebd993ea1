/- RowsExchanged of the program and of the model: what each returns, for every argument. No condition. -/
import Derived.Test.YtlbblfbiiceofaaRostDay
import Derived.Deep.RegionHeld3
import Derived.Outline
import Derived.Deep.CutRange
import Derived.Deep.CutBlock
import Derived.BigRegion
namespace Go.Proofs.Ytlbblfbiiceofaa
open Go.RowKit

/-- a row of one's own, and whether there is one -/
def ExP (ys : List ByteArray) (b : Bool) (w : World) (e : Ending) (w' : World) : Prop :=
  ∃ v, e = .returned (.tuple #[v, .bool b]) ∧ w'.ownsRow w.heap.size 9 1 v ys.length (ys.map Value.string) ∧ Below w.heap.size w w'
theorem ExP.no {xs : List ByteArray} {a b : Int} {w w' : World} {v : Value} (h : exchOk xs a b = false) (hv : v = .slice none 0 0 ∨ ∃ g, v = .slice (some ⟨g, 0, none⟩) 0 0 ∧ w'.ownsRow w.heap.size 9 1 v 0 []) (hb : Below w.heap.size w w') :
    ExP (exch xs a b) (exchOk xs a b) w (.returned (.tuple #[v, .bool false])) w' := by
  rw [exch_no h, h]
  refine ⟨v, rfl, ?_, hb⟩
  rcases hv with rfl | ⟨g, rfl, h⟩
  · exact World.ownsRow_nil _ _ _ _
  · exact h
theorem rowIn_any (a : Option Addr) (n c : Nat) (p : Int) (w : World) (_hn : n ≤ 9223372036854775807) :
    Calls Try.prog 65 #[.slice a n c, .int .i64 p] w fun e w' => e = .returned (.bool (decide (0 ≤ p) && decide (p < n))) ∧ w = w' := by
  by_cases h : 0 ≤ p
  · have hd : decide (0 ≤ p) = true := decide_eq_true h
    go_enter Try.func65, Try.ntmps65
    go_wp2
    go_ret
    exact ⟨ret_bool (by rw [hd, Bool.true_and]), rfl⟩
  · have hd : decide (0 ≤ p) = false := decide_eq_false h
    go_enter Try.func65, Try.ntmps65
    go_wp2
    go_ret
    exact ⟨ret_bool (by simp), rfl⟩
theorem owns_drewE {w : World} {base : Nat} {e : TypeId} {size : Nat} {v : Value} {n : Nat} {xs : List Value} (h : w.ownsRow base e size v n xs) : w.drew.ownsRow base e size v n xs :=
  h.kept (row := none) ⟨rfl, rfl, rfl, Nat.le_refl _, fun _ _ _ => rfl⟩ (by cases v.ownBlock <;> simp)
theorem exchOk_no1 {xs : List ByteArray} {a b : Int} (h : rosterOk xs = false) : exchOk xs a b = false := by simp [exchOk, h]
theorem exchOk_no2 {xs : List ByteArray} {a b : Int} (h : a = b) : exchOk xs a b = false := by simp [exchOk, h]
theorem exchOk_no3 {xs : List ByteArray} {a b : Int} (h : (decide (0 ≤ a) && decide (a < xs.length)) = false) : exchOk xs a b = false := by rw [exchOk, h]; simp
theorem exchOk_no4 {xs : List ByteArray} {a b : Int} (h : (decide (0 ≤ b) && decide (b < xs.length)) = false) : exchOk xs a b = false := by rw [exchOk, h]; simp
theorem exchTo_map (xs : List ByteArray) (a b : Nat) (ha : a < xs.length) (hb : b < xs.length) : (exchTo xs a b).map Value.string = ((xs.map Value.string).set a (.string xs[b])).set b (.string xs[a]) := by
  have e1 : xs.getD a ⟨#[]⟩ = xs[a] := by simp [List.getD, ha]
  have e2 : xs.getD b ⟨#[]⟩ = xs[b] := by simp [List.getD, hb]
  rw [exchTo, e1, e2, List.map_set, List.map_set]

set_option maxHeartbeats 3200000 in
theorem implExch_yes (v : Value) (xs : List ByteArray) (hwf : Short xs) (a b : Nat) (w : World) (h : IsStrs w v xs) (hr : rosterOk xs = true) (ha : a < xs.length) (hb : b < xs.length) (hab : a ≠ b) :
    Calls Try.prog 31 #[v, .int .i64 (a : Int), .int .i64 (b : Int)] w fun e w' => ∃ u, e = .returned (.tuple #[u, .bool true]) ∧ w'.ownsRow w.heap.size 9 1 u xs.length ((exchTo xs a b).map Value.string) ∧ Below w.heap.size w w' := by
  have HR := Lib.hid (implRosterOk_any v xs hwf w h)
  rw [hr] at HR
  obtain ⟨hn1, hn4, -, -⟩ := rosterOk_iff.1 hr
  have hne : ((a : Int) == (b : Int)) = false := by simp; omega
  obtain ⟨ad, cap, rfl, hcp, hmx⟩ := h.form
  obtain ⟨g, off, rfl, hg, hc⟩ := h.at (by omega)
  have HC := Lib.hid hc
  have HG := Lib.hid hg
  have HIN : Hid (∀ (p : Nat) (W : World), p < xs.length → Calls Try.prog 65 #[.slice (some ⟨g, off, none⟩) xs.length cap, .int .i64 (p : Int)] W fun e w' => e = .returned (.bool true) ∧ W = w') := by
    have : ∀ (p : Nat) (W : World), p < xs.length → Calls Try.prog 65 #[.slice (some ⟨g, off, none⟩) xs.length cap, .int .i64 (p : Int)] W fun e w' => e = .returned (.bool true) ∧ W = w' := fun p W hp => by
      have := rowIn_any (some ⟨g, off, none⟩) xs.length cap (p : Int) W (by omega)
      rw [show (decide ((0 : Int) ≤ p) && decide ((p : Int) < xs.length)) = true by simp; omega] at this
      exact this
    exact Lib.hid this
  have HM := Lib.hid (exchTo_map xs a b ha hb)
  have HCL : Hid (∀ W : World, (∀ k (hk : k < xs.length), W.cell? ⟨g, off + k, none⟩ = some (.string xs[k])) → Calls Try.prog 66 #[.slice (some ⟨g, off, none⟩) xs.length cap] W fun e w' => ∃ v', e = .returned v' ∧ w'.ownsRow W.heap.size 9 1 v' xs.length (xs.map Value.string) ∧ Below W.heap.size W w') := by
    have : ∀ W : World, (∀ k (hk : k < xs.length), W.cell? ⟨g, off + k, none⟩ = some (.string xs[k])) → Calls Try.prog 66 #[.slice (some ⟨g, off, none⟩) xs.length cap] W fun e w' => ∃ v', e = .returned v' ∧ w'.ownsRow W.heap.size 9 1 v' xs.length (xs.map Value.string) ∧ Below W.heap.size W w' := fun W hW => by
      refine (Any.slices_Clone_string shCloneS_lays g off xs.length cap xs W (Nat.le_refl _) (by omega) (fun j hj => by rw [hW j hj]; simp [List.getD, hj])).mono ?_
      rintro e w' ⟨v', rfl, ho, -, hb⟩
      exact ⟨v', rfl, by rw [List.take_length] at ho; exact ho, hb⟩
    exact Lib.hid this
  clear hc hg h hwf hr
  go_enter Try.func31, Try.ntmps31
  go_wp2_with fail
  refine HR.out.mono ?_
  rintro e w1 ⟨rfl, hb1⟩
  have B1 := Lib.hid hb1
  have HC1 : Hid (∀ k (hk : k < xs.length), w1.cell? ⟨g, off + k, none⟩ = some (.string xs[k])) := Lib.hid (fun k hk => (hb1.cell (p := ⟨g, off + k, none⟩) HG.out).trans (HC.out k hk))
  clear hb1
  go_wp2_with fail
  refine (HIN.out a w1 ha).mono ?_
  rintro e w' ⟨rfl, rfl⟩
  go_wp2_with fail
  refine (HIN.out b w1 hb).mono ?_
  rintro e w' ⟨rfl, rfl⟩
  go_wp2_with fail
  refine (HCL.out w1 HC1.out).mono ?_
  rintro e w2 ⟨v2, rfl, ho, hb2⟩
  obtain ⟨g2, c2, rfl, hc21, hc22⟩ : ∃ g2 c2, v2 = .slice (some ⟨g2, 0, none⟩) xs.length c2 ∧ xs.length ≤ c2 ∧ c2 ≤ 9223372036854775807 := by
    rcases ho.2 with ⟨_, hn⟩ | ⟨g', c', cur, rfl, _, _, h1, h2, _⟩
    · omega
    · unfold maxLen at h2
      exact ⟨g', c', rfl, h1, h2⟩
  have hlt := ho.lt g2 rfl
  have xa : w2.cell? ⟨g, off + a, none⟩ = some (.string xs[a]) := (hb2.cell (p := ⟨g, off + a, none⟩) (Nat.lt_of_lt_of_le HG.out B1.out.size)).trans (HC1.out a ha)
  have xb : w2.cell? ⟨g, off + b, none⟩ = some (.string xs[b]) := (hb2.cell (p := ⟨g, off + b, none⟩) (Nat.lt_of_lt_of_le HG.out B1.out.size)).trans (HC1.out b hb)
  have ya : w2.cell? ⟨g2, a, none⟩ = some (.string xs[a]) := by rw [ho.cellAt a (by omega)]; simp [ha]
  have yb : w2.cell? ⟨g2, b, none⟩ = some (.string xs[b]) := by rw [ho.cellAt b (by omega)]; simp [hb]
  have fa := ho.frozenAt a
  have fb := ho.frozenAt b
  have hgg : g ≠ g2 := by have := Nat.lt_of_lt_of_le HG.out B1.out.size; omega
  have hgg2 : g2 ≠ g := fun e => hgg e.symm
  have hba : b ≠ a := fun e => hab e.symm
  have hoo1 : ¬ off + a = off + b := by omega
  have hoo2 : ¬ off + b = off + a := by omega
  have hs1 := ho.stored a (.string xs[b])
  have hs2 := hs1.1.stored b (.string xs[a])
  rw [← HM.out] at hs2
  have HS := Lib.hid (show (((w2.setCell ⟨g2, a, none⟩ (.string xs[b])).setCell ⟨g2, b, none⟩ (.string xs[a])).ownsRow w1.heap.size 9 1 (.slice (some ⟨g2, 0, none⟩) xs.length c2) xs.length ((exchTo xs a b).map Value.string)) from hs2.1)
  have hB : Below w1.heap.size w1 ((w2.setCell ⟨g2, a, none⟩ (.string xs[b])).setCell ⟨g2, b, none⟩ (.string xs[a])) := (hb2.setCell (p := ⟨g2, a, none⟩) hlt.1 _).setCell (p := ⟨g2, b, none⟩) hlt.1 _
  have HB := Lib.hid (B1.out.trans (hB.mono B1.out.size))
  have HW1 := Lib.hid (B1.out.size)
  clear hs1 hs2 hB ho hb2 hlt HM HCL
  generalize xs[a] = sa at *
  generalize xs[b] = sb at *
  have hal : (a : Int) < (xs.length : Int) := by omega
  have hbl : (b : Int) < (xs.length : Int) := by omega
  go_wp2_with fail
  go_region
  all_goals
    go_wp2_with fail
    go_ret2
    exact ⟨_, rfl, ownsRow_base (owns_drewE HS.out) (fun k e => by cases e; exact Nat.le_trans HW1.out (World.ownsRow.lt HS.out g2 rfl).1), HB.out.drew⟩

theorem ExP.yes {xs : List ByteArray} {a b : Nat} {w w' : World} {v : Value} (h : exchOk xs a b = true) (ho : w'.ownsRow w.heap.size 9 1 v xs.length ((exchTo xs a b).map Value.string)) (hb : Below w.heap.size w w') :
    ExP (exch xs a b) (exchOk xs a b) w (.returned (.tuple #[v, .bool true])) w' := by
  rw [exch_yes h, h]
  exact ⟨v, rfl, by rw [exchTo_length]; exact ho, hb⟩

set_option maxHeartbeats 1600000 in
theorem implExch_any (v : Value) (xs : List ByteArray) (hwf : Short xs) (a b : Int) (w : World) (h : IsStrs w v xs) :
    Calls Try.prog 31 #[v, .int .i64 a, .int .i64 b] w (ExP (exch xs a b) (exchOk xs a b) w) := by
  cases hx : exchOk xs a b with
  | true =>
    obtain ⟨h1, h2, h3, h4⟩ := exchOk_iff.1 hx
    obtain ⟨na, rfl⟩ := Int.eq_ofNat_of_zero_le h2.1
    obtain ⟨nb, rfl⟩ := Int.eq_ofNat_of_zero_le h3.1
    refine (implExch_yes v xs hwf na nb w h h1 (by omega) (by omega) (by omega)).mono ?_
    rintro e w' ⟨u, rfl, ho, hb⟩
    have := ExP.yes hx ho hb
    rw [hx] at this
    exact this
  | false =>
    have HE : Hid (∀ w', Below w.heap.size w w' → ExP (exch xs a b) false w (.returned (.tuple #[.slice none 0 0, .bool false])) w') := by
      have : ∀ w', Below w.heap.size w w' → ExP (exch xs a b) false w (.returned (.tuple #[.slice none 0 0, .bool false])) w' := fun w' hb => by
        have := ExP.no hx (.inl rfl) hb
        rw [hx] at this
        exact this
      exact Lib.hid this
    have HR := Lib.hid (implRosterOk_any v xs hwf w h)
    obtain ⟨ad, cap, rfl, hcp, hmx⟩ := h.form
    have HIN := Lib.hid (fun p W => rowIn_any ad xs.length cap p W (by omega))
    clear h hwf
    cases hr : rosterOk xs with
    | false =>
      rw [hr] at HR
      clear hx
      go_enter Try.func31, Try.ntmps31
      go_wp2_with (go_at_call 18; refine HR.out.mono ?_; rintro e w1 ⟨rfl, hb1⟩)
      go_ret2
      exact HE.out _ hb1
    | true =>
      rw [hr] at HR
      by_cases hab : a = b
      · have hne : (a == b) = true := by simp [hab]
        clear hx hab
        go_enter Try.func31, Try.ntmps31
        go_wp2_with (go_at_call 18; refine HR.out.mono ?_; rintro e w1 ⟨rfl, hb1⟩)
        go_ret2
        exact HE.out _ hb1
      · have hne : (a == b) = false := by simpa using hab
        by_cases ha : (decide (0 ≤ a) && decide (a < xs.length)) = true
        · have hb : (decide (0 ≤ b) && decide (b < xs.length)) = false := by
            cases hb : (decide (0 ≤ b) && decide (b < xs.length)) with
            | false => rfl
            | true =>
              have : exchOk xs a b = true := by rw [exchOk, hr, ha, hb]; simp [hab]
              rw [hx] at this; cases this
          have HA := Lib.hid (HIN.out a)
          have HB := Lib.hid (HIN.out b)
          rw [ha] at HA
          rw [hb] at HB
          clear hx hab ha hb
          go_enter Try.func31, Try.ntmps31
          go_wp2_with fail
          refine HR.out.mono ?_
          rintro e w1 ⟨rfl, hb1⟩
          go_wp2_with fail
          refine (HA.out w1).mono ?_
          rintro e w' ⟨rfl, rfl⟩
          go_wp2_with fail
          refine (HB.out w1).mono ?_
          rintro e w' ⟨rfl, rfl⟩
          go_wp2_with fail
          go_ret2
          exact HE.out _ hb1
        · have haf : (decide (0 ≤ a) && decide (a < xs.length)) = false := by simpa using ha
          have HA := Lib.hid (HIN.out a)
          rw [haf] at HA
          clear hx hab ha haf
          go_enter Try.func31, Try.ntmps31
          go_wp2_with fail
          refine HR.out.mono ?_
          rintro e w1 ⟨rfl, hb1⟩
          go_wp2_with fail
          refine (HA.out w1).mono ?_
          rintro e w' ⟨rfl, rfl⟩
          go_wp2_with fail
          go_ret2
          exact HE.out _ hb1

theorem exch_take {xs : List ByteArray} {a b : Nat} (ha : a < xs.length) (hb : b < xs.length) (k : Nat) (hk : k < xs.length) :
    ((exchTo xs a b).take (k + 1)).map Value.string = ((exchTo xs a b).take k).map Value.string ++ [Value.string (if k = b then xs[a] else if k = a then xs[b] else xs[k])] := by
  have hl := exchTo_length xs a b
  rw [List.take_succ_eq_append_getElem (by omega), List.map_append, exchTo_get ha hb]; rfl

set_option maxHeartbeats 3200000 in
theorem specExch_yes (v : Value) (xs : List ByteArray) (hwf : Short xs) (a b : Nat) (w : World) (h : IsStrs w v xs) (hr : rosterOk xs = true) (ha : a < xs.length) (hb : b < xs.length) (hab : a ≠ b) :
    Calls Try.prog 41 #[v, .int .i64 (a : Int), .int .i64 (b : Int)] w fun e w' => ∃ u, e = .returned (.tuple #[u, .bool true]) ∧ w'.ownsRow w.heap.size 9 1 u xs.length ((exchTo xs a b).map Value.string) ∧ Below w.heap.size w w' := by
  have HR := Lib.hid (specRosterOk_any v xs hwf w h)
  rw [hr] at HR
  obtain ⟨u0, hu, hz0, hz1, hz2⟩ := info_parts infoStrC
  have HU := Lib.hid (And.intro hu (And.intro hz0 (And.intro hz1 hz2)))
  clear hu hz0 hz1 hz2
  obtain ⟨hn1, hn4, -, -⟩ := rosterOk_iff.1 hr
  have hne : ((a : Int) == (b : Int)) = false := by simp; omega
  obtain ⟨ad, cap, rfl, hcp, hmx⟩ := h.form
  obtain ⟨g, off, rfl, hg, hc⟩ := h.at (by omega)
  have HC := Lib.hid hc
  have HG := Lib.hid hg
  have HIN : Hid (∀ (p : Nat) (W : World), p < xs.length → Calls Try.prog 57 #[.int .i64 (p : Int), .int .i64 0, .int .i64 ((xs.length : Int) - 1)] W fun e w' => e = .returned (.bool true) ∧ W = w') := by
    have : ∀ (p : Nat) (W : World), p < xs.length → Calls Try.prog 57 #[.int .i64 (p : Int), .int .i64 0, .int .i64 ((xs.length : Int) - 1)] W fun e w' => e = .returned (.bool true) ∧ W = w' := fun p W hp => by
      have := l1In_any (p : Int) 0 ((xs.length : Int) - 1) W
      rw [show (decide ((0 : Int) ≤ p) && decide ((p : Int) ≤ (xs.length : Int) - 1)) = true by simp; omega] at this
      exact this
    exact Lib.hid this
  have HT := Lib.hid (exch_take ha hb)
  have hl := exchTo_length xs a b
  have HALL : Hid ((exchTo xs a b).take xs.length = exchTo xs a b) := Lib.hid (List.take_of_length_le (by omega))
  generalize exchTo xs a b = ys at *
  have HL := Lib.hid hl
  clear hc hg h hwf hr hl
  go_enter Try.func41, Try.ntmps41
  go_wp2_with fail
  refine HR.out.mono ?_
  rintro e w1 ⟨rfl, hb1⟩
  have B1 := Lib.hid hb1
  have HC1 : Hid (∀ k (hk : k < xs.length), w1.cell? ⟨g, off + k, none⟩ = some (.string xs[k])) := Lib.hid (fun k hk => (hb1.cell (p := ⟨g, off + k, none⟩) HG.out).trans (HC.out k hk))
  have hg1 := Lib.hid (Nat.lt_of_lt_of_le HG.out hb1.size)
  clear hb1
  go_wp2_with fail
  refine (HIN.out a w1 ha).mono ?_
  rintro e w' ⟨rfl, rfl⟩
  go_wp2_with fail
  refine (HIN.out b w1 hb).mono ?_
  rintro e w' ⟨rfl, rfl⟩
  have O1 := Lib.hid ((Own.nil w1).lit 9 #[] 0 rfl (Nat.zero_le _))
  go_wp2_with fail
  go_loopw [8, 9] (fun ov iv wr => ∃ (k n : Nat), k ≤ xs.length ∧ iv = .int .i64 (k : Int) ∧ Hid (n = k) ∧ n ≤ 4 ∧ Own w1 [rowT 9 1 ov n ((ys.take k).map Value.string)] wr) (fun _ iv _ => xs.length - (intOf iv).toNat)
  case atStart => exact ⟨0, 0, Nat.zero_le _, rfl, Lib.hid rfl, Nat.zero_le _, O1.out⟩
  case round =>
    obtain ⟨k, n, hk, rfl, HN, hn, hO⟩ := hrel
    obtain ⟨wa, wc, rfl⟩ := ownsRow_sliceR (hO.row 0 (by simp) rfl)
    have O2 := Lib.hid hO
    by_cases hlt : k < xs.length
    · have xa := (O2.out.keep.cell (p := ⟨g, off + a, none⟩) hg1.out).trans (HC1.out a ha)
      have xb := (O2.out.keep.cell (p := ⟨g, off + b, none⟩) hg1.out).trans (HC1.out b hb)
      have xk := (O2.out.keep.cell (p := ⟨g, off + k, none⟩) hg1.out).trans (HC1.out k hlt)
      have HTK := Lib.hid (HT.out k hlt)
      have hal : (a : Int) < (xs.length : Int) := by omega
      have hbl : (b : Int) < (xs.length : Int) := by omega
      clear hO
      by_cases h1 : k = a
      · have h1' : ((k : Int) == (a : Int)) = true := by simp [h1]
        have HV : Hid ((ys.take (k + 1)).map Value.string = (ys.take k).map Value.string ++ [Value.string xs[b]]) := by
          have : (ys.take (k + 1)).map Value.string = (ys.take k).map Value.string ++ [Value.string xs[b]] := by rw [HTK.out, if_neg (by omega), if_pos h1]
          exact Lib.hid this
        clear h1 HTK
        generalize xs[b] = sb at *
        go_wp2_with (at_builtin; refine wpList_append_lies _ rfl _ _ 23 rfl 0 9 u0 (.string ⟨#[]⟩) 1 16 Try.underlying23 HU.out.1 HU.out.2.1 HU.out.2.2.1 HU.out.2.2.2 rfl (by decide) (.slice wa n wc) n ((ys.take k).map Value.string) rfl ((O2.out.row 0 (by simp) rfl).alloc _) ⟨wr.heap.size, 0, none⟩ 1 1 [.string sb] rfl rfl (cellRD _ _ _) (by simp [Value.oneCell']) (by omega) (by unfold maxLen; omega) (by omega) (Nat.zero_le _) _ rfl ?_; intro g9 cp w6 hown hgrow hat hlt3; have O5 := Lib.hid (O2.out.push (i := 0) (by simp) rfl hgrow hown hat); clear hown hgrow hat hlt3)
        go_roundw
        case rel => exact ⟨k + 1, n + 1, by omega, by go_num, Lib.hid (by rw [HN.out]), by have := HN.out; omega, by rw [HV.out]; exact O5.out⟩
        case measure => simp [intOf]; omega
      · have h1' : ((k : Int) == (a : Int)) = false := by simp; omega
        by_cases h2 : k = b
        · have h2' : ((k : Int) == (b : Int)) = true := by simp [h2]
          have HV : Hid ((ys.take (k + 1)).map Value.string = (ys.take k).map Value.string ++ [Value.string xs[a]]) := by
            have : (ys.take (k + 1)).map Value.string = (ys.take k).map Value.string ++ [Value.string xs[a]] := by rw [HTK.out, if_pos h2]
            exact Lib.hid this
          clear h1 h2 HTK
          generalize xs[a] = sa at *
          go_wp2_with (at_builtin; refine wpList_append_lies _ rfl _ _ 23 rfl 0 9 u0 (.string ⟨#[]⟩) 1 16 Try.underlying23 HU.out.1 HU.out.2.1 HU.out.2.2.1 HU.out.2.2.2 rfl (by decide) (.slice wa n wc) n ((ys.take k).map Value.string) rfl ((O2.out.row 0 (by simp) rfl).alloc _) ⟨wr.heap.size, 0, none⟩ 1 1 [.string sa] rfl rfl (cellRD _ _ _) (by simp [Value.oneCell']) (by omega) (by unfold maxLen; omega) (by omega) (Nat.zero_le _) _ rfl ?_; intro g9 cp w6 hown hgrow hat hlt3; have O5 := Lib.hid (O2.out.push (i := 0) (by simp) rfl hgrow hown hat); clear hown hgrow hat hlt3)
          go_roundw
          case rel => exact ⟨k + 1, n + 1, by omega, by go_num, Lib.hid (by rw [HN.out]), by have := HN.out; omega, by rw [HV.out]; exact O5.out⟩
          case measure => simp [intOf]; omega
        · have h2' : ((k : Int) == (b : Int)) = false := by simp; omega
          have HV : Hid ((ys.take (k + 1)).map Value.string = (ys.take k).map Value.string ++ [Value.string xs[k]]) := by
            have : (ys.take (k + 1)).map Value.string = (ys.take k).map Value.string ++ [Value.string xs[k]] := by rw [HTK.out, if_neg h2, if_neg h1]
            exact Lib.hid this
          clear h1 h2 HTK
          generalize xs[k] = sk at *
          go_wp2_with (at_builtin; refine wpList_append_lies _ rfl _ _ 23 rfl 0 9 u0 (.string ⟨#[]⟩) 1 16 Try.underlying23 HU.out.1 HU.out.2.1 HU.out.2.2.1 HU.out.2.2.2 rfl (by decide) (.slice wa n wc) n ((ys.take k).map Value.string) rfl ((O2.out.row 0 (by simp) rfl).alloc _) ⟨wr.heap.size, 0, none⟩ 1 1 [.string sk] rfl rfl (cellRD _ _ _) (by simp [Value.oneCell']) (by omega) (by unfold maxLen; omega) (by omega) (Nat.zero_le _) _ rfl ?_; intro g9 cp w6 hown hgrow hat hlt3; have O5 := Lib.hid (O2.out.push (i := 0) (by simp) rfl hgrow hown hat); clear hown hgrow hat hlt3)
          go_roundw
          case rel => exact ⟨k + 1, n + 1, by omega, by go_num, Lib.hid (by rw [HN.out]), by have := HN.out; omega, by rw [HV.out]; exact O5.out⟩
          case measure => simp [intOf]; omega
    · obtain rfl : k = xs.length := by omega
      have HF : Hid (wr.ownsRow w.heap.size 9 1 (.slice wa n wc) xs.length (ys.map Value.string)) := by
        have h1 := ownsRow_base (O2.out.row 0 (by simp) rfl) (B := w.heap.size) (fun j e => Nat.le_trans B1.out.size ((O2.out.ap.ltAt 0 (by simp)) j e).1)
        rw [HALL.out, HN.out] at h1
        rw [HN.out]
        exact Lib.hid h1
      clear hO
      go_wp2_with fail
      go_ret2
      exact ⟨_, rfl, HF.out, B1.out.trans (O2.out.keep.mono B1.out.size)⟩

set_option maxHeartbeats 1600000 in
theorem specExch_any (v : Value) (xs : List ByteArray) (hwf : Short xs) (a b : Int) (w : World) (h : IsStrs w v xs) :
    Calls Try.prog 41 #[v, .int .i64 a, .int .i64 b] w (ExP (exch xs a b) (exchOk xs a b) w) := by
  cases hx : exchOk xs a b with
  | true =>
    obtain ⟨h1, h2, h3, h4⟩ := exchOk_iff.1 hx
    obtain ⟨na, rfl⟩ := Int.eq_ofNat_of_zero_le h2.1
    obtain ⟨nb, rfl⟩ := Int.eq_ofNat_of_zero_le h3.1
    refine (specExch_yes v xs hwf na nb w h h1 (by omega) (by omega) (by omega)).mono ?_
    rintro e w' ⟨u, rfl, ho, hb⟩
    have := ExP.yes hx ho hb
    rw [hx] at this
    exact this
  | false =>
    have HE : Hid (∀ W : World, Below w.heap.size w W → ExP (exch xs a b) false w (.returned (.tuple #[.slice (some ⟨W.heap.size, 0, none⟩) 0 0, .bool false])) (W.alloc (.cells #[] 9))) := by
      have : ∀ W : World, Below w.heap.size w W → ExP (exch xs a b) false w (.returned (.tuple #[.slice (some ⟨W.heap.size, 0, none⟩) 0 0, .bool false])) (W.alloc (.cells #[] 9)) := fun W hb => by
        have := ExP.no (w' := W.alloc (.cells #[] 9)) hx (.inr ⟨W.heap.size, rfl, World.ownsRow_made W #[] 0 hb.size (Nat.zero_le _) rfl⟩) (hb.alloc hb.size _)
        rw [hx] at this
        exact this
      exact Lib.hid this
    have HR := Lib.hid (specRosterOk_any v xs hwf w h)
    obtain ⟨ad, cap, rfl, hcp, hmx⟩ := h.form
    have HIN := Lib.hid (fun p W => l1In_any p 0 ((xs.length : Int) - 1) W)
    clear h hwf
    cases hr : rosterOk xs with
    | false =>
      rw [hr] at HR
      clear hx
      go_enter Try.func41, Try.ntmps41
      go_wp2_with fail
      refine HR.out.mono ?_
      rintro e w1 ⟨rfl, hb1⟩
      go_wp2_with fail
      go_ret2
      exact HE.out _ hb1
    | true =>
      rw [hr] at HR
      have h1n := (rosterOk_iff.1 hr).1
      have h4n := (rosterOk_iff.1 hr).2.1
      cases ha : (decide (0 ≤ a) && decide (a ≤ (xs.length : Int) - 1)) with
      | false =>
        have HA := Lib.hid (HIN.out a)
        rw [ha] at HA
        clear hx ha
        go_enter Try.func41, Try.ntmps41
        go_wp2_with fail
        refine HR.out.mono ?_
        rintro e w1 ⟨rfl, hb1⟩
        go_wp2_with fail
        refine (HA.out w1).mono ?_
        rintro e w' ⟨rfl, rfl⟩
        go_wp2_with fail
        go_ret2
        exact HE.out _ hb1
      | true =>
        have HA := Lib.hid (HIN.out a)
        rw [ha] at HA
        cases hb : (decide (0 ≤ b) && decide (b ≤ (xs.length : Int) - 1)) with
        | false =>
          have HB := Lib.hid (HIN.out b)
          rw [hb] at HB
          clear hx ha hb
          go_enter Try.func41, Try.ntmps41
          go_wp2_with fail
          refine HR.out.mono ?_
          rintro e w1 ⟨rfl, hb1⟩
          go_wp2_with fail
          refine (HA.out w1).mono ?_
          rintro e w' ⟨rfl, rfl⟩
          go_wp2_with fail
          refine (HB.out w1).mono ?_
          rintro e w' ⟨rfl, rfl⟩
          go_wp2_with fail
          go_ret2
          exact HE.out _ hb1
        | true =>
          have HB := Lib.hid (HIN.out b)
          rw [hb] at HB
          have hab : a = b := by
            simp only [Bool.and_eq_true, decide_eq_true_eq] at ha hb
            by_cases e : a = b
            · exact e
            · have := exchOk_iff.2 ⟨hr, ⟨ha.1, by omega⟩, ⟨hb.1, by omega⟩, e⟩
              rw [hx] at this; cases this
          have hne : (a == b) = true := by simp [hab]
          clear hx ha hb hab
          go_enter Try.func41, Try.ntmps41
          go_wp2_with fail
          refine HR.out.mono ?_
          rintro e w1 ⟨rfl, hb1⟩
          go_wp2_with fail
          refine (HA.out w1).mono ?_
          rintro e w' ⟨rfl, rfl⟩
          go_wp2_with fail
          refine (HB.out w1).mono ?_
          rintro e w' ⟨rfl, rfl⟩
          go_wp2_with fail
          go_ret2
          exact HE.out _ hb1

end Go.Proofs.Ytlbblfbiiceofaa
