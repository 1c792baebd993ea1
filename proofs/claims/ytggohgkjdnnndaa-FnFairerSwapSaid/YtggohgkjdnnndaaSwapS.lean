/- SwapAt of the model: what it returns, for every argument. Written by mkswaps.py. No condition. -/
import Derived.Test.YtggohgkjdnnndaaSwapI
namespace Go.Proofs.Ytggohgkjdnnndaa
open Go.RowKit

theorem grown_undrew {w w' : World} {r : Option Nat} (h : w.drew.grownBy w' r) : w.grownBy w' r := ⟨h.os, h.tape, h.output, h.size, h.block⟩
theorem setAt_parts {s : ByteArray} {d : Nat} (h : d < s.size) (c : UInt8) : s.extract 0 d ++ ⟨#[c]⟩ ++ s.extract (d + 1) s.size = setAt s d c := by
  refine bytes_ext' ?_
  have hl : d < s.data.toList.length := by rw [len_data]; exact h
  have er : (setAt s d c).data.toList = s.data.toList.set d c := List.toList_toArray ..
  rw [er, ByteArray.data_append, ByteArray.data_append, Array.toList_append, Array.toList_append, ByteArray.data_extract, ByteArray.data_extract, Array.toList_extract, Array.toList_extract, List.extract_eq_take_drop, List.extract_eq_take_drop, List.set_eq_take_append_cons_drop, if_pos hl]
  have e1 : s.data.toList.take d = (List.drop 0 s.data.toList).take (d - 0) := by simp
  have e2 : (List.drop (d + 1) s.data.toList).take (s.size - (d + 1)) = List.drop (d + 1) s.data.toList := List.take_of_length_le (by rw [List.length_drop, len_data]; omega)
  rw [← e1, e2, List.append_assoc]
  rfl
theorem cut_to (s : ByteArray) (d : Nat) (h : d < s.size) (W : World) : (Instr.slice 9 (.string s) none (some (.int .i64 (d : Int))) none).run Try.prog W = .ok (.string (s.extract 0 d)) W := by
  have := run_slice_string_h (P := Try.prog) (w := W) (t := 9) (s := s) Try.underlying9 .i64 (d : Int) (by omega) (by omega)
  rw [this, Int.toNat_natCast]
theorem cut_from (s : ByteArray) (d : Nat) (h : d < s.size) (W : World) : (Instr.slice 9 (.string s) (some (.int .i64 ((d : Int) + 1))) none none).run Try.prog W = .ok (.string (s.extract (d + 1) s.size)) W := by
  have := run_slice_string_l (P := Try.prog) (w := W) (t := 9) (s := s) Try.underlying9 .i64 ((d : Int) + 1) (by omega) (by omega)
  have e : ((d : Int) + 1).toNat = d + 1 := by omega
  rw [this, e]
theorem cut_letter (s : ByteArray) (d : Nat) (h : d < s.size) (W : World) : (Instr.slice 9 (.string s) (some (.int .i64 (d : Int))) (some (.int .i64 ((d : Int) + 1))) none).run Try.prog W = .ok (.string ⟨#[byteAt s d]⟩) W := by
  rw [cut_one s d h W, extract_one s d h]
theorem swap_take {xs : List ByteArray} {d a b : Nat} (ha : a < xs.length) (hb : b < xs.length) (hd : ∀ s ∈ xs, d < s.size) (k : Nat) (hk : k < xs.length) :
    ((swapTo xs d a b).take (k + 1)).map Value.string = ((swapTo xs d a b).take k).map Value.string ++ [Value.string (setAt xs[k] d (if k = b then byteAt xs[a] d else if k = a then byteAt xs[b] d else byteAt xs[k] d))] := by
  have hl := swapTo_length xs d a b
  have hs := hd _ (List.getElem_mem hk)
  rw [List.take_succ_eq_append_getElem (by omega), List.map_append, swapTo_get ha hb]
  congr 2
  by_cases h1 : k = b
  · subst h1; simp
  · rw [if_neg h1, if_neg h1]
    by_cases h2 : k = a
    · subst h2; simp
    · rw [if_neg h2, if_neg h2]
      have : setAt xs[k] d (byteAt xs[k] d) = xs[k] := byte_ext (setAt_size _ _ _) fun j hj => by
        rw [byteAt_setAt hs]
        by_cases e : j = d
        · rw [if_pos e, e]
        · rw [if_neg e]
      rw [this]
      rfl

set_option maxHeartbeats 6400000 in
set_option maxRecDepth 20000 in
theorem specSwap_yes (v : Value) (xs : List ByteArray) (hwf : Short xs) (d a b : Nat) (w : World) (h : IsStrs w v xs) (hr : rosterOk xs = true) (hd : d < daysOf xs) (ha : a < xs.length) (hb : b < xs.length) (hab : a ≠ b) :
    Calls Try.prog 15 #[v, .int .i64 (d : Int), .int .i64 (a : Int), .int .i64 (b : Int)] w fun e w' => ∃ u, e = .returned (.tuple #[u, .bool true]) ∧ w'.ownsRow w.heap.size 9 1 u xs.length ((swapTo xs d a b).map Value.string) ∧ Below w.heap.size w w' := by
  have HR := Lib.hid (specRosterOk_any v xs hwf w h)
  rw [hr] at HR
  obtain ⟨u0, hu, hz0, hz1, hz2⟩ := info_parts infoStrC
  have HU := Lib.hid (And.intro hu (And.intro hz0 (And.intro hz1 hz2)))
  clear hu hz0 hz1 hz2
  have hrow := roster_days hr hd
  obtain ⟨hn1, hn4, hd12, hall⟩ := rosterOk_iff.1 hr
  have HRW := Lib.hid (fun k (hk : k < xs.length) => hrow _ (List.getElem_mem hk))
  have HRS := Lib.hid (fun k (hk : k < xs.length) => show xs[k].size ≤ 12 by have := (hall _ (List.getElem_mem hk)).1; omega)
  have hs0d : xs[0].size = daysOf xs := (daysOf_get (by omega)).symm
  have hne : ((a : Int) == (b : Int)) = false := by simp; omega
  have h0 : 0 < xs.length := by omega
  obtain ⟨ad, cap, rfl, hcp, hmx⟩ := h.form
  obtain ⟨g, off, rfl, hg, hc⟩ := h.at (by omega)
  have HC := Lib.hid hc
  have HG := Lib.hid hg
  have HIN : Hid (∀ (p n : Nat) (W : World), p < n → Calls Try.prog 51 #[.int .i64 (p : Int), .int .i64 0, .int .i64 ((n : Int) - 1)] W fun e w' => e = .returned (.bool true) ∧ W = w') := by
    have : ∀ (p n : Nat) (W : World), p < n → Calls Try.prog 51 #[.int .i64 (p : Int), .int .i64 0, .int .i64 ((n : Int) - 1)] W fun e w' => e = .returned (.bool true) ∧ W = w' := fun p n W hp => by
      have := l1In_any (p : Int) 0 ((n : Int) - 1) W
      rw [show (decide ((0 : Int) ≤ p) && decide ((p : Int) ≤ (n : Int) - 1)) = true by simp; omega] at this
      exact this
    exact Lib.hid this
  have HT := Lib.hid (swap_take ha hb hrow)
  have hl := swapTo_length xs d a b
  have HALL : Hid ((swapTo xs d a b).take xs.length = swapTo xs d a b) := Lib.hid (List.take_of_length_le (by omega))
  generalize swapTo xs d a b = ys at *
  have HL := Lib.hid hl
  have HDL := Lib.hid (show d < xs[0].size by omega)
  have hs12 : xs[0].size ≤ 12 := by omega
  clear hc hg h hwf hr hl hrow hall hs0d
  go_enter Try.func15, Try.ntmps15
  go_wp2_with fail
  refine HR.out.mono ?_
  rintro e w1 ⟨rfl, hb1⟩
  have B1 := Lib.hid hb1
  have HC1 : Hid (∀ k (hk : k < xs.length), w1.cell? ⟨g, off + k, none⟩ = some (.string xs[k])) := Lib.hid (fun k hk => (hb1.cell (p := ⟨g, off + k, none⟩) HG.out).trans (HC.out k hk))
  have hg1 := Lib.hid (Nat.lt_of_lt_of_le HG.out hb1.size)
  have c0 : w1.cell? ⟨g, off, none⟩ = some (.string xs[0]) := HC1.out 0 h0
  clear hb1
  generalize hx0 : xs[0] = s0 at *
  go_wp2_with fail
  refine (HIN.out d s0.size w1 HDL.out).mono ?_
  rintro e w' ⟨rfl, rfl⟩
  go_wp2_with fail
  refine (HIN.out a xs.length w1 ha).mono ?_
  rintro e w' ⟨rfl, rfl⟩
  go_wp2_with fail
  refine (HIN.out b xs.length w1 hb).mono ?_
  rintro e w' ⟨rfl, rfl⟩
  have O1 := Lib.hid ((Own.nil w1).lit 9 #[] 0 rfl (Nat.zero_le _))
  clear c0
  go_wp2_with fail
  go_loopw [10, 11, 12] (fun ov iv _ wr => ∃ (k n : Nat), k ≤ xs.length ∧ iv = .int .i64 (k : Int) ∧ Hid (n = k) ∧ n ≤ 4 ∧ Own w1 [rowT 9 1 ov n ((ys.take k).map Value.string)] wr) (fun _ iv _ _ => xs.length - (intOf iv).toNat)
  case atStart => exact ⟨0, 0, Nat.zero_le _, rfl, Lib.hid rfl, Nat.zero_le _, O1.out⟩
  case round =>
    obtain ⟨k, n, hk, rfl, HN, hn, hO⟩ := hrel
    obtain ⟨wa, wc, rfl⟩ := ownsRow_sliceR (hO.row 0 (by simp) rfl)
    have O2 := Lib.hid hO
    by_cases hlt : k < xs.length
    · have xa := (O2.out.keep.cell (p := ⟨g, off + a, none⟩) hg1.out).trans (HC1.out a ha)
      have xb := (O2.out.keep.cell (p := ⟨g, off + b, none⟩) hg1.out).trans (HC1.out b hb)
      have xk := (O2.out.keep.cell (p := ⟨g, off + k, none⟩) hg1.out).trans (HC1.out k hlt)
      have XK := Lib.hid (fun W (hb : Below w1.heap.size w1 W) => (hb.cell (p := ⟨g, off + k, none⟩) hg1.out).trans (HC1.out k hlt))
      have HTK := Lib.hid (HT.out k hlt)
      have hal : (a : Int) < (xs.length : Int) := by omega
      have hbl : (b : Int) < (xs.length : Int) := by omega
      have hkl : (k : Int) < (xs.length : Int) := by omega
      have hwd : IntKind.i64.wrap ((d : Int) + 1) = (d : Int) + 1 := IntWalk.i64_in _ (by have := HRW.out a ha; have := HRS.out a ha; omega)
      have hsk := HRS.out k hlt
      have hgr : g < wr.heap.size := Nat.lt_of_lt_of_le hg1.out O2.out.keep.size
      have cka := fun W => cut_letter xs[a] d (HRW.out a ha) W
      have ckb := fun W => cut_letter xs[b] d (HRW.out b hb) W
      have ckk := fun W => cut_letter xs[k] d (HRW.out k hlt) W
      have cto := fun W => cut_to xs[k] d (HRW.out k hlt) W
      have cfr := fun W => cut_from xs[k] d (HRW.out k hlt) W
      clear hO
      by_cases h2 : k = b
      · have h1' : ((k : Int) == (a : Int)) = false := by simp; omega
        have h2' : ((k : Int) == (b : Int)) = true := by simp [h2]
        have hv : (if k = b then byteAt xs[a] d else if k = a then byteAt xs[b] d else byteAt xs[k] d) = byteAt xs[a] d := by rw [if_pos h2]
        have HV := Lib.hid (show (ys.take (k + 1)).map Value.string = (ys.take k).map Value.string ++ [Value.string (setAt xs[k] d (byteAt xs[a] d))] by rw [HTK.out, hv])
        have hz : (xs[k].extract 0 d).size ≤ 12 ∧ (xs[k].extract (d + 1) xs[k].size).size ≤ 12 := by
          rw [ByteArray.size_extract, ByteArray.size_extract]; omega
        have hz2 : (xs[k].extract 0 d ++ ⟨#[byteAt xs[a] d]⟩).size ≤ 13 := by
          rw [ByteArray.size_append, ByteArray.size_extract]
          have : (⟨#[byteAt xs[a] d]⟩ : ByteArray).size = 1 := rfl
          omega
        have had1 : ∀ W, (Op.stringOp .add (xs[k].extract 0 d) ⟨#[byteAt xs[a] d]⟩).run Try.prog W = .ok (.string (xs[k].extract 0 d ++ ⟨#[byteAt xs[a] d]⟩)) W := fun W => run_string_add_sum (P := Try.prog) (w := W) _ _ (by have : (⟨#[byteAt xs[a] d]⟩ : ByteArray).size = 1 := rfl; omega)
        have had2 : ∀ W, (Op.stringOp .add (xs[k].extract 0 d ++ ⟨#[byteAt xs[a] d]⟩) (xs[k].extract (d + 1) xs[k].size)).run Try.prog W = .ok (.string (setAt xs[k] d (byteAt xs[a] d))) W := fun W => by
          rw [← setAt_parts (HRW.out k hlt) (byteAt xs[a] d)]
          exact run_string_add_sum (P := Try.prog) (w := W) _ _ (by omega)
        clear hz hz2 hv HTK h2
        generalize byteAt xs[a] d = cc at *
        generalize xs[k].extract 0 d = pre at *
        generalize xs[k].extract (d + 1) xs[k].size = post at *
        generalize pre ++ (⟨#[cc]⟩ : ByteArray) = half at *
        generalize setAt xs[k] d cc = whole at *
        generalize xs[a] = sa at *
        generalize xs[b] = sb at *
        generalize xs[k] = sk at *
        go_wp2_with fail
        go_region_held3 (fun w' => w'.cell? ⟨g, off + k, none⟩ = some (.string sk)) (go_simp) (first | (refine step_append_lies _ rfl _ _ 23 rfl 0 9 u0 (.string ⟨#[]⟩) 1 16 Try.underlying23 HU.out.1 HU.out.2.1 HU.out.2.2.1 HU.out.2.2.2 rfl (by decide) (.slice wa n wc) n ((ys.take k).map Value.string) rfl ((O2.out.row 0 (by simp) rfl).alloc _) ⟨wr.heap.size, 0, none⟩ 1 1 [.string whole] rfl rfl (cellRD _ _ _) (by simp [Value.oneCell']) (by omega) (by unfold maxLen; omega) (by omega) (Nat.zero_le _) _ rfl ?_; intro g9 cp w6 hown hgrow hat hlt3; have O5 := Lib.hid (O2.out.push (i := 0) (by simp) rfl (grown_undrew hgrow) hown hat); clear hown hgrow hat hlt3; have xk := XK.out _ O5.out.keep))
        clear xk
        go_wp2_with fail
        go_roundw
        case rel => exact ⟨k + 1, n + 1, by omega, by go_num, Lib.hid (by rw [HN.out]), by have := HN.out; omega, by rw [HV.out]; exact O5.out⟩
        case measure => simp [intOf]; omega
      · have h2' : ((k : Int) == (b : Int)) = false := by simp; omega
        by_cases h1 : k = a
        · have h1' : ((k : Int) == (a : Int)) = true := by simp [h1]
          have hv : (if k = b then byteAt xs[a] d else if k = a then byteAt xs[b] d else byteAt xs[k] d) = byteAt xs[b] d := by rw [if_neg h2, if_pos h1]
          have HV := Lib.hid (show (ys.take (k + 1)).map Value.string = (ys.take k).map Value.string ++ [Value.string (setAt xs[k] d (byteAt xs[b] d))] by rw [HTK.out, hv])
          have hz : (xs[k].extract 0 d).size ≤ 12 ∧ (xs[k].extract (d + 1) xs[k].size).size ≤ 12 := by
            rw [ByteArray.size_extract, ByteArray.size_extract]; omega
          have hz2 : (xs[k].extract 0 d ++ ⟨#[byteAt xs[b] d]⟩).size ≤ 13 := by
            rw [ByteArray.size_append, ByteArray.size_extract]
            have : (⟨#[byteAt xs[b] d]⟩ : ByteArray).size = 1 := rfl
            omega
          have had1 : ∀ W, (Op.stringOp .add (xs[k].extract 0 d) ⟨#[byteAt xs[b] d]⟩).run Try.prog W = .ok (.string (xs[k].extract 0 d ++ ⟨#[byteAt xs[b] d]⟩)) W := fun W => run_string_add_sum (P := Try.prog) (w := W) _ _ (by have : (⟨#[byteAt xs[b] d]⟩ : ByteArray).size = 1 := rfl; omega)
          have had2 : ∀ W, (Op.stringOp .add (xs[k].extract 0 d ++ ⟨#[byteAt xs[b] d]⟩) (xs[k].extract (d + 1) xs[k].size)).run Try.prog W = .ok (.string (setAt xs[k] d (byteAt xs[b] d))) W := fun W => by
            rw [← setAt_parts (HRW.out k hlt) (byteAt xs[b] d)]
            exact run_string_add_sum (P := Try.prog) (w := W) _ _ (by omega)
          clear hz hz2 hv HTK h1 h2
          generalize byteAt xs[b] d = cc at *
          generalize xs[k].extract 0 d = pre at *
          generalize xs[k].extract (d + 1) xs[k].size = post at *
          generalize pre ++ (⟨#[cc]⟩ : ByteArray) = half at *
          generalize setAt xs[k] d cc = whole at *
          generalize xs[a] = sa at *
          generalize xs[b] = sb at *
          generalize xs[k] = sk at *
          go_wp2_with fail
          go_region_held3 (fun w' => w'.cell? ⟨g, off + k, none⟩ = some (.string sk)) (go_simp) (first | (refine step_append_lies _ rfl _ _ 23 rfl 0 9 u0 (.string ⟨#[]⟩) 1 16 Try.underlying23 HU.out.1 HU.out.2.1 HU.out.2.2.1 HU.out.2.2.2 rfl (by decide) (.slice wa n wc) n ((ys.take k).map Value.string) rfl ((O2.out.row 0 (by simp) rfl).alloc _) ⟨wr.heap.size, 0, none⟩ 1 1 [.string whole] rfl rfl (cellRD _ _ _) (by simp [Value.oneCell']) (by omega) (by unfold maxLen; omega) (by omega) (Nat.zero_le _) _ rfl ?_; intro g9 cp w6 hown hgrow hat hlt3; have O5 := Lib.hid (O2.out.push (i := 0) (by simp) rfl (grown_undrew hgrow) hown hat); clear hown hgrow hat hlt3; have xk := XK.out _ O5.out.keep))
          clear xk
          go_wp2_with fail
          go_roundw
          case rel => exact ⟨k + 1, n + 1, by omega, by go_num, Lib.hid (by rw [HN.out]), by have := HN.out; omega, by rw [HV.out]; exact O5.out⟩
          case measure => simp [intOf]; omega
        · have h1' : ((k : Int) == (a : Int)) = false := by simp; omega
          have hv : (if k = b then byteAt xs[a] d else if k = a then byteAt xs[b] d else byteAt xs[k] d) = byteAt xs[k] d := by rw [if_neg h2, if_neg h1]
          have HV := Lib.hid (show (ys.take (k + 1)).map Value.string = (ys.take k).map Value.string ++ [Value.string (setAt xs[k] d (byteAt xs[k] d))] by rw [HTK.out, hv])
          have hz : (xs[k].extract 0 d).size ≤ 12 ∧ (xs[k].extract (d + 1) xs[k].size).size ≤ 12 := by
            rw [ByteArray.size_extract, ByteArray.size_extract]; omega
          have hz2 : (xs[k].extract 0 d ++ ⟨#[byteAt xs[k] d]⟩).size ≤ 13 := by
            rw [ByteArray.size_append, ByteArray.size_extract]
            have : (⟨#[byteAt xs[k] d]⟩ : ByteArray).size = 1 := rfl
            omega
          have had1 : ∀ W, (Op.stringOp .add (xs[k].extract 0 d) ⟨#[byteAt xs[k] d]⟩).run Try.prog W = .ok (.string (xs[k].extract 0 d ++ ⟨#[byteAt xs[k] d]⟩)) W := fun W => run_string_add_sum (P := Try.prog) (w := W) _ _ (by have : (⟨#[byteAt xs[k] d]⟩ : ByteArray).size = 1 := rfl; omega)
          have had2 : ∀ W, (Op.stringOp .add (xs[k].extract 0 d ++ ⟨#[byteAt xs[k] d]⟩) (xs[k].extract (d + 1) xs[k].size)).run Try.prog W = .ok (.string (setAt xs[k] d (byteAt xs[k] d))) W := fun W => by
            rw [← setAt_parts (HRW.out k hlt) (byteAt xs[k] d)]
            exact run_string_add_sum (P := Try.prog) (w := W) _ _ (by omega)
          clear hz hz2 hv HTK h1 h2
          generalize byteAt xs[k] d = cc at *
          generalize xs[k].extract 0 d = pre at *
          generalize xs[k].extract (d + 1) xs[k].size = post at *
          generalize pre ++ (⟨#[cc]⟩ : ByteArray) = half at *
          generalize setAt xs[k] d cc = whole at *
          generalize xs[a] = sa at *
          generalize xs[b] = sb at *
          generalize xs[k] = sk at *
          go_wp2_with fail
          go_region_held3 (fun w' => w'.cell? ⟨g, off + k, none⟩ = some (.string sk)) (go_simp) (first | (refine step_append_lies _ rfl _ _ 23 rfl 0 9 u0 (.string ⟨#[]⟩) 1 16 Try.underlying23 HU.out.1 HU.out.2.1 HU.out.2.2.1 HU.out.2.2.2 rfl (by decide) (.slice wa n wc) n ((ys.take k).map Value.string) rfl ((O2.out.row 0 (by simp) rfl).alloc _) ⟨wr.heap.size, 0, none⟩ 1 1 [.string whole] rfl rfl (cellRD _ _ _) (by simp [Value.oneCell']) (by omega) (by unfold maxLen; omega) (by omega) (Nat.zero_le _) _ rfl ?_; intro g9 cp w6 hown hgrow hat hlt3; have O5 := Lib.hid (O2.out.push (i := 0) (by simp) rfl (grown_undrew hgrow) hown hat); clear hown hgrow hat hlt3; have xk := XK.out _ O5.out.keep))
          clear xk
          go_wp2_with fail
          go_roundw
          case rel => exact ⟨k + 1, n + 1, by omega, by go_num, Lib.hid (by rw [HN.out]), by have := HN.out; omega, by rw [HV.out]; exact O5.out⟩
          case measure => simp [intOf]; omega
    · obtain rfl : k = xs.length := by omega
      have HF : Hid (wr.ownsRow w.heap.size 9 1 (.slice wa n wc) xs.length (ys.map Value.string)) := by
        have h1 := ownsRow_base (O2.out.row 0 (by simp) rfl) (B := w.heap.size) (fun j e => Nat.le_trans B1.out.size ((O2.out.ap.ltAt 0 (by simp)) j e).1)
        rw [HALL.out, HN.out] at h1
        rw [HN.out]
        exact Lib.hid h1
      clear hO
      go_wp2_with fail
      go_ret2
      exact ⟨_, rfl, HF.out, B1.out.trans (O2.out.keep.mono B1.out.size)⟩

set_option maxHeartbeats 1600000 in
theorem specSwap_any (v : Value) (xs : List ByteArray) (hwf : Short xs) (d a b : Int) (w : World) (h : IsStrs w v xs) :
    Calls Try.prog 15 #[v, .int .i64 d, .int .i64 a, .int .i64 b] w (ExP (swapd xs d a b) (swapOk xs d a b) w) := by
  cases hx : swapOk xs d a b with
  | true =>
    obtain ⟨h1, h2, h3, h4, h5⟩ := swapOk_iff.1 hx
    obtain ⟨nd, rfl⟩ := Int.eq_ofNat_of_zero_le h2.1
    obtain ⟨na, rfl⟩ := Int.eq_ofNat_of_zero_le h4.1
    obtain ⟨nb, rfl⟩ := Int.eq_ofNat_of_zero_le h5.1
    refine (specSwap_yes v xs hwf nd na nb w h h1 (by omega) (by omega) (by omega) (by omega)).mono ?_
    rintro e w' ⟨u, rfl, ho, hb⟩
    rw [swapd_yes hx]
    exact ⟨u, rfl, by rw [swapTo_length]; exact ho, hb⟩
  | false =>
    rw [swapd_no hx]
    have HE : Hid (∀ W : World, Below w.heap.size w W → ExP [] false w (.returned (.tuple #[.slice (some ⟨W.heap.size, 0, none⟩) 0 0, .bool false])) (W.alloc (.cells #[] 9))) :=
      Lib.hid (fun W hb => ⟨_, rfl, World.ownsRow_made W #[] 0 hb.size (Nat.zero_le _) rfl, hb.alloc hb.size _⟩)
    have HR := Lib.hid (specRosterOk_any v xs hwf w h)
    obtain ⟨ad, cap, rfl, hcp, hmx⟩ := h.form
    cases hr : rosterOk xs with
    | false =>
      rw [hr] at HR
      clear hx h hwf
      go_enter Try.func15, Try.ntmps15
      go_wp2_with fail
      refine HR.out.mono ?_
      rintro e w1 ⟨rfl, hb1⟩
      go_wp2_with fail
      go_ret2
      exact HE.out _ hb1
    | true =>
      rw [hr] at HR
      obtain ⟨hn1, hn4, hd12, hall⟩ := rosterOk_iff.1 hr
      have h0 : 0 < xs.length := by omega
      have hs0d : xs[0].size = daysOf xs := (daysOf_get h0).symm
      obtain ⟨g, off, rfl, hg, hc⟩ := h.at (by omega)
      have hc0 := hc 0 h0
      have HC := Lib.hid (fun W (hb : Below w.heap.size w W) => (hb.cell (p := ⟨g, off, none⟩) hg).trans hc0)
      have hs12 : xs[0].size ≤ 12 := by omega
      have HDAY := Lib.hid (fun W => l1In_any d 0 ((xs[0].size : Int) - 1) W)
      have HIN := Lib.hid (fun p W => l1In_any p 0 ((xs.length : Int) - 1) W)
      have HX : Hid ((decide (0 ≤ d) && decide (d ≤ (xs[0].size : Int) - 1)) = true → (decide (0 ≤ a) && decide (a ≤ (xs.length : Int) - 1)) = true → (decide (0 ≤ b) && decide (b ≤ (xs.length : Int) - 1)) = true → (a == b) = true) := by
        have : (decide (0 ≤ d) && decide (d ≤ (xs[0].size : Int) - 1)) = true → (decide (0 ≤ a) && decide (a ≤ (xs.length : Int) - 1)) = true → (decide (0 ≤ b) && decide (b ≤ (xs.length : Int) - 1)) = true → (a == b) = true := fun h1 h2 h3 => by
          simp only [Bool.and_eq_true, decide_eq_true_eq] at h1 h2 h3
          by_cases e : a = b
          · simp [e]
          · have := swapOk_iff.2 ⟨hr, ⟨h1.1, by omega⟩, e, ⟨h2.1, by omega⟩, ⟨h3.1, by omega⟩⟩
            rw [hx] at this; cases this
        exact Lib.hid this
      clear h hwf hc hc0 hx hall hr hs0d
      generalize xs[0] = s0 at *
      generalize (decide (0 ≤ d) && decide (d ≤ (s0.size : Int) - 1)) = bd at HDAY HX
      cases bd with
      | false =>
        clear HX
        go_enter Try.func15, Try.ntmps15
        go_wp2_with fail
        refine HR.out.mono ?_
        rintro e w1 ⟨rfl, hb1⟩
        have c1 := HC.out _ hb1
        go_wp2_with fail
        refine (HDAY.out w1).mono ?_
        rintro e w' ⟨rfl, rfl⟩
        go_wp2_with fail
        go_ret2
        exact HE.out _ hb1
      | true =>
        have HA := Lib.hid (HIN.out a)
        have HB := Lib.hid (HIN.out b)
        generalize (decide (0 ≤ a) && decide (a ≤ (xs.length : Int) - 1)) = ba at HA HX
        cases ba with
        | false =>
          clear HX HB
          go_enter Try.func15, Try.ntmps15
          go_wp2_with fail
          refine HR.out.mono ?_
          rintro e w1 ⟨rfl, hb1⟩
          have c1 := HC.out _ hb1
          go_wp2_with fail
          refine (HDAY.out w1).mono ?_
          rintro e w' ⟨rfl, rfl⟩
          go_wp2_with fail
          refine (HA.out w1).mono ?_
          rintro e w' ⟨rfl, rfl⟩
          go_wp2_with fail
          go_ret2
          exact HE.out _ hb1
        | true =>
          generalize (decide (0 ≤ b) && decide (b ≤ (xs.length : Int) - 1)) = bb at HB HX
          cases bb with
          | false =>
            clear HX
            go_enter Try.func15, Try.ntmps15
            go_wp2_with fail
            refine HR.out.mono ?_
            rintro e w1 ⟨rfl, hb1⟩
            have c1 := HC.out _ hb1
            go_wp2_with fail
            refine (HDAY.out w1).mono ?_
            rintro e w' ⟨rfl, rfl⟩
            go_wp2_with fail
            refine (HA.out w1).mono ?_
            rintro e w' ⟨rfl, rfl⟩
            go_wp2_with fail
            refine (HB.out w1).mono ?_
            rintro e w' ⟨rfl, rfl⟩
            go_wp2_with fail
            go_ret2
            exact HE.out _ hb1
          | true =>
            have hne := HX.out rfl rfl rfl
            clear HX
            go_enter Try.func15, Try.ntmps15
            go_wp2_with fail
            refine HR.out.mono ?_
            rintro e w1 ⟨rfl, hb1⟩
            have c1 := HC.out _ hb1
            go_wp2_with fail
            refine (HDAY.out w1).mono ?_
            rintro e w' ⟨rfl, rfl⟩
            go_wp2_with fail
            refine (HA.out w1).mono ?_
            rintro e w' ⟨rfl, rfl⟩
            go_wp2_with fail
            refine (HB.out w1).mono ?_
            rintro e w' ⟨rfl, rfl⟩
            go_wp2_with fail
            go_ret2
            exact HE.out _ hb1
end Go.Proofs.Ytggohgkjdnnndaa
