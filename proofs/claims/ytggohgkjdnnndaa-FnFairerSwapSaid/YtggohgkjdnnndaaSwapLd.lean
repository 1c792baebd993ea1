/- LoadsOf of the program and of the model: what they return, for every argument. No condition. -/
import Derived.Test.YtggohgkjdnnndaaSwapAl
import Derived.Test.YtggohgkjdnnndaaSwapLoad
import Derived.Test.YtggohgkjdnnndaaCopies
namespace Go.Proofs.Ytggohgkjdnnndaa
open Go.RowKit

theorem count_bdL {xs : List ByteArray} {t : ByteArray} (h : rosterOk xs = true) (g : letterOk t = true) (k : Nat) (hk : k < xs.length) : 0 ≤ countOf xs[k] t ∧ countOf xs[k] t ≤ 12 := by
  have := loadRow_bd h g (countOf xs[k] t) (List.mem_map.2 ⟨xs[k], List.getElem_mem hk, rfl⟩)
  exact this
theorem short_row {xs : List ByteArray} (h : rosterOk xs = true) (k : Nat) (hk : k < xs.length) : xs[k].size ≤ maxLen := by
  have h1 := roster_row h k hk
  have := (rosterOk_iff.1 h).2.2.1
  unfold maxLen; omega
theorem load_snoc {xs : List ByteArray} {t : ByteArray} (k : Nat) (h : k < xs.length) : ((loadRow xs t).take (k + 1)).map (Value.int .i64) = ((loadRow xs t).take k).map (Value.int .i64) ++ [Value.int .i64 (countOf xs[k] t)] := by
  rw [loadRow_snoc xs t k h, List.map_append]; rfl

set_option maxHeartbeats 3200000 in
theorem implLoads_any (v : Value) (xs : List ByteArray) (hx : Short xs) (t : ByteArray) (ht : t.size ≤ maxLen) (w : World) (h : IsStrs w v xs) :
    Calls Try.prog 28 #[v, .string t] w (CopyPost (loadsFor xs t) w) := by
  have HR := Lib.hid (implRosterOk_any v xs hx w h)
  have HL := Lib.hid (fun W => implLetterOk_any t W ht)
  have HNO : Hid (∀ w', loadsFor xs t = [] → Below w.heap.size w w' → CopyPost (loadsFor xs t) w (.returned (.slice none 0 0)) w') := by
    have : ∀ w', loadsFor xs t = [] → Below w.heap.size w w' → CopyPost (loadsFor xs t) w (.returned (.slice none 0 0)) w' := fun w' e hb => ⟨_, rfl, by rw [e]; exact World.ownsRow_nil _ _ _ _, hb⟩
    exact Lib.hid this
  obtain ⟨a, c, rfl, hc1, hm1⟩ := h.form
  cases hr : rosterOk xs with
  | false =>
    rw [hr] at HR
    have HE := Lib.hid (loadsFor_no1 (t := t) hr)
    clear h hx ht hr
    go_enter Try.func28, Try.ntmps28
    go_wp2_with fail
    refine HR.out.mono ?_
    rintro e w1 ⟨rfl, hb1⟩
    go_wp2_with fail
    go_ret
    exact HNO.out _ HE.out hb1
  | true =>
    rw [hr] at HR
    cases hl : letterOk t with
    | false =>
      rw [hl] at HL
      have HE := Lib.hid (loadsFor_no2 (xs := xs) hl)
      clear h hx ht hr hl
      go_enter Try.func28, Try.ntmps28
      go_wp2_with fail
      refine HR.out.mono ?_
      rintro e w1 ⟨rfl, hb1⟩
      go_wp2_with fail
      refine (HL.out w1).mono ?_
      rintro e w' ⟨rfl, rfl⟩
      go_wp2_with fail
      go_ret
      exact HNO.out _ HE.out hb1
    | true =>
      rw [hl] at HL
      have HE := Lib.hid (loadsFor_yes hr hl)
      have h10 := (rosterOk_iff.1 hr).1
      have h14 := (rosterOk_iff.1 hr).2.1
      have HRR := Lib.hid hr
      have HTT := Lib.hid ht
      have HLL := Lib.hid hl
      obtain ⟨g, o, rfl, hg, hd⟩ := h.at (by omega)
      have HDC := Lib.hid hd
      have HG := Lib.hid hg
      obtain ⟨u0, hu, hz0, hz1, hz2⟩ := info_parts infoIntC
      have HU := Lib.hid (And.intro hu (And.intro hz0 (And.intro hz1 hz2)))
      clear h hx ht hr hl hg hd hu hz0 hz1 hz2 HNO
      go_enter Try.func28, Try.ntmps28
      go_wp2_with fail
      refine HR.out.mono ?_
      rintro e w1 ⟨rfl, hb1⟩
      have B1 := Lib.hid hb1
      clear hb1
      go_wp2_with fail
      refine (HL.out w1).mono ?_
      rintro e w' ⟨rfl, rfl⟩
      have O1 := Lib.hid ((Own.nil w1).idle 3)
      go_wp2_with fail
      go_loopw [5, 7, 18] (fun lv rv iv wr => ∃ (k n : Nat), k ≤ xs.length ∧ iv = .int .i64 (k : Int) ∧ Hid (n = k) ∧ n ≤ 4 ∧ Own w1 [rowT 3 1 lv n (((loadRow xs t).take k).map (Value.int .i64))] wr) (fun _ _ iv _ => xs.length - (intOf iv).toNat)
      case atStart => exact ⟨0, 0, Nat.zero_le _, rfl, Lib.hid rfl, Nat.zero_le _, O1.out⟩
      case round =>
        obtain ⟨k, n, hk, rfl, HN, hn, hO⟩ := hrel
        obtain ⟨wa, wc, rfl⟩ := ownsRow_sliceR (hO.row 0 (by simp) rfl)
        have O2 := Lib.hid hO
        clear hO
        by_cases hlt : k < xs.length
        · have xk := ((B1.out.trans (O2.out.keep.mono B1.out.size)).cell (p := ⟨g, o + k, none⟩) HG.out).trans (HDC.out k hlt)
          have HCO := Lib.hid (fun W => implCountOf_any xs[k] t W (short_row HRR.out k hlt) HTT.out)
          have HS := Lib.hid (load_snoc (t := t) k hlt)
          have HN4 := Lib.hid (show n + 1 ≤ 4 by have := HN.out; omega)
          generalize countOf xs[k] t = cc at *
          generalize xs[k] = sx at *
          have hki : (k : Int) < (xs.length : Int) := by omega
          go_wp2_with fail
          refine (HCO.out _).mono ?_
          rintro e w2 ⟨rfl, hb2⟩
          have O3 := Lib.hid (O2.out.below hb2)
          clear hb2 xk
          go_wp2_with (at_builtin; refine wpList_append_lies _ rfl _ _ 40 rfl 0 3 u0 (.int .i64 0) 1 8 Try.underlying40 HU.out.1 HU.out.2.1 HU.out.2.2.1 HU.out.2.2.2 rfl (by decide) (.slice wa n wc) n (((loadRow xs t).take k).map (Value.int .i64)) rfl ((O3.out.row 0 (by simp) rfl).alloc _) ⟨w2.heap.size, 0, none⟩ 1 1 [.int .i64 cc] rfl rfl (cellRD _ _ _) (by simp [Value.oneCell']) (by omega) (by unfold maxLen; omega) (by omega) (Nat.zero_le _) _ rfl ?_; intro g9 cp w6 hown hgrow hat hlt3; have O5 := Lib.hid (O3.out.push (i := 0) (by simp) rfl hgrow hown hat); clear hown hgrow hat hlt3)
          go_roundw
          case rel => exact ⟨k + 1, n + 1, by omega, by go_num, Lib.hid (by rw [HN.out]), HN4.out, by rw [HS.out]; exact O5.out⟩
          case measure => simp [intOf]; omega
        · obtain rfl : k = xs.length := by omega
          have HF : Hid (CopyPost (loadsFor xs t) w (.returned (.slice wa n wc)) wr) := by
            have h1 := ownsRow_base (O2.out.row 0 (by simp) rfl) (B := w.heap.size) (fun j e => Nat.le_trans B1.out.size ((O2.out.ap.ltAt 0 (by simp)) j e).1)
            have h2 : (loadRow xs t).take xs.length = loadRow xs t := List.take_of_length_le (by rw [loadRow_length]; exact Nat.le_refl _)
            rw [h2] at h1
            have h3 : (loadRow xs t).length = n := by rw [loadRow_length, HN.out]
            have : CopyPost (loadsFor xs t) w (.returned (.slice wa n wc)) wr := ⟨_, rfl, by rw [HE.out, h3]; exact h1, B1.out.trans (O2.out.keep.mono B1.out.size)⟩
            exact Lib.hid this
          go_wp2_with fail
          go_ret
          exact HF.out

set_option maxHeartbeats 3200000 in
theorem specLoads_any (v : Value) (xs : List ByteArray) (hx : Short xs) (t : ByteArray) (w : World) (h : IsStrs w v xs) :
    Calls Try.prog 30 #[v, .string t] w (CopyPost (loadsFor xs t) w) := by
  have H := Lib.hid h
  have HR := Lib.hid (fun W hI => specRosterOk_any v xs hx W hI)
  have HL := Lib.hid (fun W => specLetterOk_any t W)
  have O1 := Lib.hid ((Own.nil w).lit 3 #[] 0 rfl (Nat.zero_le _))
  have HNO : Hid (∀ W, loadsFor xs t = [] → Own w [rowT 3 1 (.slice (some ⟨w.heap.size, 0, none⟩) 0 0) 0 []] W → CopyPost (loadsFor xs t) w (.returned (.slice (some ⟨w.heap.size, 0, none⟩) 0 0)) W) := by
    have : ∀ W, loadsFor xs t = [] → Own w [rowT 3 1 (.slice (some ⟨w.heap.size, 0, none⟩) 0 0) 0 []] W → CopyPost (loadsFor xs t) w (.returned (.slice (some ⟨w.heap.size, 0, none⟩) 0 0)) W := fun W e hO => ⟨_, rfl, by rw [e]; exact ownsRow_base (hO.row 0 (by simp) rfl) (B := w.heap.size) (fun j e => ((hO.ap.ltAt 0 (by simp)) j e).1), hO.keep⟩
    exact Lib.hid this
  obtain ⟨a, c, rfl, hc1, hm1⟩ := h.form
  cases hr : rosterOk xs with
  | false =>
    rw [hr] at HR
    have HE := Lib.hid (loadsFor_no1 (t := t) hr)
    clear h hx hr
    go_enter Try.func30, Try.ntmps30
    go_wp2_with fail
    go_loopw [5, 6] (fun ov iv wr => iv = .int .i64 0 ∧ ov = .slice (some ⟨w.heap.size, 0, none⟩) 0 0 ∧ wr = w.alloc (.cells #[] 3)) (fun _ _ _ => 0)
    case atStart => exact ⟨rfl, rfl, rfl⟩
    case round =>
      obtain ⟨rfl, rfl, rfl⟩ := hrel
      by_cases h0 : (0 : Int) < (xs.length : Int)
      · go_wp2_with fail
        refine (HR.out _ (H.out.below O1.out.keep)).mono ?_
        rintro e w1 ⟨rfl, hb1⟩
        have O2 := Lib.hid (O1.out.below hb1)
        clear hb1
        go_wp2_with fail
        go_ret
        exact HNO.out _ HE.out O2.out
      · go_wp2_with fail
        go_ret
        exact HNO.out _ HE.out O1.out
  | true =>
    rw [hr] at HR
    have h10 := (rosterOk_iff.1 hr).1
    have h14 := (rosterOk_iff.1 hr).2.1
    cases hl : letterOk t with
    | false =>
      rw [hl] at HL
      have HE := Lib.hid (loadsFor_no2 (xs := xs) hl)
      have h0 : (0 : Int) < (xs.length : Int) := by omega
      clear h hx hr hl
      go_enter Try.func30, Try.ntmps30
      go_wp2_with fail
      go_loopw [5, 6] (fun ov iv wr => iv = .int .i64 0 ∧ ov = .slice (some ⟨w.heap.size, 0, none⟩) 0 0 ∧ wr = w.alloc (.cells #[] 3)) (fun _ _ _ => 0)
      case atStart => exact ⟨rfl, rfl, rfl⟩
      case round =>
        obtain ⟨rfl, rfl, rfl⟩ := hrel
        go_wp2_with fail
        refine (HR.out _ (H.out.below O1.out.keep)).mono ?_
        rintro e w1 ⟨rfl, hb1⟩
        have O2 := Lib.hid (O1.out.below hb1)
        clear hb1
        go_wp2_with fail
        refine (HL.out w1).mono ?_
        rintro e w' ⟨rfl, rfl⟩
        go_wp2_with fail
        go_ret
        exact HNO.out _ HE.out O2.out
    | true =>
      rw [hl] at HL
      have HE := Lib.hid (loadsFor_yes hr hl)
      have HRR := Lib.hid hr
      obtain ⟨g, o, rfl, hg, hd⟩ := h.at (by omega)
      have HDC := Lib.hid hd
      have HG := Lib.hid hg
      obtain ⟨u0, hu, hz0, hz1, hz2⟩ := info_parts infoIntC
      have HU := Lib.hid (And.intro hu (And.intro hz0 (And.intro hz1 hz2)))
      clear h hx hr hl hg hd hu hz0 hz1 hz2 HNO
      go_enter Try.func30, Try.ntmps30
      go_wp2_with fail
      go_loopw [5, 6] (fun lv iv wr => ∃ (k n : Nat), k ≤ xs.length ∧ iv = .int .i64 (k : Int) ∧ Hid (n = k) ∧ n ≤ 4 ∧ Own w [rowT 3 1 lv n (((loadRow xs t).take k).map (Value.int .i64))] wr) (fun _ iv _ => xs.length - (intOf iv).toNat)
      case atStart => exact ⟨0, 0, Nat.zero_le _, rfl, Lib.hid rfl, Nat.zero_le _, O1.out⟩
      case round =>
        obtain ⟨k, n, hk, rfl, HN, hn, hO⟩ := hrel
        obtain ⟨wa, wc, rfl⟩ := ownsRow_sliceR (hO.row 0 (by simp) rfl)
        have O2 := Lib.hid hO
        clear hO
        by_cases hlt : k < xs.length
        · have xk := fun W (hb : Below w.heap.size w W) => (hb.cell (p := ⟨g, o + k, none⟩) HG.out).trans (HDC.out k hlt)
          have XK := Lib.hid xk
          have HCO := Lib.hid (fun W => specCountOf_any xs[k] t W (short_row HRR.out k hlt))
          have HS := Lib.hid (load_snoc (t := t) k hlt)
          have HN4 := Lib.hid (show n + 1 ≤ 4 by have := HN.out; omega)
          clear xk
          generalize countOf xs[k] t = cc at *
          generalize xs[k] = sx at *
          have hki : (k : Int) < (xs.length : Int) := by omega
          go_wp2_with fail
          refine (HR.out _ (H.out.below O2.out.keep)).mono ?_
          rintro e w1 ⟨rfl, hb1⟩
          have O3 := Lib.hid (O2.out.below hb1)
          clear hb1
          have xk := XK.out _ O3.out.keep
          go_wp2_with fail
          refine (HL.out w1).mono ?_
          rintro e w' ⟨rfl, rfl⟩
          go_wp2_with fail
          refine (HCO.out _).mono ?_
          rintro e w2 ⟨rfl, hb2⟩
          have O4 := Lib.hid (O3.out.below hb2)
          clear hb2 xk
          go_wp2_with (at_builtin; refine wpList_append_lies _ rfl _ _ 40 rfl 0 3 u0 (.int .i64 0) 1 8 Try.underlying40 HU.out.1 HU.out.2.1 HU.out.2.2.1 HU.out.2.2.2 rfl (by decide) (.slice wa n wc) n (((loadRow xs t).take k).map (Value.int .i64)) rfl ((O4.out.row 0 (by simp) rfl).alloc _) ⟨w2.heap.size, 0, none⟩ 1 1 [.int .i64 cc] rfl rfl (cellRD _ _ _) (by simp [Value.oneCell']) (by omega) (by unfold maxLen; omega) (by omega) (Nat.zero_le _) _ rfl ?_; intro g9 cp w6 hown hgrow hat hlt3; have O5 := Lib.hid (O4.out.push (i := 0) (by simp) rfl hgrow hown hat); clear hown hgrow hat hlt3)
          go_roundw
          case rel => exact ⟨k + 1, n + 1, by omega, by go_num, Lib.hid (by rw [HN.out]), HN4.out, by rw [HS.out]; exact O5.out⟩
          case measure => simp [intOf]; omega
        · obtain rfl : k = xs.length := by omega
          have HF : Hid (CopyPost (loadsFor xs t) w (.returned (.slice wa n wc)) wr) := by
            have h1 := ownsRow_base (O2.out.row 0 (by simp) rfl) (B := w.heap.size) (fun j e => ((O2.out.ap.ltAt 0 (by simp)) j e).1)
            have h2 : (loadRow xs t).take xs.length = loadRow xs t := List.take_of_length_le (by rw [loadRow_length]; exact Nat.le_refl _)
            rw [h2] at h1
            have h3 : (loadRow xs t).length = n := by rw [loadRow_length, HN.out]
            have : CopyPost (loadsFor xs t) w (.returned (.slice wa n wc)) wr := ⟨_, rfl, by rw [HE.out, h3]; exact h1, O2.out.keep⟩
            exact Lib.hid this
          go_wp2_with fail
          go_ret
          exact HF.out
end Go.Proofs.Ytggohgkjdnnndaa
