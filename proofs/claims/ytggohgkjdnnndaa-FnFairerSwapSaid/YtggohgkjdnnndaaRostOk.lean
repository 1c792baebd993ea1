/- RosterOk and NeedsOk of the program and of the model: what each returns, for every argument. No condition. -/
import Derived.Test.YtggohgkjdnnndaaStrLaw
import Derived.Test.YtggohgkjdnnndaaRostMath
import Derived.Test.YtggohgkjdnnndaaShelfS
import Derived.Test.YtggohgkjdnnndaaRolled
import Derived.Deep.RegionWith
import Derived.Deep.QuietTactic
import Derived.BigQuiet
import Derived.OpenShut
namespace Go.Proofs.Ytggohgkjdnnndaa
open Go.RowKit

theorem l1In_sameR (n lo hi : Int) (w : World) :
    Calls Try.prog 51 #[.int .i64 n, .int .i64 lo, .int .i64 hi] w fun e w' => e = .returned (.bool (decide (lo ≤ n) && decide (n ≤ hi))) ∧ w' = w := (l1In_any n lo hi w).mono fun _ _ ⟨h, g⟩ => ⟨h, g.symm⟩
theorem drewN_zero (w : World) : w = w.drewN 0 := rfl

set_option maxHeartbeats 800000 in
theorem rowBad_any (d : Nat) (hd : d ≤ 12) (a : Addr) (W : World) (x : ByteArray) (hc : W.cell? a = some (.int .i64 (d : Int))) :
    Calls Try.prog 61 #[.string x, .pointer (some a)] W fun e w' => e = .returned (.bool (!rowFits d x)) ∧ ∃ q, w' = W.drewN q := by
  by_cases hx : x.size = d
  · have hne : ((x.size : Int) != (d : Int)) = false := by simp [hx]
    have HR : Hid (rowFits d x = wordOk x) := by
      have : rowFits d x = wordOk x := by simp [rowFits, hx]
      exact Lib.hid this
    have hm : x.size ≤ maxLen := by unfold maxLen; omega
    clear hx
    go_enter Try.func61, Try.ntmps61
    go_wp2_with (go_at_call 52; refine (implWordOk_any _ _ hm).mono ?_; rintro e w' ⟨rfl, rfl⟩)
    go_ret
    exact ⟨ret_bool (by rw [HR.out]), 0, rfl⟩
  · have hne : ((x.size : Int) != (d : Int)) = true := by simp; omega
    have HR : Hid (rowFits d x = false) := by
      have : rowFits d x = false := by simp [rowFits, hx]
      exact Lib.hid this
    clear hx
    go_enter Try.func61, Try.ntmps61
    go_wp2
    go_ret
    exact ⟨ret_bool (by rw [HR.out]; rfl), 0, rfl⟩
theorem contS_any (v : Value) (xs : List ByteArray) (d : Nat) (hd : d ≤ 12) (b : Nat) (w : World) (h : IsStrs w v xs) (h1 : 1 ≤ xs.length) (h4 : xs.length ≤ 4) (hb : b < w.heap.size) (hc : w.cell? ⟨b, 0, none⟩ = some (.int .i64 (d : Int))) :
    Calls Try.prog 60 #[v, .func (.func 61) #[] #[.pointer (some ⟨b, 0, none⟩)]] w fun e w' => e = .returned (.bool (!xs.all (rowFits d))) ∧ ∃ n, w' = w.drewN n := by
  obtain ⟨a, cap, rfl, ha1, ha2, ha⟩ := h
  have eg : ∀ args w, (callFunc 61 args).run Try.prog w = .ok (.enter 61 args) w := enters_of Try.func61 (by kernel_rfl) rfl
  obtain ⟨g, off, rfl, hg, hcc⟩ := ha.resolve_left (fun e => by rw [e] at h1; exact absurd h1 (by decide))
  refine (AnyE.slices_ContainsFunc shContS_lays Value.string (fun x => !rowFits d x) 61 #[.pointer (some ⟨b, 0, none⟩)] eg g off xs.length cap xs w (fun W x hW => rowBad_any d hd _ W x ((hW.cell (p := ⟨b, 0, none⟩) hb).trans hc)) (Nat.le_refl _) (by omega) (fun j hj => by rw [hcc j hj]; simp [hj])).mono ?_
  rintro e w' ⟨rfl, q, rfl⟩
  refine ⟨ret_bool ?_, q, rfl⟩
  rw [List.take_length, List.not_all_eq_any_not]

set_option maxHeartbeats 1600000 in
theorem implRosterOk_any (v : Value) (xs : List ByteArray) (hwf : Short xs) (w : World) (h : IsStrs w v xs) :
    Calls Try.prog 21 #[v] w fun e w' => e = .returned (.bool (rosterOk xs)) ∧ Below w.heap.size w w' := by
  have H := Lib.hid h
  obtain ⟨a, cap, rfl, ha1, ha2, ha⟩ := h
  unfold maxLen at ha2
  by_cases h1 : xs.length < 1
  · have HS := Lib.hid (rosterOk_short h1)
    clear ha
    go_enter Try.func21, Try.ntmps21
    go_wp2
    go_ret
    exact ⟨ret_bool HS.out.symm, by first | exact Below.refl _ _ | exact Go.Joins.below_alloc1 _ _⟩
  · by_cases h4 : 4 < xs.length
    · have HS := Lib.hid (rosterOk_long h4)
      clear ha
      go_enter Try.func21, Try.ntmps21
      go_wp2
      go_ret
      exact ⟨ret_bool HS.out.symm, by first | exact Below.refl _ _ | exact Go.Joins.below_alloc1 _ _⟩
    · obtain ⟨g, off, rfl, hg, hc⟩ := ha.resolve_left (fun h => by rw [h] at h1; exact h1 (by decide))
      have h0 : 0 < xs.length := by omega
      have c0 : w.cell? ⟨g, off, none⟩ = some (.string xs[0]) := hc 0 h0
      have hsz : xs[0].size ≤ 9223372036854775807 := by have := hwf xs[0] (List.getElem_mem h0); unfold maxLen at this; exact this
      have HD := Lib.hid (daysOf_get h0)
      have HLong : Hid (12 < daysOf xs → rosterOk xs = false) := Lib.hid rosterOk_days
      have HRest : Hid (daysOf xs ≤ 12 → rosterOk xs = xs.all (rowFits (daysOf xs))) := Lib.hid (rosterOk_rest (by omega) (by omega))
      have HCF : Hid (∀ (d : Nat), d ≤ 12 → ∀ (b : Nat) (W : World), IsStrs W (.slice (some ⟨g, off, none⟩) xs.length cap) xs → b < W.heap.size → W.cell? ⟨b, 0, none⟩ = some (.int .i64 (d : Int)) → Calls Try.prog 60 #[.slice (some ⟨g, off, none⟩) xs.length cap, .func (.func 61) #[] #[.pointer (some ⟨b, 0, none⟩)]] W fun e w' => e = .returned (.bool (!xs.all (rowFits d))) ∧ ∃ n, w' = W.drewN n) :=
        Lib.hid (fun d hd b W hI hb hcl => contS_any _ xs d hd b W hI (by omega) (by omega) hb hcl)
      rw [HD.out] at HLong HRest
      clear hc ha hwf HD
      generalize xs[0] = s0 at *
      by_cases hd : s0.size ≤ 12
      · have HR := Lib.hid (HRest.out hd)
        have HC2 := Lib.hid (HCF.out _ hd)
        clear HLong HRest HCF
        generalize xs.all (rowFits s0.size) = b at HR HC2
        go_enter Try.func21, Try.ntmps21
        go_wp2_with fail
        refine (HC2.out w.heap.size _ (H.out.below (Go.Joins.below_alloc1 _ _)) (by simp) (World.cell?_alloc_new w _ _ 0)).mono ?_
        rintro e w' ⟨rfl, n, rfl⟩
        go_wp2
        go_ret
        exact ⟨ret_bool (by first | (rw [HR.out]; done) | (rw [HR.out]; simp)), below_drewN (Go.Joins.below_alloc1 _ _) n⟩
      · have HR := Lib.hid (HLong.out (by omega))
        clear HLong HRest HCF
        go_enter Try.func21, Try.ntmps21
        go_wp2
        go_ret
        exact ⟨ret_bool HR.out.symm, Go.Joins.below_alloc1 _ _⟩

theorem roster_stop {xs : List ByteArray} (k : Nat) (hk : k < xs.length) (h : ¬ (wordOk xs[k] = true ∧ xs[k].size = daysOf xs ∧ xs[k].size ≤ 12)) : rosterOk xs = false := by
  cases hr : rosterOk xs with
  | false => rfl
  | true =>
    obtain ⟨h1, h2, h3, h4⟩ := rosterOk_iff.1 hr
    obtain ⟨h5, h6⟩ := h4 _ (List.getElem_mem hk)
    exact absurd ⟨h6, h5, by omega⟩ h

set_option maxHeartbeats 3200000 in
theorem specRosterOk_any (v : Value) (xs : List ByteArray) (hwf : Short xs) (w : World) (h : IsStrs w v xs) :
    Calls Try.prog 50 #[v] w fun e w' => e = .returned (.bool (rosterOk xs)) ∧ Below w.heap.size w w' := by
  obtain ⟨a, cap, rfl, ha1, ha2, ha⟩ := h
  unfold maxLen at ha2
  by_cases hin : 1 ≤ xs.length ∧ xs.length ≤ 4
  · have hi : (decide ((1 : Int) ≤ xs.length) && decide ((xs.length : Int) ≤ 4)) = true := by simp; omega
    obtain ⟨g, off, rfl, hg, hc⟩ := ha.resolve_left (fun h => by rw [h] at hin; exact absurd hin.1 (by decide))
    have h0 : 0 < xs.length := by omega
    have hsz0 : xs[0].size ≤ 9223372036854775807 := by have := hwf xs[0] (List.getElem_mem h0); unfold maxLen at this; exact this
    have HWF := Lib.hid hwf
    have HC := Lib.hid hc
    have HD := Lib.hid (daysOf_get h0)
    have HST : Hid (∀ k (hk : k < xs.length), ¬ (wordOk xs[k] = true ∧ xs[k].size = xs[0].size ∧ xs[k].size ≤ 12) → rosterOk xs = false) := by
      have := fun k hk => roster_stop (xs := xs) k hk
      rw [HD.out] at this
      exact Lib.hid this
    have HALL : Hid ((∀ j (hj : j < xs.length), wordOk xs[j] = true ∧ xs[j].size = xs[0].size ∧ xs[j].size ≤ 12) → rosterOk xs = true) := by
      have : (∀ j (hj : j < xs.length), wordOk xs[j] = true ∧ xs[j].size = xs[0].size ∧ xs[j].size ≤ 12) → rosterOk xs = true := fun h => by
        rw [rosterOk_iff, HD.out]
        refine ⟨hin.1, hin.2, (h 0 h0).2.2, fun s hs => ?_⟩
        obtain ⟨j, hj, rfl⟩ := List.mem_iff_getElem.1 hs
        exact ⟨(h j hj).2.1, (h j hj).1⟩
      exact Lib.hid this
    have hc0 := hc 0 h0
    clear hc ha hwf HD hin
    go_enter Try.func50, Try.ntmps50
    go_wp2_with (go_at_call 51; refine (l1In_any _ _ _ _).mono ?_; rintro e w' ⟨rfl, rfl⟩)
    go_loopw [3] (fun i wr => ∃ k : Nat, k ≤ xs.length ∧ i = .int .i64 k ∧ Hid (∀ j (hj : j < xs.length), j < k → wordOk xs[j] = true ∧ xs[j].size = xs[0].size ∧ xs[j].size ≤ 12) ∧ ∃ d, wr = w.drewN d) (fun i _ => xs.length - (intOf i).toNat)
    case atStart => exact ⟨0, Nat.zero_le _, rfl, Lib.hid (fun j _ h => absurd h (Nat.not_lt_zero j)), 0, rfl⟩
    case round =>
      obtain ⟨k, hk, rfl, HA, d, rfl⟩ := hrel
      by_cases hlt : k < xs.length
      · have c0 : (w.drewN d).cell? ⟨g, off, none⟩ = some (.string xs[0]) := hc0
        have ck : (w.drewN d).cell? ⟨g, off + k, none⟩ = some (.string xs[k]) := HC.out k hlt
        have hszk := HWF.out xs[k] (List.getElem_mem hlt)
        have hszk' : xs[k].size ≤ 9223372036854775807 := by unfold maxLen at hszk; exact hszk
        have HSK := Lib.hid (HST.out k hlt)
        have HSZ := Lib.hid hszk
        have HAN : Hid (wordOk xs[k] = true ∧ xs[k].size = xs[0].size ∧ xs[k].size ≤ 12 → ∀ j (hj : j < xs.length), j < k + 1 → wordOk xs[j] = true ∧ xs[j].size = xs[0].size ∧ xs[j].size ≤ 12) := by
          have : wordOk xs[k] = true ∧ xs[k].size = xs[0].size ∧ xs[k].size ≤ 12 → ∀ j (hj : j < xs.length), j < k + 1 → wordOk xs[j] = true ∧ xs[j].size = xs[0].size ∧ xs[j].size ≤ 12 := fun h j hj hjk => by
            by_cases e : j = k
            · subst e; exact h
            · exact HA.out j hj (by omega)
          exact Lib.hid this
        have HW : Hid (∀ q, ∃ d', (w.drewN d).drewN q = w.drewN d') := Lib.hid (fun q => ⟨d + q, by rw [World.drewN_drewN]⟩)
        have HBW := Lib.hid (below_drewN (Below.refl w.heap.size w) d)
        generalize w.drewN d = W at c0 ck HW HBW ⊢
        clear hszk
        generalize xs[k] = s at *
        generalize hx0 : xs[0] = s0 at *
        by_cases hw : wordOk s = true
        · have HWO : Hid (∀ W, Calls Try.prog 75 #[.string s] W fun e w' => e = .returned (.bool true) ∧ w' = W) := Lib.hid (fun W => (specWordOk_any s W HSZ.out).mono fun _ _ ⟨h, g⟩ => ⟨by rw [h, hw], g.symm⟩)
          by_cases hs : s.size = s0.size
          · have hne : ((s.size : Int) != (s0.size : Int)) = false := by simp [hs]
            by_cases h12 : s.size ≤ 12
            · have HN := Lib.hid (HAN.out ⟨hw, hs, h12⟩)
              have hd12 : decide ((12 : Int) < (s.size : Int)) = false := decide_eq_false (by omega)
              clear HSK HAN hs hw
              go_wp2
              go_quiet ((go_at_call 75; exact Calls.quiet_of_same (HWO.out _)))
              go_wp2
              go_roundw
              case rel => exact ⟨k + 1, by omega, by go_num, HN, HW.out _⟩
              case measure => simp [intOf]; omega
            · have HR := Lib.hid (HSK.out (fun h => h12 h.2.2))
              have hd12 : decide ((12 : Int) < (s.size : Int)) = true := decide_eq_true (by omega)
              clear HSK HAN hs hw
              go_wp2
              go_quiet ((go_at_call 75; exact Calls.quiet_of_same (HWO.out _)))
              go_wp2
              go_ret
              exact ⟨ret_bool HR.out.symm, HBW.out.trans (below_drewN (Below.refl _ _) _ |>.mono HBW.out.size)⟩
          · have HR := Lib.hid (HSK.out (fun h => hs h.2.1))
            have hne : ((s.size : Int) != (s0.size : Int)) = true := by simp; omega
            clear HSK HAN hs hw
            go_wp2
            go_quiet ((go_at_call 75; exact Calls.quiet_of_same (HWO.out _)))
            go_wp2
            go_ret
            exact ⟨ret_bool HR.out.symm, HBW.out.trans (below_drewN (Below.refl _ _) _ |>.mono HBW.out.size)⟩
        · have HR := Lib.hid (HSK.out (fun h => hw h.1))
          have hwf : wordOk s = false := by simpa using hw
          have HWO : Hid (∀ W, Calls Try.prog 75 #[.string s] W fun e w' => e = .returned (.bool false) ∧ w' = W) := Lib.hid (fun W => (specWordOk_any s W HSZ.out).mono fun _ _ ⟨h, g⟩ => ⟨by rw [h, hwf], g.symm⟩)
          clear HSK HAN hw hwf
          go_wp2
          go_quiet ((go_at_call 75; exact Calls.quiet_of_same (HWO.out _)))
          go_wp2
          go_ret
          exact ⟨ret_bool HR.out.symm, HBW.out.trans (below_drewN (Below.refl _ _) _ |>.mono HBW.out.size)⟩
      · obtain rfl : k = xs.length := by omega
        have HR := Lib.hid (HALL.out (fun j hj => HA.out j hj hj))
        go_wp2
        go_ret
        exact ⟨ret_bool HR.out.symm, below_drewN (Below.refl _ _) d⟩
  · have hi : (decide ((1 : Int) ≤ xs.length) && decide ((xs.length : Int) ≤ 4)) = false := by simp; omega
    have HR : Hid (rosterOk xs = false) := by
      have : rosterOk xs = false := by
        rcases Nat.lt_or_ge xs.length 1 with h | h
        · exact rosterOk_short h
        · exact rosterOk_long (by omega)
      exact Lib.hid this
    clear ha hin
    go_enter Try.func50, Try.ntmps50
    go_wp2_with (go_at_call 51; refine (l1In_any _ _ _ _).mono ?_; rintro e w' ⟨rfl, rfl⟩)
    go_ret
    exact ⟨ret_bool HR.out.symm, Below.refl _ _⟩

theorem needsOk_sum {l d : Int} (h1 : 0 ≤ l) (h2 : 0 ≤ d) : needsOk l d = decide (d ≤ 4 - l) := by
  simp only [needsOk, h1, h2, decide_true, Bool.true_and]
  exact decide_eq_decide.2 (by omega)
theorem needsOk_no {l d : Int} (h : ¬ (0 ≤ l ∧ 0 ≤ d)) : needsOk l d = false := by
  simp only [needsOk, Bool.and_eq_false_iff, decide_eq_false_iff_not]
  omega

end Go.Proofs.Ytggohgkjdnnndaa
