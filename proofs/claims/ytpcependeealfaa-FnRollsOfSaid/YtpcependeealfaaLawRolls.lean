/- The walk of FnRollsOf: true at every code. No condition. -/
import Derived.Test.YtpcependeealfaaLawRoll
namespace Go.Proofs.Ytpcependeealfaa
open Go.RowKit

/-- of twice a word it is the same, if that is a word -/
theorem rollsOf_two {s : ByteArray} (hw : wordOk s = true) (h0 : 0 < s.size) : rollsOf (s ++ s) < 0 ∨ rollsOf (s ++ s) = rollsOf s := by
  by_cases h2 : wordOk (s ++ s) = true
  · right
    rw [rollsOf_yes h2, rollsOf_yes hw, ByteArray.data_append, Array.toList_append, per_two _ (by rw [len_data]; exact h0)]
  · left
    rw [rollsOf_no (by simpa using h2)]; omega

set_option maxHeartbeats 3200000 in
theorem lawRollsOf_walk {w : World} (a : Option Addr) (len cap : Nat) (zs : List Int) (h : IsRow .u8 w a len cap zs) :
    Calls Try.prog 10 #[.slice a len cap] w fun e w' => e = .returned (.bool true) ∧ Below w.heap.size w w' := by
  have HD := Lib.hid (drawRollsOf_any a len cap zs w h)
  have hl := rowR_len h
  clear h
  by_cases hbig : 1048576 < len
  · go_enter Try.func10, Try.ntmps10
    go_wp2_with fail
    go_ret
    exact ⟨rfl, Below.refl _ _⟩
  · go_enter Try.func10, Try.ntmps10
    go_wp2_with fail
    refine HD.out.mono ?_
    clear HD
    rintro e w1 ⟨s, rfl, hs, hb1⟩
    have HSM := Lib.hid (show s.size ≤ maxLen by unfold maxLen; omega)
    have B1 := Lib.hid hb1
    clear hb1
    go_wp2_with fail
    refine (implRollsOf_any s _ HSM.out).mono ?_
    rintro e w2 ⟨rfl, hb2⟩
    have B2 := Lib.hid (B1.out.trans (hb2.mono B1.out.size))
    clear hb2
    go_wp2_with fail
    refine (specRollsOf_any s _ HSM.out).mono ?_
    rintro e w3 ⟨rfl, n3, rfl⟩
    have B3 := Lib.hid (below_drewN B2.out n3)
    generalize w2.drewN n3 = W3 at *
    by_cases hw : wordOk s = true
    · have h14 := wordOk_size hw
      have HP := Lib.hid (rollsOf_yes hw)
      have hp1 := per_pos s.data.toList
      have hp2 := per_le s.data.toList
      rw [len_data] at hp2
      by_cases h0 : s.size = 0
      · have hv : rollsOf s = 1 := by rw [HP.out]; omega
        rw [hv]
        have h00 : (s.size : Int) = 0 := by omega
        clear hw
        go_wp2_with (go_at_call 23; refine (aliveR_any _).mono ?_; rintro e w' ⟨rfl, rfl⟩)
        go_ret
        exact ⟨rfl, B3.out⟩
      · have H2 := Lib.hid (rollsOf_two hw (by omega))
        have hsz0 : ((s.size : Int) == 0) = false := by rw [beq_eq_false_iff_ne]; omega
        have HR : Hid (∀ W, Calls Try.prog 44 #[.string s, .int .i64 (rollsOf s)] W fun e w' => e = .returned (.tuple #[.string s, .bool true]) ∧ ∃ n, w' = W.drewN n) := Lib.hid (fun W => by
          have := implRolledBy_any s (per s.data.toList : Int) W HSM.out
          rw [(rolledStr_word hw (per s.data.toList) (by omega)).1, (rolledStr_word hw (per s.data.toList) (by omega)).2, per_is, txtOf_data] at this
          rwa [HP.out])
        have HTW := Lib.hid (fun W => implRollsOf_any (s ++ s) W (by rw [ByteArray.size_append]; unfold maxLen; omega))
        have hdv := per_dvd s.data.toList
        rw [len_data] at hdv
        have hpos : 1 ≤ rollsOf s := by rw [HP.out]; omega
        have hmax : max (rollsOf s) 1 = rollsOf s := by omega
        have hrem : Int.tmod (s.size : Int) (rollsOf s) = 0 := by rw [HP.out, ← Int.ofNat_tmod, hdv]; rfl
        have hle : rollsOf s ≤ 14 := by rw [HP.out]; omega
        have hnn : ¬ rollsOf s < 0 := by omega
        have hne : rollsOf s ≠ 0 := by omega
        have hsum : ((s.size : Int) + (s.size : Int)) ≤ 28 := by omega
        generalize rollsOf s = p at *
        generalize hq : rollsOf (s ++ s) = q at *
        clear hw hdv hp1 hp2 hq HP h0
        go_wp2_with fail
        refine (HR.out _).mono ?_
        rintro e w4 ⟨rfl, n4, rfl⟩
        have B4 := Lib.hid (below_drewN B3.out n4)
        generalize W3.drewN n4 = W4 at *
        go_wp2_with fail
        refine (HTW.out _).mono ?_
        rintro e w5 ⟨rfl, hb5⟩
        have B5 := Lib.hid (B4.out.trans (hb5.mono B4.out.size))
        clear hb5
        rcases H2.out with hq | hq
        · go_wp2_with fail
          go_ret
          exact ⟨rfl, B5.out⟩
        · subst hq
          go_wp2_with fail
          go_ret
          exact ⟨rfl, B5.out⟩
    · have hwf : wordOk s = false := by simpa using hw
      have hx := rollsOf_no hwf
      have HWD := Lib.hid (implWordOk_any s W3 HSM.out)
      rw [hwf] at HWD
      rw [hx]
      clear hw
      go_wp2_with (first | (go_at_call 45; refine HWD.out.mono ?_; rintro e w' ⟨rfl, rfl⟩) | (go_at_call 23; refine (aliveR_any _).mono ?_; rintro e w' ⟨rfl, rfl⟩))
      go_ret
      exact ⟨rfl, B3.out⟩
end Go.Proofs.Ytpcependeealfaa
