/- impl.RollsOf: what it returns, for every text. No condition. -/
import Derived.Test.YtpcependeealfaaRollImpl
namespace Go.Proofs.Ytpcependeealfaa
open Go.RowKit

set_option maxHeartbeats 1600000 in
theorem implIndex_any (l : List UInt8) (n at0 : Nat) (v : Value) (w : World) (hat : at0 < n) (hn2 : n ≤ 14) (h : RollRow w v l n) :
    Calls Try.prog 91 #[v, .string (txtOf (rt at0 l))] w fun e w' => (∃ i : Nat, e = .returned (.int .i64 i) ∧ (i = at0 ↔ at0 < per l)) ∧ w = w' := by
  obtain ⟨g, cap, rfl, hg, hc⟩ := h
  have HC := Lib.hid hc
  have HAT := Lib.hid hat
  clear hc
  go_enter Try.func91, Try.ntmps91
  go_wp2_with fail
  go_loop [5, 8] (fun _ i => ∃ k : Nat, k ≤ at0 ∧ i = .int .i64 k ∧ ∀ j, j < k → rt j l ≠ rt at0 l) (fun _ i => n - (intOf i).toNat)
  case atStart => exact ⟨0, Nat.zero_le _, rfl, fun j hj => absurd hj (Nat.not_lt_zero j)⟩
  case round =>
    obtain ⟨k, hk, rfl, hno⟩ := hrel
    have HNO := Lib.hid hno
    clear hno
    have hlt : k < n := by omega
    have c1 := HC.out k hlt
    by_cases he : rt k l = rt at0 l
    · have hb : ((txtOf (rt at0 l)).toList == (txtOf (rt k l)).toList) = true := by rw [ByteArray.toList_eq, ByteArray.toList_eq, txtOf_list, txtOf_list, beq_iff_eq, he]
      have HV : Hid (k = at0 ↔ at0 < per l) := Lib.hid (by
        constructor
        · rintro rfl
          by_cases g : k < per l
          · exact g
          · have := per_old l k g
            exact absurd this.2 (HNO.out _ this.1)
        · intro g
          by_cases g2 : k = at0
          · exact g2
          · exact absurd he (per_new l at0 g k (by omega)))
      clear he
      go_wp2_with fail
      go_ret
      exact ⟨⟨k, rfl, HV.out⟩, rfl⟩
    · have hb : ((txtOf (rt at0 l)).toList == (txtOf (rt k l)).toList) = false := by rw [ByteArray.toList_eq, ByteArray.toList_eq, txtOf_list, txtOf_list, beq_eq_false_iff_ne]; exact fun e => he e.symm
      have hne : k ≠ at0 := fun e => he (by rw [e])
      have HE := Lib.hid he
      clear he
      go_wp2_with fail
      go_round
      case rel => exact ⟨k + 1, by omega, by go_num, fun j hj => by
        by_cases e : j = k
        · subst e; exact HE.out
        · exact HNO.out j (by omega)⟩
      case measure => simp [intOf]; omega

theorem rollsClosure_any (l : List UInt8) (n k : Nat) (a : Addr) (v : Value) (w : World) (hk : k < n) (hn2 : n ≤ 14) (hc : w.cell? a = some v) (h : RollRow w v l n) :
    Calls Try.prog 90 #[.int .i64 (k : Int), .string (txtOf (rt k l)), .pointer (some a)] w fun e w' => e = .returned (.bool (decide (k < per l))) ∧ w = w' := by
  have HI := Lib.hid (implIndex_any l n k v w hk hn2 h)
  obtain ⟨g, cap, rfl, -, -⟩ := h
  go_enter Try.func90, Try.ntmps90
  go_wp2_with fail
  refine HI.out.mono ?_
  rintro e w1 ⟨⟨i, rfl, hi⟩, rfl⟩
  have HV : Hid (((i : Int) == (k : Int)) = decide (k < per l)) := Lib.hid (by
    rw [Bool.eq_iff_iff, beq_iff_eq, decide_eq_true_eq, ← hi]; omega)
  clear hi
  go_wp2_with fail
  go_ret
  exact ⟨ret_bool HV.out, rfl⟩

set_option maxHeartbeats 1600000 in
theorem countRolls_any (l : List UInt8) (n : Nat) (a : Addr) (v : Value) (w : World) (hn2 : n ≤ 14) (hc : w.cell? a = some v) (h : RollRow w v l n) :
    Calls Try.prog 89 #[v, .func (.func 90) #[] #[.pointer (some a)]] w
      fun e w' => e = .returned (.int .i64 (cntTo (fun i => decide (i < per l)) n)) ∧ w = w' := by
  have HCL := Lib.hid (fun k hk => rollsClosure_any l n k a v w hk hn2 hc h)
  obtain ⟨g, cap, rfl, hg, hcl⟩ := h
  have HC := Lib.hid hcl
  clear hcl hc
  go_enter Try.func89, Try.ntmps89
  go_wp2_with fail
  go_loop [5, 6, 7, 10] (fun m _ _ i => ∃ k : Nat, k ≤ n ∧ i = .int .i64 k ∧ m = .int .i64 (cntTo (fun i => decide (i < per l)) k)) (fun _ _ _ i => n - (intOf i).toNat)
  case atStart => exact ⟨0, Nat.zero_le _, rfl, rfl⟩
  case round =>
    obtain ⟨k, hk, rfl, rfl⟩ := hrel
    have hbd := cntTo_bd (fun i => decide (i < per l)) k
    by_cases hlt : k < n
    · have c1 := HC.out k hlt
      have HK := Lib.hid (HCL.out k hlt)
      by_cases hp : k < per l
      · have HS := Lib.hid (cntTo_yes (fun i => decide (i < per l)) k (by simpa using hp))
        rw [decide_eq_true hp] at HK
        clear hp
        generalize cntTo (fun i => decide (i < per l)) k = m at *
        go_wp2_with (go_at_call 90; refine HK.out.mono ?_; rintro e w' ⟨rfl, rfl⟩)
        go_round
        case rel => exact ⟨k + 1, by omega, by go_num, by rw [HS.out]⟩
        case measure => simp [intOf]; omega
      · have HS := Lib.hid (cntTo_no (fun i => decide (i < per l)) k (by simpa using hp))
        rw [decide_eq_false hp] at HK
        clear hp
        generalize cntTo (fun i => decide (i < per l)) k = m at *
        go_wp2_with (go_at_call 90; refine HK.out.mono ?_; rintro e w' ⟨rfl, rfl⟩)
        go_round
        case rel => exact ⟨k + 1, by omega, by go_num, by rw [HS.out]⟩
        case measure => simp [intOf]; omega
    · obtain rfl : k = n := by omega
      go_wp2_with fail
      go_ret
      exact ⟨rfl, rfl⟩

set_option maxHeartbeats 800000 in
theorem implRollsOf_any (s : ByteArray) (w : World) (hs : s.size ≤ maxLen) :
    Calls Try.prog 51 #[.string s] w fun e w' => e = .returned (.int .i64 (rollsOf s)) ∧ Below w.heap.size w w' := by
  by_cases hw : wordOk s = true
  · have h14 := wordOk_size hw
    have HE : Hid (rollsOf s = cntTo (fun i => decide (i < per s.data.toList)) (max s.size 1)) := Lib.hid (by
      have := per_count s.data.toList
      rw [len_data] at this
      rw [rollsOf_yes hw, this])
    have HC : Hid (Calls Try.prog 45 #[.string s] w fun e w' => e = .returned (.bool true) ∧ w = w') := Lib.hid (by have := implWordOk_any s w hs; rwa [hw] at this)
    have HR := Lib.hid (fun W => implRolls_any s W hw)
    have HM := Lib.hid (fun a v W c h => countRolls_any s.data.toList (max s.size 1) a v W (by omega) c h)
    clear hw hs
    go_enter Try.func51, Try.ntmps51
    go_wp2_with (go_at_call 45; refine HC.out.mono ?_; rintro e w' ⟨rfl, rfl⟩)
    refine (HR.out _).mono ?_
    rintro e w1 ⟨v, rfl, hrow, hb1⟩
    have HROW := Lib.hid hrow
    obtain ⟨g, cap, rfl, -, -⟩ := hrow
    have HB1 := Lib.hid hb1
    clear hb1
    have HM2 := Lib.hid (HM.out ⟨w1.heap.size, 0, none⟩ _ (w1.alloc (.cells #[.slice (some ⟨g, 0, none⟩) (max s.size 1) cap] 86)) (World.cell?_alloc_new w1 _ _ 0) (HROW.out.below ((Below.refl _ _).alloc (Nat.le_refl _) _)))
    go_wp2_with fail
    refine HM2.out.mono ?_
    rintro e w2 ⟨rfl, rfl⟩
    go_wp2_with fail
    go_ret
    exact ⟨ret_int HE.out.symm, HB1.out.alloc HB1.out.size _⟩
  · have hwf : wordOk s = false := by simpa using hw
    have HE := Lib.hid (rollsOf_no hwf)
    have HC : Hid (Calls Try.prog 45 #[.string s] w fun e w' => e = .returned (.bool false) ∧ w = w') := Lib.hid (by have := implWordOk_any s w hs; rwa [hwf] at this)
    clear hw hwf hs
    go_enter Try.func51, Try.ntmps51
    go_wp2_with (go_at_call 45; refine HC.out.mono ?_; rintro e w' ⟨rfl, rfl⟩)
    go_ret
    exact ⟨ret_int HE.out.symm, Below.refl _ _⟩
end Go.Proofs.Ytpcependeealfaa
