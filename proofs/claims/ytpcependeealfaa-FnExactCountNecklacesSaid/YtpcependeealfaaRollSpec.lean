/- spec.LeastRoll and spec.RollsOf: what each returns, for every text. No condition. -/
import Derived.Test.YtpcependeealfaaRollMath
import Derived.Test.YtpcependeealfaaRolled
namespace Go.Proofs.Ytpcependeealfaa
open Go.RowKit

theorem befR_skip {a b : ByteArray} {k : Nat} (h : k < a.size) (g : k < b.size) (e : a[k] = b[k]) : befR (a.data.toList.drop k) (b.data.toList.drop k) = befR (a.data.toList.drop (k + 1)) (b.data.toList.drop (k + 1)) := by
  have ha : k < a.data.toList.length := by rw [len_data]; exact h
  have hb : k < b.data.toList.length := by rw [len_data]; exact g
  rw [List.drop_eq_getElem_cons ha, List.drop_eq_getElem_cons hb, befR]
  exact if_pos e
theorem befR_part {a b : ByteArray} {k : Nat} (h : k < a.size) (g : k < b.size) (e : ¬ a[k] = b[k]) : befR (a.data.toList.drop k) (b.data.toList.drop k) = decide (letterOf (a[k].toNat : Int) < letterOf (b[k].toNat : Int)) := by
  have ha : k < a.data.toList.length := by rw [len_data]; exact h
  have hb : k < b.data.toList.length := by rw [len_data]; exact g
  rw [List.drop_eq_getElem_cons ha, List.drop_eq_getElem_cons hb, befR]
  exact if_neg e
theorem befR_end (a b : ByteArray) : befR (a.data.toList.drop a.size) (b.data.toList.drop a.size) = false := by
  rw [List.drop_of_length_le (by rw [len_data]; exact Nat.le_refl _)]; rfl

set_option maxHeartbeats 800000 in
theorem specBefore_any (a b : ByteArray) (w : World) (hl : a.size = b.size) (hs : a.size ≤ 14) :
    Calls Try.prog 87 #[.string a, .string b] w fun e w' => e = .returned (.bool (befR a.data.toList b.data.toList)) ∧ ∃ n, w' = w.drewN n := by
  go_enter Try.func87, Try.ntmps87
  go_wp2_with fail
  go_loopw [5] (fun i wr => ∃ k : Nat, k ≤ a.size ∧ i = .int .i64 k ∧ befR (a.data.toList.drop k) (b.data.toList.drop k) = befR a.data.toList b.data.toList ∧ ∃ n, wr = w.drewN n) (fun i _ => a.size - (intOf i).toNat)
  case atStart => exact ⟨0, Nat.zero_le _, rfl, rfl, 0, rfl⟩
  case round =>
    obtain ⟨k, hk, rfl, hb, n, rfl⟩ := hrel
    have HB := Lib.hid hb
    clear hb
    by_cases hlt : k < a.size
    · have hlt2 : k < b.size := by omega
      by_cases he : a[k] = b[k]
      · have hb' : ((a[k].toNat : Int) != (b[k].toNat : Int)) = false := by rw [bne, u8_beq, he]; simp
        have HS := Lib.hid (befR_skip hlt hlt2 he)
        clear he
        go_wp2_with fail
        go_quiet (fail)
        go_wp2_with fail
        go_roundw
        case rel => exact ⟨k + 1, by omega, by go_num, by rw [← HS.out, HB.out], _, rfl⟩
        case measure => simp [intOf]; omega
      · have hb' : ((a[k].toNat : Int) != (b[k].toNat : Int)) = true := by rw [bne, u8_beq]; simpa using he
        have HS := Lib.hid (befR_part hlt hlt2 he)
        clear he
        go_wp2_with fail
        go_quiet (fail)
        go_wp2_with fail
        go_region_with (go_at_call 88; refine (l1Letter_any _ _).mono ?_; rintro e w' ⟨rfl, rfl⟩)
        all_goals
          go_wp2_with fail
          go_ret
          exact ⟨ret_bool (by rw [← HB.out, HS.out]), _, rfl⟩
    · obtain rfl : k = a.size := by omega
      have HE := Lib.hid (befR_end a b)
      go_wp2_with fail
      go_ret
      exact ⟨ret_bool (by rw [← HB.out, HE.out]), n, rfl⟩

theorem word_size {s : ByteArray} (h : wordOk s = true) : s.data.toList.length ≤ 14 := by rw [len_data]; exact wordOk_size h
theorem leastTo_size {s : ByteArray} (k : Nat) : (txtOf (leastTo s.data.toList k)).size = s.size := by rw [txtOf_size, leastTo_length, len_data]
theorem leastRoll_yes {s : ByteArray} (h : wordOk s = true) : leastRoll s = txtOf (leastTo s.data.toList (s.size - 1)) := by rw [leastRoll, if_pos h, leastR, len_data]
theorem leastRoll_no {s : ByteArray} (h : wordOk s = false) : leastRoll s = ⟨#[]⟩ := by rw [leastRoll, h]; rfl
theorem leastTo_succ {l : List UInt8} {k : Nat} {b : Bool} (h : befR (rt (k + 1) l) (leastTo l k) = b) : leastTo l (k + 1) = if b = true then rt (k + 1) l else leastTo l k := by rw [leastTo, h]

set_option maxHeartbeats 1600000 in
theorem specLeastRoll_any (s : ByteArray) (w : World) (hs : s.size ≤ maxLen) :
    Calls Try.prog 48 #[.string s] w fun e w' => e = .returned (.string (leastRoll s)) ∧ ∃ n, w' = w.drewN n := by
  by_cases hw : wordOk s = true
  · have h14 := wordOk_size hw
    have HW := Lib.hid hw
    have HE := Lib.hid (leastRoll_yes hw)
    have HC : Hid (Calls Try.prog 49 #[.string s] w fun e w' => e = .returned (.bool true) ∧ w = w') := Lib.hid (by have := specWordOk_any s w hs; rwa [hw] at this)
    clear hw hs
    go_enter Try.func48, Try.ntmps48
    go_wp2_with (go_at_call 49; refine HC.out.mono ?_; rintro e w' ⟨rfl, rfl⟩)
    go_loopw [3, 4, 5] (fun b i _ wr => ∃ (k : Nat) (ki : Int), ki = (k : Int) ∧ k ≤ s.size - 1 ∧ i = .int .i64 (ki + 1) ∧ b = .string (txtOf (leastTo s.data.toList k)) ∧ ∃ n, wr = w.drewN n) (fun _ i _ _ => s.size - (intOf i).toNat)
    case atStart => exact ⟨0, 0, rfl, Nat.zero_le _, rfl, by rw [leastTo, txtOf_data], 0, rfl⟩
    case round =>
      obtain ⟨k, ki, hki, hk, rfl, rfl, n, rfl⟩ := hrel
      have HKI := Lib.hid hki
      have hq : IntKind.i64.wrap (ki + 1 + 1) = ki + 1 + 1 := IntWalk.i64_in _ (by omega)
      by_cases hlt : k + 1 < s.size
      · have hltI : ki + 1 < (s.size : Int) := by omega
        have h0 : 0 ≤ ki + 1 := by omega
        have hle : ki + 1 ≤ (s.size : Int) := by omega
        have htn : (ki + 1).toNat = k + 1 := by omega
        have HR := Lib.hid (rolled_str s (k + 1) (by omega))
        have hsz : (txtOf (rt (k + 1) s.data.toList)).size = s.size := by rw [txtOf_size, rt_length, len_data]
        have HB := Lib.hid (fun W => specBefore_any (txtOf (rt (k + 1) s.data.toList)) (txtOf (leastTo s.data.toList k)) W (by rw [hsz, leastTo_size]) (by rw [hsz]; exact h14))
        cases hb : befR (rt (k + 1) s.data.toList) (leastTo s.data.toList k) with
        | true =>
          have HL := Lib.hid (leastTo_succ hb)
          rw [txtOf_list, txtOf_list, hb] at HB
          clear hki hb hsz hlt
          go_wp2_with fail
          go_quiet (fail)
          rw [HR.out]
          go_wp2_with (go_at_call 87; refine (HB.out _).mono ?_; rintro e w' ⟨rfl, n2, rfl⟩)
          go_roundw
          case rel => exact ⟨k + 1, ki + 1, by have := HKI.out; omega, by omega, by first | rfl | rw [hq], by rw [HL.out]; rfl, _, rfl⟩
          case measure => simp [intOf]; have := HKI.out; omega
        | false =>
          have HL := Lib.hid (leastTo_succ hb)
          rw [txtOf_list, txtOf_list, hb] at HB
          clear hki hb hsz hlt
          go_wp2_with fail
          go_quiet (fail)
          rw [HR.out]
          go_wp2_with (go_at_call 87; refine (HB.out _).mono ?_; rintro e w' ⟨rfl, n2, rfl⟩)
          go_roundw
          case rel => exact ⟨k + 1, ki + 1, by have := HKI.out; omega, by omega, by first | rfl | rw [hq], by rw [HL.out]; rfl, _, rfl⟩
          case measure => simp [intOf]; have := HKI.out; omega
      · have hnlt : ¬ ki + 1 < (s.size : Int) := by omega
        obtain rfl : k = s.size - 1 := by omega
        clear hki hlt
        go_wp2_with fail
        go_ret
        exact ⟨ret_str HE.out.symm, n, rfl⟩
  · have hwf : wordOk s = false := by simpa using hw
    have HE := Lib.hid (leastRoll_no hwf)
    have HC : Hid (Calls Try.prog 49 #[.string s] w fun e w' => e = .returned (.bool false) ∧ w = w') := Lib.hid (by have := specWordOk_any s w hs; rwa [hwf] at this)
    clear hw hwf hs
    go_enter Try.func48, Try.ntmps48
    go_wp2_with (go_at_call 49; refine HC.out.mono ?_; rintro e w' ⟨rfl, rfl⟩)
    go_ret
    exact ⟨ret_str HE.out.symm, 0, rfl⟩

theorem rollsOf_yes {s : ByteArray} (h : wordOk s = true) : rollsOf s = (per s.data.toList : Int) := by rw [rollsOf, if_pos h]
theorem rollsOf_no {s : ByteArray} (h : wordOk s = false) : rollsOf s = -1 := by rw [rollsOf, h]; rfl
theorem roll_eq (s : ByteArray) (k : Nat) : (txtOf (rt k s.data.toList) = s) ↔ rt k s.data.toList = s.data.toList := by
  constructor
  · intro h; have := congrArg (fun x : ByteArray => x.data.toList) h; simpa [txtOf_list] using this
  · intro h; rw [h, txtOf_data]
theorem perFrom_yes {l : List UInt8} {f k : Nat} (h : rt k l = l) : perFrom l (f + 1) k = k := by rw [perFrom, if_pos h]
theorem perFrom_no {l : List UInt8} {f k : Nat} (h : ¬ rt k l = l) : perFrom l (f + 1) k = perFrom l f (k + 1) := by rw [perFrom, if_neg h]
theorem str_beq (a b : ByteArray) : (a.data.toList == b.data.toList) = decide (a = b) := by
  rw [Bool.eq_iff_iff, beq_iff_eq, decide_eq_true_eq]
  exact ⟨bytes_ext, fun h => by rw [h]⟩

set_option maxHeartbeats 1600000 in
theorem specRollsOf_any (s : ByteArray) (w : World) (hs : s.size ≤ maxLen) :
    Calls Try.prog 52 #[.string s] w fun e w' => e = .returned (.int .i64 (rollsOf s)) ∧ ∃ n, w' = w.drewN n := by
  by_cases hw : wordOk s = true
  · have h14 := wordOk_size hw
    have HE := Lib.hid (rollsOf_yes hw)
    have HC : Hid (Calls Try.prog 49 #[.string s] w fun e w' => e = .returned (.bool true) ∧ w = w') := Lib.hid (by have := specWordOk_any s w hs; rwa [hw] at this)
    clear hw hs
    go_enter Try.func52, Try.ntmps52
    go_wp2_with (go_at_call 49; refine HC.out.mono ?_; rintro e w' ⟨rfl, rfl⟩)
    go_loopw [3] (fun i wr => ∃ (k : Nat) (ki : Int), ki = (k : Int) ∧ 1 ≤ k ∧ (k ≤ s.size ∨ k = 1) ∧ i = .int .i64 ki ∧ perFrom s.data.toList (s.size - k) k = per s.data.toList ∧ ∃ n, wr = w.drewN n) (fun i _ => s.size - (intOf i).toNat)
    case atStart => exact ⟨1, 1, rfl, Nat.le_refl _, .inr rfl, rfl, by rw [per, len_data], 0, rfl⟩
    case round =>
      obtain ⟨k, ki, hki, hk1, hk, rfl, hp, n, rfl⟩ := hrel
      have HKI := Lib.hid hki
      have HP := Lib.hid hp
      have hq : IntKind.i64.wrap (ki + 1) = ki + 1 := IntWalk.i64_in _ (by omega)
      by_cases hlt : k < s.size
      · have hltI : ki < (s.size : Int) := by omega
        have h0 : 0 ≤ ki := by omega
        have hle : ki ≤ (s.size : Int) := by omega
        have htn : ki.toNat = k := by omega
        have HR := Lib.hid (rolled_str s k (by omega))
        obtain ⟨f, hf⟩ : ∃ f, s.size - k = f + 1 := ⟨s.size - k - 1, by omega⟩
        by_cases he : rt k s.data.toList = s.data.toList
        · have HV : Hid (per s.data.toList = k) := Lib.hid (by rw [← hp, hf, perFrom_yes he])
          have hb : ((s.extract k s.size ++ s.extract 0 k).toList == s.toList) = true := by rw [ByteArray.toList_eq, ByteArray.toList_eq, HR.out, txtOf_list, beq_iff_eq]; exact he
          clear hki hp hf he hk
          go_wp2_with fail
          go_quiet (fail)
          go_wp2_with fail
          go_ret
          exact ⟨ret_int (by rw [HE.out, HV.out, HKI.out]), _, World.drewN_drewN _ _ _⟩
        · have HV : Hid (perFrom s.data.toList (s.size - (k + 1)) (k + 1) = per s.data.toList) := Lib.hid (by rw [← hp, hf, perFrom_no he]; congr 1; omega)
          have hb : ((s.extract k s.size ++ s.extract 0 k).toList == s.toList) = false := by rw [ByteArray.toList_eq, ByteArray.toList_eq, HR.out, txtOf_list, beq_eq_false_iff_ne]; exact he
          clear hki hp hf he hk
          go_wp2_with fail
          go_quiet (fail)
          go_wp2_with fail
          go_roundw
          case rel => exact ⟨k + 1, ki + 1, by have := HKI.out; omega, by omega, .inl (by omega), by first | rfl | rw [hq], HV.out, _, rfl⟩
          case measure => simp [intOf]; have := HKI.out; omega
      · have hnlt : ¬ ki < (s.size : Int) := by omega
        have HV : Hid (per s.data.toList = max s.size 1) := Lib.hid (by
          rw [← hp, show s.size - k = 0 by omega, perFrom]
          rcases hk with h | h <;> omega)
        clear hki hp hk
        go_wp2_with fail
        go_ret
        exact ⟨ret_int (by rw [HE.out, HV.out]; omega), n, rfl⟩
  · have hwf : wordOk s = false := by simpa using hw
    have HE := Lib.hid (rollsOf_no hwf)
    have HC : Hid (Calls Try.prog 49 #[.string s] w fun e w' => e = .returned (.bool false) ∧ w = w') := Lib.hid (by have := specWordOk_any s w hs; rwa [hwf] at this)
    clear hw hwf hs
    go_enter Try.func52, Try.ntmps52
    go_wp2_with (go_at_call 49; refine HC.out.mono ?_; rintro e w' ⟨rfl, rfl⟩)
    go_ret
    exact ⟨ret_int HE.out.symm, 0, rfl⟩
end Go.Proofs.Ytpcependeealfaa
