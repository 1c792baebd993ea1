/- The walks of FnLeastRoll and FnRollsOf: true at every code. No condition. -/
import Derived.Test.YtpcependeealfaaRollCnt
import Derived.Test.YtpcependeealfaaDrawn1
namespace Go.Proofs.Ytpcependeealfaa
open Go.RowKit

theorem aliveR_any (w : World) : Calls Try.prog 23 #[] w fun e w' => e = .returned (.bool true) ∧ w = w' := by
  have h1 : wordOk ⟨#[114, 100, 110]⟩ = true := by decide +kernel
  have h2 : wordOk ⟨#[120]⟩ = false := by decide +kernel
  go_enter Try.func23, Try.ntmps23
  go_wp2_with (go_at_call 45; refine (implWordOk_any _ _ (by decide)).mono ?_; rintro e w' ⟨rfl, rfl⟩)
  go_ret
  exact ⟨rfl, rfl⟩
theorem rowR_len {w : World} {a : Option Addr} {len cap : Nat} {zs : List Int} (h : IsRow .u8 w a len cap zs) : len ≤ 9223372036854775807 := by
  rcases h with ⟨_, rfl, _⟩ | ⟨x, _, h1, h2, _⟩
  · exact Nat.zero_le _
  · exact Nat.le_trans h1 h2

theorem drawLeastRoll_any (a : Option Addr) (len cap : Nat) (zs : List Int) (w : World) (h : IsRow .u8 w a len cap zs) :
    Calls Try.prog 46 #[.slice a len cap] w (TextPost w) := by
  have HO := Lib.hid (l20Open_any a len cap zs w h)
  clear h
  go_enter Try.func46, Try.ntmps46
  go_wp2_with fail
  refine HO.out.mono ?_
  clear HO
  rintro e w1 ⟨a1, len1, cap1, rfl, hR, hb⟩
  go_wp2_with fail
  refine (l20Word_any _ _ _ _ _ 0 9 _ hR (by omega) (by omega) (by omega)).mono ?_
  rintro e w2 ⟨s, rfl, hs, k2, hk1, hk2, hR2, hK2⟩
  go_wp2
  go_ret
  exact ⟨s, rfl, hs, hb.trans (hK2.below (Nat.le_refl _) hb.size)⟩

set_option maxHeartbeats 800000 in
theorem drawRollsOf_any (a : Option Addr) (len cap : Nat) (zs : List Int) (w : World) (h : IsRow .u8 w a len cap zs) :
    Calls Try.prog 50 #[.slice a len cap] w (TextPost w) := by
  have HO := Lib.hid (l20Open_any a len cap zs w h)
  clear h
  go_enter Try.func50, Try.ntmps50
  go_wp2_with fail
  refine HO.out.mono ?_
  clear HO
  rintro e w1 ⟨a1, len1, cap1, rfl, hR, hb⟩
  go_wp2_with fail
  refine (l20Word_any _ _ _ _ _ 0 9 _ hR (by omega) (by omega) (by omega)).mono ?_
  rintro e w2 ⟨s, rfl, hs, k2, hk1, hk2, hR2, hK2⟩
  have hb2 := hb.trans (hK2.below (Nat.le_refl _) hb.size)
  by_cases h5 : s.size < 5
  · go_wp2_with fail
    refine (pick_any _ _ _ _ _ k2 2 _ hR2 (by omega) (by omega) (by omega)).mono ?_
    rintro e w3 ⟨v3, rfl, hv30, hv31, hR3, hK3⟩
    have hb3 := hb.trans ((hK2.trans hK3).below (Nat.le_refl _) hb.size)
    clear hv31
    by_cases h0 : v3 = 0
    · subst h0
      go_wp2_with fail
      go_ret
      exact ⟨s ++ s, rfl, by rw [ByteArray.size_append]; omega, hb3⟩
    · go_wp2_with fail
      go_ret
      exact ⟨s, rfl, hs, hb3⟩
  · go_wp2_with fail
    go_ret
    exact ⟨s, rfl, hs, hb2⟩

theorem leastRoll_roll {s : ByteArray} (hw : wordOk s = true) (k : Nat) : leastRoll (txtOf (rt k s.data.toList)) = leastRoll s := by
  rw [leastRoll, leastRoll, if_pos (wordOk_roll hw k), if_pos hw, txtOf_list, leastR_roll _ (wordOk_all hw)]
theorem leastRoll_is {s : ByteArray} (hw : wordOk s = true) : ∃ j, (j < s.size ∨ j = 0) ∧ leastRoll s = txtOf (rt j s.data.toList) := by
  obtain ⟨j, h, e⟩ := leastR_is s.data.toList
  rw [len_data] at h
  exact ⟨j, h, by rw [leastRoll, if_pos hw, e]⟩

set_option maxHeartbeats 3200000 in
theorem lawLeastRoll_walk {w : World} (a : Option Addr) (len cap : Nat) (zs : List Int) (h : IsRow .u8 w a len cap zs) :
    Calls Try.prog 9 #[.slice a len cap] w fun e w' => e = .returned (.bool true) ∧ Below w.heap.size w w' := by
  have HD := Lib.hid (drawLeastRoll_any a len cap zs w h)
  have hl := rowR_len h
  clear h
  by_cases hbig : 1048576 < len
  · go_enter Try.func9, Try.ntmps9
    go_wp2_with fail
    go_ret
    exact ⟨rfl, Below.refl _ _⟩
  · go_enter Try.func9, Try.ntmps9
    go_wp2_with fail
    refine HD.out.mono ?_
    clear HD
    rintro e w1 ⟨s, rfl, hs, hb1⟩
    have HSM := Lib.hid (show s.size ≤ maxLen by unfold maxLen; omega)
    have B1 := Lib.hid hb1
    clear hb1
    go_wp2_with fail
    refine (implLeastRoll_any s _ HSM.out).mono ?_
    rintro e w2 ⟨rfl, hb2⟩
    have B2 := Lib.hid (B1.out.trans (hb2.mono B1.out.size))
    clear hb2
    go_wp2_with fail
    refine (specLeastRoll_any s _ HSM.out).mono ?_
    rintro e w3 ⟨rfl, n3, rfl⟩
    have B3 := Lib.hid (below_drewN B2.out n3)
    generalize w2.drewN n3 = W3 at *
    have HWD := Lib.hid (specWordOk_any s W3 HSM.out)
    by_cases hw : wordOk s = true
    · have h14 := wordOk_size hw
      have HW := Lib.hid hw
      rw [hw] at HWD
      obtain ⟨j, hj, hjx⟩ := leastRoll_is hw
      have HJ := Lib.hid hjx
      have HIX : Hid (∀ k : Nat, ∀ W, Calls Try.prog 47 #[.string (txtOf (rt k s.data.toList))] W fun e w' => e = .returned (.string (leastRoll s)) ∧ Below W.heap.size W w') := Lib.hid (fun k W => by
        have := implLeastRoll_any (txtOf (rt k s.data.toList)) W (by rw [txtOf_size, rt_length, len_data]; exact HSM.out)
        rwa [leastRoll_roll HW.out] at this)
      have HRB : Hid (∀ k : Nat, k ≤ s.size → ∀ W, Calls Try.prog 44 #[.string s, .int .i64 (k : Int)] W fun e w' => e = .returned (.tuple #[.string (txtOf (rt k s.data.toList)), .bool true]) ∧ ∃ n, w' = W.drewN n) := Lib.hid (fun k hk W => by
        have := implRolledBy_any s (k : Int) W HSM.out
        rwa [(rolledStr_word HW.out k hk).1, (rolledStr_word HW.out k hk).2] at this)
      have HXX := Lib.hid (show Calls Try.prog 47 #[.string (leastRoll s)] = Calls Try.prog 47 #[.string (txtOf (rt j s.data.toList))] by rw [HJ.out])
      generalize hx : leastRoll s = x at *
      clear hw hx hjx
      go_wp2_with (go_at_call 49; refine HWD.out.mono ?_; rintro e w' ⟨rfl, rfl⟩)
      go_loopw [5, 6, 7, 8] (fun f i _ _ wr => ∃ (k : Nat) (ki : Int) (b : Bool), ki = (k : Int) ∧ k ≤ s.size + 1 ∧ i = .int .i64 ki ∧ f = .bool b ∧ (j < k → b = true) ∧ Below w.heap.size w wr) (fun _ i _ _ _ => s.size + 1 - (intOf i).toNat)
      case atStart => exact ⟨0, 0, false, rfl, Nat.zero_le _, rfl, rfl, fun h => absurd h (Nat.not_lt_zero _), B3.out⟩
      case round =>
        obtain ⟨k, ki, b, hki, hk, rfl, rfl, hb, hB⟩ := hrel
        have BK := Lib.hid hB
        have HKI := Lib.hid hki
        have HBJ := Lib.hid hb
        have hq : IntKind.i64.wrap (ki + 1) = ki + 1 := IntWalk.i64_in _ (by omega)
        clear hB hb
        by_cases hle : k ≤ s.size
        · have hleI : ki ≤ (s.size : Int) := by omega
          have HC := Lib.hid (HRB.out k hle)
          rw [← hki] at HC
          have HC2 := Lib.hid (HIX.out k)
          have HEQ : Hid (k = j → ((txtOf (rt k s.data.toList)).toList == x.toList) = true) := Lib.hid (by
            rintro rfl; rw [HJ.out]; exact beq_self_eq_true _)
          generalize txtOf (rt k s.data.toList) = roll at *
          clear hki hk
          have hbb : b = true ∨ b = false := by cases b <;> simp
          rcases hbb with rfl | rfl
          · go_wp2_with fail
            refine (HC.out _).mono ?_
            rintro e w4 ⟨rfl, n4, rfl⟩
            go_wp2_with (go_at_call 47; refine (HC2.out _).mono ?_; rintro e w5 ⟨rfl, hb5⟩; have B5 := Lib.hid ((below_drewN BK.out n4).trans (hb5.mono BK.out.size)); clear hb5)
            go_roundw
            case rel => exact ⟨k + 1, ki + 1, true, by have := HKI.out; omega, by omega, by first | rfl | rw [hq], rfl, fun _ => rfl, B5.out⟩
            case measure => simp [intOf]; have := HKI.out; omega
          · by_cases he : (roll.toList == x.toList) = true
            · go_wp2_with fail
              refine (HC.out _).mono ?_
              rintro e w4 ⟨rfl, n4, rfl⟩
              go_wp2_with (go_at_call 47; refine (HC2.out _).mono ?_; rintro e w5 ⟨rfl, hb5⟩; have B5 := Lib.hid ((below_drewN BK.out n4).trans (hb5.mono BK.out.size)); clear hb5)
              go_roundw
              case rel => exact ⟨k + 1, ki + 1, true, by have := HKI.out; omega, by omega, by first | rfl | rw [hq], by first | rfl | rw [he], fun _ => rfl, B5.out⟩
              case measure => simp [intOf]; have := HKI.out; omega
            · have hef : (roll.toList == x.toList) = false := by simpa using he
              have HNE : Hid (j < k + 1 → (false : Bool) = true) := Lib.hid (fun h => by
                by_cases e : j < k
                · exact HBJ.out e
                · exact absurd (HEQ.out (by omega)) he)
              clear he
              go_wp2_with fail
              refine (HC.out _).mono ?_
              rintro e w4 ⟨rfl, n4, rfl⟩
              go_wp2_with (go_at_call 47; refine (HC2.out _).mono ?_; rintro e w5 ⟨rfl, hb5⟩; have B5 := Lib.hid ((below_drewN BK.out n4).trans (hb5.mono BK.out.size)); clear hb5)
              go_roundw
              case rel => exact ⟨k + 1, ki + 1, false, by have := HKI.out; omega, by omega, by first | rfl | rw [hq], by first | rfl | rw [hef], HNE.out, B5.out⟩
              case measure => simp [intOf]; have := HKI.out; omega
        · have hnle : ¬ ki ≤ (s.size : Int) := by omega
          obtain rfl : b = true := HBJ.out (by omega)
          have HC2 := Lib.hid (HIX.out j)
          rw [← HJ.out] at HC2
          clear hki hk hle
          go_wp2_with (first | (go_at_call 47; refine (HC2.out _).mono ?_; rintro e w5 ⟨rfl, hb5⟩; have B5 := Lib.hid (BK.out.trans (hb5.mono BK.out.size)); clear hb5) | (go_at_call 23; refine (aliveR_any _).mono ?_; rintro e w' ⟨rfl, rfl⟩))
          go_ret
          exact ⟨rfl, B5.out⟩
    · have hwf : wordOk s = false := by simpa using hw
      have hx := leastRoll_no hwf
      rw [hwf] at HWD
      rw [hx]
      clear hw
      go_wp2_with (first | (go_at_call 49; refine HWD.out.mono ?_; rintro e w' ⟨rfl, rfl⟩) | (go_at_call 23; refine (aliveR_any _).mono ?_; rintro e w' ⟨rfl, rfl⟩))
      go_ret
      exact ⟨rfl, B3.out⟩
end Go.Proofs.Ytpcependeealfaa
