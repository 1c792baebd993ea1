/- The program's RuleText. No condition. -/
import Derived.Test.YtlfjecaffmfgcabDoorSpText
import Derived.Test.YtlfjecaffmfgcabDoorShelfT
namespace Go.Proofs.YtlfjecaffmfgcabDoor
open Go.RowKit

theorem below_dn {B : Nat} {a w : World} (h : Below B a w) (n : Nat) : Below B a (w.drewN n) := ⟨h.os, h.tape, h.output, h.size, h.block⟩
theorem itoa_digit (m : Nat) (hm : m < 6) (w : World) :
    Calls Tryd.prog 25 #[.int .i64 (m : Int)] w fun e w' => e = .returned (.string (digitS m)) ∧ w' = w := by
  have e : (⟨(Lib.decDigits m).toArray⟩ : ByteArray) = digitS m := by
    have : m = 0 ∨ m = 1 ∨ m = 2 ∨ m = 3 ∨ m = 4 ∨ m = 5 := by omega
    rcases this with rfl | rfl | rfl | rfl | rfl | rfl <;> (unfold Lib.decDigits; rfl)
  rw [← e]
  exact strconv_Itoa_small m (by omega) w

set_option maxHeartbeats 4000000 in
theorem implRuleText_any (kind : Int) (letter thn : ByteArray) (many : Int) (w : World) (h1 : letter.size ≤ maxLen) (h2 : thn.size ≤ maxLen) :
    Calls Tryd.prog 8 #[.agg #[.int .i64 kind, .string letter, .string thn, .int .i64 many]] w
      fun e w' => e = .returned (.string (rText ⟨kind, letter, thn, many⟩)) ∧ Below w.heap.size w w' := by
  have HOK := Lib.hid (fun W => implRuleOk_any kind letter thn many W h1 h2)
  have q0 := Lib.hid ((Below.refl w.heap.size w).alloc (Nat.le_refl _) (.cells #[.int .i64 kind, .string letter, .string thn, .int .i64 many] 24))
  by_cases hok : (Ru.mk kind letter thn many).ok = true
  · obtain ⟨hl, hr⟩ := Ru.ok_iff.1 hok
    simp only at hl hr
    have hlm : letter.size ≤ 1 := by simp [letterOk] at hl; omega
    clear h1 h2
    rcases hr with ⟨rfl, rfl, h0, h1⟩ | ⟨rfl, rfl, h0, h1⟩ | ⟨rfl, ht, rfl⟩ | ⟨rfl, rfl, h0, h1⟩ | ⟨rfl, rfl, h0, h1⟩
    · obtain ⟨m, rfl⟩ := Int.eq_ofNat_of_zero_le (show 0 ≤ many by omega)
      have HE : Hid (rText (Ru.mk 0 letter ⟨#[]⟩ m) = letter ++ (⟨#[42, 94, 47, 60, 62]⟩ : ByteArray).extract 0 1 ++ digitS m) := Lib.hid (rText_many (m := m) hok (by decide))
      have HN := Lib.hid (fun W => itoa_digit m (by omega) W)
      go_enter Tryd.func8, Tryd.ntmps8
      go_wp2_with fail
      refine (HOK.out _).mono ?_
      rintro e w1 ⟨rfl, hb1⟩
      rw [hok]
      obtain ⟨y0, y1, y2, y3, hb, hsz⟩ := ru_of hb1
      have HB := Lib.hid hb
      have hds : (digitS m).size = 1 := rfl
      clear hb hb1 hsz
      go_wp2_with fail
      go_quiet (fail)
      go_wp2_with (go_at_call 25; refine (HN.out _).mono ?_; rintro e w2 ⟨rfl, rfl⟩)
      go_ret
      exact ⟨ret_str HE.out.symm, below_dn HB.out _⟩
    · obtain ⟨m, rfl⟩ := Int.eq_ofNat_of_zero_le (show 0 ≤ many by omega)
      have HE : Hid (rText (Ru.mk 1 letter ⟨#[]⟩ m) = letter ++ (⟨#[42, 94, 47, 60, 62]⟩ : ByteArray).extract 1 2 ++ digitS m) := Lib.hid (rText_many (m := m) hok (by decide))
      have HN := Lib.hid (fun W => itoa_digit m (by omega) W)
      go_enter Tryd.func8, Tryd.ntmps8
      go_wp2_with fail
      refine (HOK.out _).mono ?_
      rintro e w1 ⟨rfl, hb1⟩
      rw [hok]
      obtain ⟨y0, y1, y2, y3, hb, hsz⟩ := ru_of hb1
      have HB := Lib.hid hb
      have hds : (digitS m).size = 1 := rfl
      clear hb hb1 hsz
      go_wp2_with fail
      go_quiet (fail)
      go_wp2_with (go_at_call 25; refine (HN.out _).mono ?_; rintro e w2 ⟨rfl, rfl⟩)
      go_ret
      exact ⟨ret_str HE.out.symm, below_dn HB.out _⟩
    · have htm : thn.size ≤ 1 := by simp [letterOk] at ht; omega
      have HE : Hid (rText (Ru.mk 2 letter thn 0) = letter ++ (⟨#[42, 94, 47, 60, 62]⟩ : ByteArray).extract 2 3 ++ thn) := Lib.hid (rText_thn hok)
      go_enter Tryd.func8, Tryd.ntmps8
      go_wp2_with fail
      refine (HOK.out _).mono ?_
      rintro e w1 ⟨rfl, hb1⟩
      rw [hok]
      obtain ⟨y0, y1, y2, y3, hb, hsz⟩ := ru_of hb1
      have HB := Lib.hid hb
      clear hb hb1 hsz
      go_wp2_with fail
      go_quiet (fail)
      go_wp2_with fail
      go_ret
      exact ⟨ret_str HE.out.symm, below_dn HB.out _⟩
    · obtain ⟨m, rfl⟩ := Int.eq_ofNat_of_zero_le (show 0 ≤ many by omega)
      have HE : Hid (rText (Ru.mk 3 letter ⟨#[]⟩ m) = letter ++ (⟨#[42, 94, 47, 60, 62]⟩ : ByteArray).extract 3 4 ++ digitS m) := Lib.hid (rText_many (m := m) hok (by decide))
      have HN := Lib.hid (fun W => itoa_digit m (by omega) W)
      go_enter Tryd.func8, Tryd.ntmps8
      go_wp2_with fail
      refine (HOK.out _).mono ?_
      rintro e w1 ⟨rfl, hb1⟩
      rw [hok]
      obtain ⟨y0, y1, y2, y3, hb, hsz⟩ := ru_of hb1
      have HB := Lib.hid hb
      have hds : (digitS m).size = 1 := rfl
      clear hb hb1 hsz
      go_wp2_with fail
      go_quiet (fail)
      go_wp2_with (go_at_call 25; refine (HN.out _).mono ?_; rintro e w2 ⟨rfl, rfl⟩)
      go_ret
      exact ⟨ret_str HE.out.symm, below_dn HB.out _⟩
    · obtain ⟨m, rfl⟩ := Int.eq_ofNat_of_zero_le (show 0 ≤ many by omega)
      have HE : Hid (rText (Ru.mk 4 letter ⟨#[]⟩ m) = letter ++ (⟨#[42, 94, 47, 60, 62]⟩ : ByteArray).extract 4 5 ++ digitS m) := Lib.hid (rText_many (m := m) hok (by decide))
      have HN := Lib.hid (fun W => itoa_digit m (by omega) W)
      go_enter Tryd.func8, Tryd.ntmps8
      go_wp2_with fail
      refine (HOK.out _).mono ?_
      rintro e w1 ⟨rfl, hb1⟩
      rw [hok]
      obtain ⟨y0, y1, y2, y3, hb, hsz⟩ := ru_of hb1
      have HB := Lib.hid hb
      have hds : (digitS m).size = 1 := rfl
      clear hb hb1 hsz
      go_wp2_with fail
      go_quiet (fail)
      go_wp2_with (go_at_call 25; refine (HN.out _).mono ?_; rintro e w2 ⟨rfl, rfl⟩)
      go_ret
      exact ⟨ret_str HE.out.symm, below_dn HB.out _⟩
  · have hok' : (Ru.mk kind letter thn many).ok = false := by simpa using hok
    have HE := Lib.hid (rText_no hok')
    clear hok
    go_enter Tryd.func8, Tryd.ntmps8
    go_wp2_with fail
    refine (HOK.out _).mono ?_
    rintro e w1 ⟨rfl, hb1⟩
    rw [hok']
    go_wp2_with fail
    go_ret
    exact ⟨ret_str HE.out.symm, q0.out.trans (hb1.mono (by simp))⟩
end Go.Proofs.YtlfjecaffmfgcabDoor
