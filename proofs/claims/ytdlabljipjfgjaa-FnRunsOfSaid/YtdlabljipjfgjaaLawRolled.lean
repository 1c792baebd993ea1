/- The walks of FnBackWord and FnRolledBy: true at every code. No condition. -/
import Derived.Test.YtdlabljipjfgjaaLawWordOk
import Derived.Test.YtdlabljipjfgjaaMathB
namespace Go.Proofs.Ytdlabljipjfgjaa
open Go.RowKit

theorem alive_same (w : World) : Calls Try.prog 14 #[] w fun e w' => e = .returned (.bool true) ∧ w' = w := (alive_any w).mono fun _ _ ⟨h, g⟩ => ⟨h, g.symm⟩
theorem row_len {w : World} {a : Option Addr} {len cap : Nat} {zs : List Int} (h : IsRow .u8 w a len cap zs) : len ≤ 9223372036854775807 := by
  rcases h with ⟨_, rfl, _⟩ | ⟨x, _, h1, h2, _⟩
  · exact Nat.zero_le _
  · exact Nat.le_trans h1 h2
theorem small_max {s : ByteArray} {n : Nat} (h : s.size ≤ n) (hn : n ≤ 1000) : s.size ≤ maxLen := by unfold maxLen; omega

/-- what drawing a word and a number leaves -/
def NumPost (w : World) (e : Ending) (w' : World) : Prop := ∃ (s : ByteArray) (k : Int), e = .returned (.tuple #[.string s, .int .i64 k]) ∧ s.size ≤ 23 ∧ -1 ≤ k ∧ k ≤ 25 ∧ Below w.heap.size w w'

theorem drawRolledBy_any (a : Option Addr) (len cap : Nat) (zs : List Int) (w : World) (h : IsRow .u8 w a len cap zs) :
    Calls Try.prog 32 #[.slice a len cap] w (NumPost w) := by
  have HO := Lib.hid (l20Open_any a len cap zs w h)
  clear h
  go_enter Try.func32, Try.ntmps32
  go_wp2_with fail
  refine HO.out.mono ?_
  clear HO
  rintro e w1 ⟨a1, len1, cap1, rfl, hR, hb⟩
  go_wp2_with fail
  refine (l20Word_any _ _ _ _ _ 0 9 _ hR (by omega) (by omega) (by omega)).mono ?_
  rintro e w2 ⟨s, rfl, hs, k2, hk1, hk2, hR2, hK2⟩
  go_wp2_with fail
  refine (pick_any _ _ _ _ _ k2 _ _ hR2 (by omega) (by omega) (by omega)).mono ?_
  rintro e w3 ⟨v3, rfl, hv30, hv31, hR3, hK3⟩
  have hv32 : v3 < (s.size : Int) + 2 := hv31 (by omega)
  clear hv31
  go_wp2_with fail
  refine (pick_any _ _ _ _ _ (k2 + 1) 30 _ hR3 (by omega) (by omega) (by omega)).mono ?_
  rintro e w4 ⟨v4, rfl, hv40, hv41, hR4, hK4⟩
  have hv42 : v4 < 30 := hv41 (by omega)
  clear hv41
  have hd1 : 0 ≤ v4 / 29 := by omega
  have hd2 : v4 / 29 ≤ 1 := by omega
  go_wp2
  go_ret2
  exact ⟨s, v3 - v4 / 29, rfl, hs, by omega, by omega, hb.trans ((hK2.trans (hK3.trans hK4)).below (Nat.le_refl _) hb.size)⟩

set_option maxHeartbeats 400000 in
theorem lawBackWord_walk {w : World} (a : Option Addr) (len cap : Nat) (zs : List Int) (h : IsRow .u8 w a len cap zs) :
    Calls Try.prog 8 #[.slice a len cap] w fun e w' => e = .returned (.bool true) ∧ Below w.heap.size w w' := by
  have HD := Lib.hid (drawBackWord_any a len cap zs w h)
  have hl := row_len h
  clear h
  by_cases hbig : 1048576 < len
  · go_enter Try.func8, Try.ntmps8
    go_wp2_with fail
    go_ret
    exact ⟨rfl, Below.refl _ _⟩
  · go_enter Try.func8, Try.ntmps8
    go_wp2_with fail
    refine HD.out.mono ?_
    clear HD
    rintro e w1 ⟨s, rfl, hs, hb⟩
    go_wp2_with fail
    refine (implBackWord_any s _ (small_max hs (by omega))).mono ?_
    rintro e w2 ⟨rfl, hb2⟩
    go_wp2_with fail
    refine (specBackWord_any s _ (small_max hs (by omega))).mono ?_
    rintro e w3 ⟨rfl, rfl⟩
    go_wp2_with fail
    refine (specWordOk_any s _ (small_max hs (by omega))).mono ?_
    rintro e w3 ⟨rfl, rfl⟩
    by_cases hw : wordOk s = true
    · have hbs := back_size hw
      have hbb := back_back hw
      have H1 := Lib.hid hbs
      have H2 := Lib.hid hbb
      clear hbs hbb
      go_wp2_with fail
      refine (implBackWord_any (backStr s) _ (by rw [H1.out]; exact small_max hs (by omega))).mono ?_
      rintro e w4 ⟨rfl, hb4⟩
      rw [H2.out]
      have hz := H1.out
      go_wp2_with (go_at_call 14; refine (alive_any _).mono ?_; rintro e w' ⟨rfl, rfl⟩)
      go_ret
      exact ⟨rfl, hb.trans ((hb2.mono hb.size).trans (hb4.mono (Nat.le_trans hb.size hb2.size)))⟩
    · have hw' : wordOk s = false := by simpa using hw
      have hbn := backStr_no hw'
      clear hw
      go_wp2_with (go_at_call 14; refine (alive_any _).mono ?_; rintro e w' ⟨rfl, rfl⟩)
      go_ret
      exact ⟨rfl, hb.trans (hb2.mono hb.size)⟩

set_option maxHeartbeats 400000 in
theorem lawRolledBy_walk {w : World} (a : Option Addr) (len cap : Nat) (zs : List Int) (h : IsRow .u8 w a len cap zs) :
    Calls Try.prog 9 #[.slice a len cap] w fun e w' => e = .returned (.bool true) ∧ Below w.heap.size w w' := by
  have HD := Lib.hid (drawRolledBy_any a len cap zs w h)
  have hl := row_len h
  clear h
  by_cases hbig : 1048576 < len
  · go_enter Try.func9, Try.ntmps9
    go_wp2_with fail
    go_ret
    exact ⟨rfl, Below.refl _ _⟩
  · go_enter Try.func9, Try.ntmps9
    go_wp2_with fail
    refine HD.out.mono ?_
    clear HD
    rintro e w1 ⟨s, k, rfl, hs, hk1, hk2, hb⟩
    go_wp2_with fail
    refine (implRolledBy_any s k _ (small_max hs (by omega))).mono ?_
    rintro e w2 ⟨rfl, n2, rfl⟩
    go_wp2_with fail
    refine (specRolledBy_any s k _ (small_max hs (by omega))).mono ?_
    rintro e w3 ⟨rfl, n3, rfl⟩
    by_cases ho : rolledOk s k = true
    · obtain ⟨n, rfl, hn, hw⟩ := rolledOk_int ho
      have H1 := Lib.hid (rolled_size ho)
      have H2 := Lib.hid (rolled_rest ho)
      have H3 := Lib.hid (rolled_back ho)
      have hbd : -9223372036854775808 ≤ (s.size : Int) - n := by omega
      go_wp2_with fail
      refine (implRolledBy_any (rolledStr s n) ((s.size : Int) - n) _ (by rw [H1.out]; exact small_max hs (by omega))).mono ?_
      rintro e w4 ⟨rfl, n4, rfl⟩
      rw [H2.out, H3.out]
      go_wp2_with fail
      refine (implRolledBy_any s 1 _ (small_max hs (by omega))).mono ?_
      rintro e w5 ⟨rfl, n5, rfl⟩
      by_cases h0 : 0 < s.size
      · have ho1 : rolledOk s 1 = true := rolledOk_nat (k := 1).2 ⟨hw, by omega⟩
        have hz1 : (rolledStr s 1).size = s.size := rolled_size (k := 1) ho1
        have hlt : s.size - 1 < (rolledStr s 1).size := by omega
        have hlast := rolled_last ho1 h0 hlt
        have h0' : ((s.size : Int) == 0) = false := by rw [beq_eq_false_iff_ne]; omega
        go_wp2_with (go_at_call 14; refine (alive_any _).mono ?_; rintro e w' ⟨rfl, rfl⟩)
        have hbW := below_drewN hb (n2 + n3 + n4 + n5)
        generalize w1.drewN (n2 + n3 + n4 + n5) = W at hbW ⊢
        go_quiet ((go_at_call 14; exact Calls.quiet_of_same (alive_same _)))
        go_wp2
        go_ret
        exact ⟨rfl, below_drewN hbW _⟩
      · have hz : s.size = 0 := by omega
        have ho1 : rolledOk s 1 = false := by simp only [rolledOk, hz]; simp
        clear h0 hs hn hbd
        go_wp2_with (go_at_call 14; refine (alive_any _).mono ?_; rintro e w' ⟨rfl, rfl⟩)
        have hbW := below_drewN hb (n2 + n3 + n4 + n5)
        generalize w1.drewN (n2 + n3 + n4 + n5) = W at hbW ⊢
        go_quiet ((go_at_call 14; exact Calls.quiet_of_same (alive_same _)))
        go_wp2
        go_ret
        exact ⟨rfl, below_drewN hbW _⟩
    · have ho' : rolledOk s k = false := by simpa using ho
      have hr := rolledStr_no s k ho'
      clear ho
      go_wp2_with (go_at_call 14; refine (alive_any _).mono ?_; rintro e w' ⟨rfl, rfl⟩)
      go_ret
      exact ⟨rfl, below_drewN hb _⟩
end Go.Proofs.Ytdlabljipjfgjaa
