/- The walks of FnCountOf and FnDifferOf: true at every code. No condition. -/
import Derived.Test.YtdlabljipjfgjaaLawRolled
import Derived.Test.YtdlabljipjfgjaaDiffer
namespace Go.Proofs.Ytdlabljipjfgjaa
open Go.RowKit

set_option maxHeartbeats 400000 in
theorem lawCountOf_walk {w : World} (a : Option Addr) (len cap : Nat) (zs : List Int) (h : IsRow .u8 w a len cap zs) :
    Calls Try.prog 5 #[.slice a len cap] w fun e w' => e = .returned (.bool true) ∧ Below w.heap.size w w' := by
  have HD := Lib.hid (drawCountOf_any a len cap zs w h)
  have hl := row_len h
  clear h
  by_cases hbig : 1048576 < len
  · go_enter Try.func5, Try.ntmps5
    go_wp2_with fail
    go_ret
    exact ⟨rfl, Below.refl _ _⟩
  · go_enter Try.func5, Try.ntmps5
    go_wp2_with fail
    refine HD.out.mono ?_
    clear HD
    rintro e w1 ⟨s, t, rfl, hs, ht, hb⟩
    go_wp2_with fail
    refine (implCountOf_any s t _ (small_max hs (by omega)) (small_max ht (by omega))).mono ?_
    rintro e w2 ⟨rfl, hb2⟩
    go_wp2_with fail
    refine (specCountOf_any s t _ (small_max hs (by omega))).mono ?_
    rintro e w3 ⟨rfl, hb3⟩
    have hbb := hb.trans ((hb2.mono hb.size).trans (hb3.mono (Nat.le_trans hb.size hb2.size)))
    clear hb hb2 hb3
    by_cases hw : wordOk s = true
    · by_cases hg : letterOk t = true
      · obtain ⟨hc0, hc1⟩ := countOf_bd hw hg
        have hr : rolledOk s ((s.size : Int) / 2) = true := by
          rw [show ((s.size : Int) / 2) = ((s.size / 2 : Nat) : Int) from by omega, rolledOk_nat]; exact ⟨hw, by omega⟩
        have H1 := Lib.hid (countOf_rolled (k := s.size / 2) (t := t) (by rw [rolledOk_nat]; exact ⟨hw, by omega⟩) hg)
        have H2 := Lib.hid (rolled_size (s := s) (k := s.size / 2) (by rw [rolledOk_nat]; exact ⟨hw, by omega⟩))
        have H3 := Lib.hid (countOf_three hw)
        have H4 := Lib.hid (countOf_back hw hg)
        have H5 := Lib.hid (back_size hw)
        have b1 := countOf_bd (t := ⟨#[114]⟩) hw (by decide +kernel)
        have b2 := countOf_bd (t := ⟨#[100]⟩) hw (by decide +kernel)
        have b3 := countOf_bd (t := ⟨#[110]⟩) hw (by decide +kernel)
        have e2 : ((s.size : Int) / 2) = ((s.size / 2 : Nat) : Int) := by omega
        have HE2 := Lib.hid e2
        clear e2
        go_wp2_with fail
        refine (implRolledBy_any s ((s.size : Int) / 2) _ (small_max hs (by omega))).mono ?_
        rintro e w4 ⟨rfl, n4, rfl⟩
        go_wp2_with fail
        refine (implCountOf_any s ⟨#[114]⟩ _ (small_max hs (by omega)) (by decide)).mono ?_
        rintro e w5 ⟨rfl, hb5⟩
        go_wp2_with fail
        refine (implCountOf_any s ⟨#[100]⟩ _ (small_max hs (by omega)) (by decide)).mono ?_
        rintro e w6 ⟨rfl, hb6⟩
        go_wp2_with fail
        refine (implCountOf_any s ⟨#[110]⟩ _ (small_max hs (by omega)) (by decide)).mono ?_
        rintro e w7 ⟨rfl, hb7⟩
        have h3b : (countOf s ⟨#[114]⟩ + countOf s ⟨#[100]⟩ + countOf s ⟨#[110]⟩ == (s.size : Int)) = true := by rw [H3.out]; simp
        go_wp2_with fail
        refine (implBackWord_any s _ (small_max hs (by omega))).mono ?_
        rintro e w8 ⟨rfl, hb8⟩
        go_wp2_with fail
        refine (implCountOf_any (backStr s) t _ (by rw [H5.out]; exact small_max hs (by omega)) (small_max ht (by omega))).mono ?_
        rintro e w9 ⟨rfl, hb9⟩
        rw [H4.out]
        go_wp2_with fail
        refine (implCountOf_any (rolledStr s ((s.size : Int) / 2)) t _ (by rw [HE2.out, H2.out]; exact small_max hs (by omega)) (small_max ht (by omega))).mono ?_
        rintro e w10 ⟨rfl, hb10⟩
        rw [show countOf (rolledStr s ((s.size : Int) / 2)) t = countOf s t from by rw [HE2.out]; exact H1.out]
        go_wp2
        go_ret
        exact ⟨rfl, by
          have q4 := below_drewN hbb n4
          have q5 := q4.trans (hb5.mono q4.size)
          have q6 := q5.trans (hb6.mono q5.size)
          have q7 := q6.trans (hb7.mono q6.size)
          have q8 := q7.trans (hb8.mono q7.size)
          have q9 := q8.trans (hb9.mono q8.size)
          exact q9.trans (hb10.mono q9.size)⟩
      · have hg' : letterOk t = false := by simpa using hg
        have hc := countOf_no2 (s := s) hg'
        clear hg
        go_wp2_with (go_at_call 14; refine (alive_any _).mono ?_; rintro e w' ⟨rfl, rfl⟩)
        go_ret
        exact ⟨rfl, hbb⟩
    · have hw' : wordOk s = false := by simpa using hw
      have hc := countOf_no1 (t := t) hw'
      clear hw
      go_wp2_with (go_at_call 14; refine (alive_any _).mono ?_; rintro e w' ⟨rfl, rfl⟩)
      go_ret
      exact ⟨rfl, hbb⟩
end Go.Proofs.Ytdlabljipjfgjaa
