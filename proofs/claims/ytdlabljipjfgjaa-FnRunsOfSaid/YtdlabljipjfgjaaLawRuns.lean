/- The walks of FnLongestOf and FnRunsOf: true at every code. No condition. -/
import Derived.Test.YtdlabljipjfgjaaLawCount
import Derived.Test.YtdlabljipjfgjaaSpecRuns
import Derived.Test.YtdlabljipjfgjaaInts
import Derived.Test.YtdlabljipjfgjaaMathS
namespace Go.Proofs.Ytdlabljipjfgjaa
open Go.RowKit

theorem longestOf_back {s t : ByteArray} (h : wordOk s = true) (g : letterOk t = true) : longestOf (backStr s) t = longestOf s t := by
  rw [longestOf_yes h g, longestOf_yes (wordOk_back h) g, backStr_yes h, back0_list, runsL_reverse, longestIn_reverse]
theorem longestOf_bd {s t : ByteArray} (h : wordOk s = true) (g : letterOk t = true) : 0 ≤ longestOf s t ∧ longestOf s t ≤ countOf s t ∧ (longestOf s t = 0 ↔ countOf s t = 0) ∧ countOf s t ≤ 14 := by
  have h1 := longest_count s.data.toList (byteAt t 0)
  have h2 := countOf_bd h g
  have h3 := wordOk_size h
  rw [longestOf_yes h g, countOf_list h g] at *
  omega
theorem longestOf_twice {s t : ByteArray} (h : wordOk s = true) (g : letterOk t = true) : longestOf (s ++ s) t < 0 ∨ (0 ≤ longestOf (s ++ s) t ∧ longestOf s t ≤ longestOf (s ++ s) t ∧ longestOf (s ++ s) t ≤ 2 * longestOf s t) := by
  by_cases hw : wordOk (s ++ s) = true
  · have h1 := longest_two s.data.toList s.data.toList (byteAt t 0)
    rw [longestOf_yes h g, longestOf_yes hw g, ByteArray.data_append, Array.toList_append]
    omega
  · exact .inl (by rw [longestOf_no1 (by simpa using hw)]; omega)

set_option maxHeartbeats 800000 in
theorem lawLongestOf_walk {w : World} (a : Option Addr) (len cap : Nat) (zs : List Int) (h : IsRow .u8 w a len cap zs) :
    Calls Try.prog 7 #[.slice a len cap] w fun e w' => e = .returned (.bool true) ∧ Below w.heap.size w w' := by
  have HD := Lib.hid (drawLongestOf_any a len cap zs w h)
  have hl := row_len h
  clear h
  by_cases hbig : 1048576 < len
  · go_enter Try.func7, Try.ntmps7
    go_wp2_with fail
    go_ret
    exact ⟨rfl, Below.refl _ _⟩
  · go_enter Try.func7, Try.ntmps7
    go_wp2_with fail
    refine HD.out.mono ?_
    clear HD
    rintro e w1 ⟨s, t, rfl, hs, ht, hb⟩
    go_wp2_with fail
    refine (implLongestOf_any s t _ (small_max hs (by omega)) (small_max ht (by omega))).mono ?_
    rintro e w2 ⟨rfl, hb2⟩
    go_wp2_with fail
    refine (specLongestOf_any s t _ (small_max hs (by omega))).mono ?_
    rintro e w3 ⟨rfl, hb3⟩
    have hbb := hb.trans ((hb2.mono hb.size).trans (hb3.mono (Nat.le_trans hb.size hb2.size)))
    clear hb hb2 hb3
    by_cases hw : wordOk s = true
    · by_cases hg : letterOk t = true
      · obtain ⟨hn0, hn1, hn2, hn3⟩ := longestOf_bd hw hg
        have HN := Lib.hid hn2
        have HB := Lib.hid (longestOf_back hw hg)
        have HT := Lib.hid (longestOf_twice hw hg)
        have H5 := Lib.hid (back_size hw)
        have h2s : (s ++ s).size ≤ 46 := by rw [ByteArray.size_append]; omega
        have hsz : s.size ≤ 14 := wordOk_size hw
        clear hn2
        go_wp2_with fail
        refine (implCountOf_any s t _ (small_max hs (by omega)) (small_max ht (by omega))).mono ?_
        rintro e w4 ⟨rfl, hb4⟩
        go_wp2_with fail
        refine (implLongestOf_any (s ++ s) t _ (small_max h2s (by omega)) (small_max ht (by omega))).mono ?_
        rintro e w5 ⟨rfl, hb5⟩
        have htw := HT.out
        generalize longestOf (s ++ s) t = T at *
        have hz : (longestOf s t == 0) = (countOf s t == 0) := by
          rw [Bool.eq_iff_iff, beq_iff_eq, beq_iff_eq]; exact HN.out
        clear HN HT
        rcases htw with htw | ⟨ht0, ht1, ht2⟩
        · go_wp2_with fail
          refine (implBackWord_any s _ (small_max hs (by omega))).mono ?_
          rintro e w6 ⟨rfl, hb6⟩
          go_wp2_with fail
          refine (implLongestOf_any (backStr s) t _ (by rw [H5.out]; exact small_max hs (by omega)) (small_max ht (by omega))).mono ?_
          rintro e w7 ⟨rfl, hb7⟩
          rw [HB.out]
          go_wp2
          go_ret
          exact ⟨rfl, by
            have q4 := hbb.trans (hb4.mono hbb.size)
            have q5 := q4.trans (hb5.mono q4.size)
            have q6 := q5.trans (hb6.mono q5.size)
            exact q6.trans (hb7.mono q6.size)⟩
        · go_wp2_with fail
          refine (implBackWord_any s _ (small_max hs (by omega))).mono ?_
          rintro e w6 ⟨rfl, hb6⟩
          go_wp2_with fail
          refine (implLongestOf_any (backStr s) t _ (by rw [H5.out]; exact small_max hs (by omega)) (small_max ht (by omega))).mono ?_
          rintro e w7 ⟨rfl, hb7⟩
          rw [HB.out]
          go_wp2
          go_ret
          exact ⟨rfl, by
            have q4 := hbb.trans (hb4.mono hbb.size)
            have q5 := q4.trans (hb5.mono q4.size)
            have q6 := q5.trans (hb6.mono q5.size)
            exact q6.trans (hb7.mono q6.size)⟩
      · have hg' : letterOk t = false := by simpa using hg
        have hc := longestOf_no2 (s := s) hg'
        clear hg
        go_wp2_with (go_at_call 14; refine (alive_any _).mono ?_; rintro e w' ⟨rfl, rfl⟩)
        go_ret
        exact ⟨rfl, hbb⟩
    · have hw' : wordOk s = false := by simpa using hw
      have hc := longestOf_no1 (t := t) hw'
      clear hw
      go_wp2_with (go_at_call 14; refine (alive_any _).mono ?_; rintro e w' ⟨rfl, rfl⟩)
      go_ret
      exact ⟨rfl, hbb⟩
end Go.Proofs.Ytdlabljipjfgjaa
