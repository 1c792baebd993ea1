/- The walk of FnDayOf: true at every code. No condition. -/
import Derived.Test.YtlbblfbiiceofaaLawRost
namespace Go.Proofs.Ytlbblfbiiceofaa
open Go.RowKit

theorem dayOf_size_pos {xs : List ByteArray} {d : Nat} (h : rosterOk xs = true) : (dayStr xs d).size = xs.length ∧ 1 ≤ xs.length := ⟨dayStr_size xs d, (rosterOk_iff.1 h).1⟩
theorem dayStr_byte (xs : List ByteArray) (d k : Nat) (h : k < xs.length) : byteAt (dayStr xs d) k = byteAt xs[k] d := by
  simp [byteAt, dayStr, dayBytes, h, List.getD]

set_option maxHeartbeats 6400000 in
theorem lawDayOf_walk {w : World} (a : Option Addr) (len cap : Nat) (zs : List Int) (h : IsRow .u8 w a len cap zs) :
    Calls Try.prog 5 #[.slice a len cap] w fun e w' => e = .returned (.bool true) ∧ Below w.heap.size w w' := by
  have HD := Lib.hid (drawDayOf_any a len cap zs w h)
  have hl := rowR_len h
  clear h
  by_cases hbig : 1048576 < len
  · go_enter Try.func5, Try.ntmps5
    go_wp2_with fail
    go_ret
    exact ⟨rfl, Below.refl _ _⟩
  go_enter Try.func5, Try.ntmps5
  go_wp2_with fail
  refine HD.out.mono ?_
  clear HD
  rintro e w1 ⟨xs, v, d, rfl, hs, hd1, hd2, ho, hb⟩
  obtain ⟨b, c, rfl, hc1, hc2, hI⟩ := drawnR_form ho
  have hx7 := hs.1
  have HSH := Lib.hid hs.short
  have I1 := Lib.hid hI
  have Q1 := Lib.hid hb
  clear hI ho hb hs
  have HIM := Lib.hid (fun W hI k => implDayOf_any (.slice b xs.length c) xs HSH.out k W hI)
  have HSP := Lib.hid (fun W hI => specDayOf_any (.slice b xs.length c) xs HSH.out d W hI)
  by_cases hall : rosterOk xs = true ∧ 0 ≤ d ∧ d < daysOf xs
  · obtain ⟨n, rfl⟩ := Int.eq_ofNat_of_zero_le hall.2.1
    have hr := hall.1
    have hn : n < daysOf xs := by have := hall.2.2; omega
    have HIK : Hid (∀ W, IsStrs W (.slice b xs.length c) xs → ∀ k : Nat, k < daysOf xs → Calls Try.prog 25 #[.slice b xs.length c, .int .i64 (k : Int)] W fun e w' => (∃ s, e = .returned (.string s) ∧ s.size = xs.length) ∧ Below W.heap.size W w') := by
      have : ∀ W, IsStrs W (.slice b xs.length c) xs → ∀ k : Nat, k < daysOf xs → Calls Try.prog 25 #[.slice b xs.length c, .int .i64 (k : Int)] W fun e w' => (∃ s, e = .returned (.string s) ∧ s.size = xs.length) ∧ Below W.heap.size W w' := fun W hI k hk =>
        (HIM.out W hI (k : Int)).mono fun _ _ ⟨h, g⟩ => ⟨⟨_, by rw [h, dayOf_yes hr hk], dayStr_size xs k⟩, g⟩
      exact Lib.hid this
    have HIN := Lib.hid (fun W hI => HIM.out W hI (n : Int))
    rw [dayOf_yes hr hn] at HIN HSP
    have HSZ2 := Lib.hid (dayOf_size_pos (d := n) hr).1
    have hx1 := (dayOf_size_pos (d := n) hr).2
    have HBY := Lib.hid (fun k h => dayStr_byte xs n k h)
    obtain ⟨-, hx4, hd12, hrows⟩ := rosterOk_iff.1 hr
    have hd0 := daysOf_get (xs := xs) (by omega)
    have HSZ : Hid (∀ k (hk : k < xs.length), n < xs[k].size) := by
      have : ∀ k (hk : k < xs.length), n < xs[k].size := fun k hk => by rw [(hrows _ (List.getElem_mem hk)).1]; exact hn
      exact Lib.hid this
    have HDD := Lib.hid hd0
    obtain ⟨g, off, rfl, hg, hcl⟩ := I1.out.at (by omega)
    have HG := Lib.hid hg
    have HCL := Lib.hid hcl
    have hs0 : xs[0].size ≤ 12 := by omega
    rw [hd0] at HIK
    clear hall hr hn hrows hd0 hd12 hg hcl HIM hd1 hd2
    generalize dayStr xs n = ds at *
    go_wp2_with fail
    refine (HIN.out _ I1.out).mono ?_
    rintro e w2 ⟨rfl, hb2⟩
    have I2 := Lib.hid (I1.out.below hb2)
    have P2 := Lib.hid hb2
    clear hb2
    go_wp2_with fail
    refine (HSP.out _ I2.out).mono ?_
    rintro e w3 ⟨rfl, hb3⟩
    have P3 := Lib.hid (P2.out.trans (hb3.mono P2.out.size))
    clear hb3
    have hdl : ¬ ds.toList = [] := by
      intro e
      have h1 : ds.toList.length = ds.size := by rw [ByteArray.toList_eq, Array.length_toList]; rfl
      rw [e] at h1; have h2 := HSZ2.out; simp at h1; omega
    have hdl2 : (ds.toList == []) = false := by rw [beq_eq_false_iff_ne]; exact hdl
    have h0 : 0 < xs.length := by omega
    generalize hx0 : xs[0] = s0 at *
    have HX0 := Lib.hid hx0
    clear hx0
    have hds4 : ds.size ≤ 4 := by have := HSZ2.out; omega
    go_wp2_with fail
    go_loopw [6, 7] (fun sv iv wr => ∃ (k : Nat) (T : Int), k ≤ s0.size ∧ iv = .int .i64 (k : Int) ∧ sv = .int .i64 T ∧ Hid (T = xs.length * k) ∧ 0 ≤ T ∧ T ≤ 4 * k ∧ Hid (Below w1.heap.size w1 wr)) (fun _ iv _ => s0.size - (intOf iv).toNat)
    case atStart => exact ⟨0, 0, Nat.zero_le _, rfl, rfl, Lib.hid (by simp), by omega, by omega, P3⟩
    case round =>
      obtain ⟨k, T, hk, rfl, rfl, HT, hT0, hT4, BB⟩ := hrel
      have c0 : wr.cell? ⟨g, off, none⟩ = some (.string s0) := (BB.out.cell (p := ⟨g, off, none⟩) HG.out).trans (by rw [← HX0.out]; exact HCL.out 0 h0)
      by_cases hlt : k < s0.size
      · have HK := Lib.hid (HIK.out wr (I1.out.below BB.out) k hlt)
        go_wp2_with fail
        refine HK.out.mono ?_
        rintro e w4 ⟨⟨s, rfl, hss⟩, hb4⟩
        have HSS := Lib.hid hss
        have hs4 : s.size ≤ 4 := by omega
        have B4 := Lib.hid (BB.out.trans (hb4.mono BB.out.size))
        clear hb4 c0 hss
        go_wp2_with fail
        go_roundw
        case rel => exact ⟨k + 1, T + s.size, by omega, by go_num, rfl, Lib.hid (by rw [HT.out, HSS.out, Int.natCast_succ, Int.mul_add, Int.mul_one]), by omega, by omega, B4⟩
        case measure => simp [intOf]; omega
      · obtain rfl : k = s0.size := by omega
        have HTE := Lib.hid HT.out
        clear hlt
        go_wp2_with fail
        go_loopw [8] (fun iv wq => ∃ k : Nat, k ≤ xs.length ∧ iv = .int .i64 (k : Int) ∧ Hid (Below w1.heap.size w1 wq)) (fun iv _ => xs.length - (intOf iv).toNat)
        case atStart => exact ⟨0, Nat.zero_le _, rfl, BB⟩
        case round =>
          obtain ⟨k, hk2, rfl, BQ⟩ := hrel
          by_cases hlt2 : k < xs.length
          · have ck := (BQ.out.cell (p := ⟨g, off + k, none⟩) HG.out).trans (HCL.out k hlt2)
            have hn2 := HSZ.out k hlt2
            have hk3 : k < ds.size := by have := HSZ2.out; omega
            have hby := HBY.out k hlt2
            rw [← byteAt_eq _ _ hn2, ← byteAt_eq _ _ hk3] at hby
            have hne : ((ds[k].toNat : Int) != (xs[k][n].toNat : Int)) = false := by rw [hby]; simp
            clear hby c0
            generalize xs[k] = sk at *
            go_wp2_with fail
            go_quiet (fail)
            go_wp2_with fail
            go_roundw
            case rel => exact ⟨k + 1, by omega, by go_num, Lib.hid (below_drewN BQ.out _)⟩
            case measure => simp [intOf]; omega
          · obtain rfl : k = xs.length := by omega
            have c1 : wr.cell? ⟨g, off, none⟩ = some (.string s0) := (BQ.out.cell (p := ⟨g, off, none⟩) HG.out).trans (by rw [← HX0.out]; exact HCL.out 0 h0)
            have hq1 : ((ds.size : Int) == (xs.length : Int)) = true := beq_iff_eq.2 (by have := HSZ2.out; omega)
            have hq2 : (T == (xs.length : Int) * (s0.size : Int)) = true := by simp; exact HTE.out
            have hw1 : IntKind.i64.wrap ((xs.length : Int) * (s0.size : Int)) = (xs.length : Int) * (s0.size : Int) := by rw [← HTE.out]; exact IntWalk.i64_in _ (by omega)
            clear c0
            go_wp2_with fail
            go_ret
            exact ⟨rfl, Q1.out.trans (BQ.out.mono Q1.out.size)⟩
  · have HIN := Lib.hid (fun W hI => HIM.out W hI d)
    rw [dayOf_no hall] at HIN HSP
    clear hall HIM
    go_wp2_with fail
    refine (HIN.out _ I1.out).mono ?_
    rintro e w2 ⟨rfl, hb2⟩
    have I2 := Lib.hid (I1.out.below hb2)
    have Q2 := Lib.hid (Q1.out.trans (hb2.mono Q1.out.size))
    clear hb2
    go_wp2_with fail
    refine (HSP.out _ I2.out).mono ?_
    rintro e w3 ⟨rfl, hb3⟩
    have Q3 := Lib.hid (Q2.out.trans (hb3.mono Q2.out.size))
    clear hb3
    go_wp2_with (go_at_call 20; refine (aliveR_any _).mono ?_; rintro e w' ⟨rfl, rfl⟩)
    go_ret
    exact ⟨rfl, Q3.out⟩
end Go.Proofs.Ytlbblfbiiceofaa
