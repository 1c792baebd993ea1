/- The walk of FnFairestOf: true at every two codes. No condition. -/
import Derived.Test.YthdpeholeelhdaaLawLoadB
import Derived.Test.YthdpeholeelhdaaLoadDraw2
namespace Go.Proofs.Ythdpeholeelhdaa
open Go.RowKit

theorem tot_set0 {os : List Int} {k : Nat} (h : k < os.length) (h0 : os[k] = 0) (v : Int) : tot (os.set k v) = tot os + v := by
  unfold tot
  rw [sm_set _ os k h, h0]
  omega
/-- what the second loop keeps of the other row -/
structure OtherRow (n k : Nat) (d L : Int) (os : List Int) : Prop where
  len : os.length = n
  bd : ∀ x ∈ os, 0 ≤ x ∧ x ≤ 30
  zero : ∀ j (h : j < os.length), k ≤ j → os[j] = 0
  sum : tot os + L = d
theorem OtherRow.step {n k : Nat} {d L : Int} {os : List Int} (h : OtherRow n k d L os) (hk : k < n) (v : Int) (h0 : 0 ≤ v) (h1 : v ≤ 30) : OtherRow n (k + 1) d (L - v) (os.set k v) := by
  have hl := h.len
  refine ⟨by rw [List.length_set]; exact hl, fun x hx => ?_, fun j hj hkj => ?_, ?_⟩
  · rcases List.mem_or_eq_of_mem_set hx with hx | rfl
    · exact h.bd x hx
    · exact ⟨h0, h1⟩
  · rw [List.length_set] at hj
    rw [List.getElem_set_ne (by omega)]
    exact h.zero j hj (by omega)
  · rw [tot_set0 (by omega) (h.zero k (by omega) (Nat.le_refl _))]
    have := h.sum
    omega
theorem OtherRow.start (n : Nat) (d : Int) : OtherRow n 0 d d (List.replicate n 0) := by
  refine ⟨List.length_replicate, fun x hx => ?_, fun j hj _ => List.getElem_replicate .., ?_⟩
  · rw [(List.mem_replicate.1 hx).2]; omega
  · have : tot (List.replicate n 0) = 0 := by
      induction n with
      | zero => rfl
      | succ n ih => rw [List.replicate_succ]; unfold tot at ih ⊢; simp only [sm]; omega
    omega

set_option maxHeartbeats 6400000 in
theorem lawFairestOf_walk {w : World} (a : Option Addr) (len cap : Nat) (zs : List Int) (h : IsRow .u8 w a len cap zs) (a2 : Option Addr) (len2 cap2 : Nat) (zs2 : List Int) (h2 : IsRow .u8 w a2 len2 cap2 zs2) :
    Calls Try.prog 9 #[.slice a len cap, .slice a2 len2 cap2] w fun e w' => e = .returned (.bool true) ∧ Below w.heap.size w w' := by
  have HD := Lib.hid (drawFairestOf_any a len cap zs w h)
  have hl := rowL_len h
  have hl2 := rowL_len h2
  have HMR := Lib.hid (row_bytes h2)
  clear h h2
  by_cases hbig : 1048576 < len
  · go_enter Try.func9, Try.ntmps9
    go_wp2_with fail
    go_ret
    exact ⟨rfl, Below.refl _ _⟩
  by_cases hbig2 : 1048576 < len2
  · go_enter Try.func9, Try.ntmps9
    go_wp2_with fail
    go_ret
    exact ⟨rfl, Below.refl _ _⟩
  go_enter Try.func9, Try.ntmps9
  go_wp2_with fail
  refine HD.out.mono ?_
  clear HD
  rintro e w1 ⟨p, d, rfl, hp1, hp2, hd1, hd2, hb⟩
  have Q1 := Lib.hid hb
  clear hb
  go_wp2_with fail
  refine (implFairestOf_any p d w1).mono ?_
  rintro e w2 ⟨v2, rfl, ho2, hb2⟩
  have Q2 := Lib.hid (Q1.out.trans (hb2.mono Q1.out.size))
  have O2 := Lib.hid ho2
  clear ho2 hb2
  go_wp2_with fail
  refine (specFairestOf_any p d w2).mono ?_
  rintro e w3 ⟨v3, rfl, ho3, hb3⟩
  have D3 := Lib.hid hb3
  have Y3 := Lib.hid (IsInts.of_owns ho3)
  clear ho3 hb3
  go_wp2_with fail
  refine (sameInts_any v2 v3 (fairest p d) (fairest p d) w3 ((IsInts.of_owns O2.out).below D3.out) Y3.out).mono ?_
  rintro e w4 ⟨rfl, n4, rfl⟩
  rw [(beq_self_h (fairest p d)).out]
  have D4 := Lib.hid (below_drewN D3.out n4)
  have Q4 := Lib.hid (Q2.out.trans (D4.out.mono Q2.out.size))
  clear Y3 D3
  generalize w3.drewN n4 = w4 at *
  have ho := O2.out
  by_cases hin : 1 ≤ p ∧ p ≤ 6 ∧ 0 ≤ d ∧ d ≤ 30
  · obtain ⟨h1, h6, hd0, hd30⟩ := hin
    obtain ⟨n, rfl⟩ : ∃ n : Nat, p = n := ⟨p.toNat, by omega⟩
    rw [fairest_yes h1 h6 hd0 hd30, Int.toNat_natCast] at ho
    have hn1 : 1 ≤ n := by omega
    have HEL := Lib.hid (even_length n d)
    have HEB := Lib.hid (even_bd n d hn1 hd0 hd30)
    have HET := Lib.hid (even_tot n d hn1)
    have hokE : loadsOk (even n d) = true := loadsOk_iff.2 ⟨by rw [even_length]; omega, by rw [even_length]; omega, even_bd n d hn1 hd0 hd30⟩
    have HSPR := Lib.hid (even_spread hokE)
    obtain ⟨g, c, rfl, hc1, hc2, hgl, HCL⟩ := owns_form ho HEL.out (by omega)
    have HXI : Hid (IsInts w2 (.slice (some ⟨g, 0, none⟩) n c) (even n d)) := Lib.hid (IsInts.of_owns ho)
    have HCW : Hid (∀ W, Below w2.heap.size w2 W → ∀ k (hk : k < (even n d).length), W.cell? ⟨g, k, none⟩ = some (.int .i64 (even n d)[k])) := by
      have : ∀ W, Below w2.heap.size w2 W → ∀ k (hk : k < (even n d).length), W.cell? ⟨g, k, none⟩ = some (.int .i64 (even n d)[k]) := fun W hB k hk => (hB.cell (p := ⟨g, k, none⟩) hgl).trans (HCL.out k hk)
      exact Lib.hid this
    have hnz : ((n : Int) == 0) = false := beq_false_of_ne (by omega)
    clear ho O2 HCL hgl hokE
    obtain ⟨i0, hi, hz0, hz1, hz2⟩ := info_parts infoIntA
    have hsz : i0.bytes * n ≤ 281474976710656 := by rw [hz2]; omega
    have HI := Lib.hid hi
    have HZ0 := Lib.hid hz0
    have HZ1 := Lib.hid hz1
    have HSZ := Lib.hid hsz
    clear hi hz0 hz1 hz2 hsz
    go_wp2_with fail
    go_loop [8, 9] (fun s i => ∃ (k : Nat) (T : Int), k ≤ n ∧ i = .int .i64 k ∧ s = .int .i64 T ∧ Hid (T = tot ((even n d).take k))) (fun _ i => n - (intOf i).toNat)
    case atStart => exact ⟨0, 0, Nat.zero_le _, rfl, rfl, Lib.hid rfl⟩
    case round =>
      obtain ⟨k, T, hk, rfl, rfl, HT⟩ := hrel
      have hT := tot_bd HEB.out k
      rw [← HT.out] at hT
      by_cases hlt : k < n
      · have hcx := HCW.out w4 D4.out k (by rw [HEL.out]; exact hlt)
        have hc0 := HEB.out _ (List.getElem_mem (by rw [HEL.out]; exact hlt))
        have HS := Lib.hid (tot_snoc (even n d) k (by rw [HEL.out]; exact hlt))
        generalize (even n d)[k]'(by rw [HEL.out]; exact hlt) = x at hcx HS hc0
        go_wp2
        go_round
        case rel => exact ⟨k + 1, T + x, by omega, by go_num, by go_num, Lib.hid (by rw [HS.out, HT.out])⟩
        case measure => simp [intOf]; omega
      · have hkn : k = n := by omega
        have HTD : Hid (T = d) := by
          have : T = d := by rw [HT.out, hkn, List.take_of_length_le (Nat.le_of_eq HEL.out), HET.out]
          exact Lib.hid this
        have hTT : (T == d) = true := by rw [HTD.out]; simp
        clear HT hT hkn HTD
        go_wp2_with (at_make; refine wpList_make_full _ rfl _ _ 23 rfl w4.heap.size 3 i0 (.int .i64 0) 1 Try.underlying23 HI.out HZ0.out HZ1.out .i64 .i64 _ _ n rfl rfl rfl rfl HSZ.out (by unfold maxLen; omega) (Nat.le_refl _) ?_; intro w5 hown5 hgrow5)
        have hown0 : w5.ownsRow w4.heap.size 3 1 (.slice (some ⟨w4.heap.size, 0, none⟩) n n) n ((List.replicate n 0).map (Value.int .i64)) := by
          have e : (madeCells (Value.int .i64 0).cells (n * 1)).toList = (List.replicate n (0 : Int)).map (Value.int .i64) := by
            rw [Nat.mul_one, List.map_replicate]
            exact toList_madeCells_one _ _
          rw [← e]; exact hown5
        have HOWN := Lib.hid hown0
        have HBL5 : Hid (Below w4.heap.size w4 w5) := Lib.hid ((Below.refl _ _).grown hgrow5 (Nat.le_refl _) (fun k e => by cases e))
        have HST0 := Lib.hid (OtherRow.start n d)
        clear hown0 hown5 hgrow5
        go_loopw [11, 12, 13] (fun l i _ wr => ∃ (k : Nat) (L : Int) (os : List Int), k ≤ n ∧ i = .int .i64 k ∧ l = .int .i64 L ∧ 0 ≤ L ∧ L ≤ 30 ∧ Hid (OtherRow n k d L os) ∧ Hid (wr.ownsRow w4.heap.size 3 1 (.slice (some ⟨w4.heap.size, 0, none⟩) n n) n (os.map (Value.int .i64))) ∧ Hid (Below w4.heap.size w4 wr)) (fun _ i _ _ => n - (intOf i).toNat)
        case atStart => exact ⟨0, d, List.replicate n 0, Nat.zero_le _, rfl, rfl, hd0, hd30, HST0, HOWN, HBL5⟩
        case round =>
          obtain ⟨k, L, os, hk, rfl, rfl, hL0, hL1, HOT, HOW, HBW⟩ := hrel
          clear HOWN HBL5 HST0
          by_cases hlt : k < n
          · by_cases hA : k + 1 < n ∧ 0 < len2
            · obtain ⟨hA1, hA2⟩ := hA
              obtain ⟨mb, moff, z, rfl, hmb, hmz⟩ := HMR.out.resolve_left (by omega)
              obtain ⟨ix, hix⟩ : ∃ ix : Nat, k % len2 = ix := ⟨_, rfl⟩
              have hixl : ix < len2 := by rw [← hix]; exact Nat.mod_lt _ hA2
              have hm1 : (k : Int).tmod (len2 : Int) = (ix : Int) := by rw [← hix]; rfl
              have hm2 : (k : Int) % (len2 : Int) = (ix : Int) := by rw [← hix]; rfl
              obtain ⟨hz1, hz2⟩ := hmz ix hixl
              have hmc : wr.cell? ⟨mb, moff + ix, none⟩ = some (.int .u8 (z ix : Int)) := ((Q4.out.trans (HBW.out.mono Q4.out.size)).cell (p := ⟨mb, moff + ix, none⟩) hmb).trans hz2
              obtain ⟨zz, hzz⟩ : ∃ zz : Nat, z ix = zz := ⟨_, rfl⟩
              rw [hzz] at hmc hz1
              obtain ⟨vv, hvv⟩ : ∃ vv : Int, (zz : Int) % (L + 1) = vv := ⟨_, rfl⟩
              have hv0 : 0 ≤ vv := by rw [← hvv]; exact Int.emod_nonneg _ (by omega)
              have hv1 : vv < L + 1 := by rw [← hvv]; exact Int.emod_lt_of_pos _ (by omega)
              have hm3 : (zz : Int).tmod (L + 1) = vv := by rw [← hvv]; exact Int.tmod_eq_emod_of_nonneg (by omega)
              have hw1 : IntKind.i64.wrap (zz : Int) = zz := IntWalk.i64_in _ (by omega)
              have hw2 : IntKind.i64.wrap vv = vv := IntWalk.i64_in _ (by omega)
              have hw3 : IntKind.i64.wrap (ix : Int) = ix := IntWalk.i64_in _ (by omega)
              clear hix hmz hz2 hzz
              have hml : os.length = n := HOT.out.len
              have hcl := HOW.out.cellAt k (by omega)
              obtain ⟨cc, hcell⟩ : ∃ cc, wr.cell? ⟨w4.heap.size, k, none⟩ = some (.int .i64 cc) := ⟨os[k]'(by omega), by rw [hcl]; simp [hml, hlt]⟩
              have hfr := HOW.out.frozenAt k
              have hbs := HBW.out.size
              have hst := HOW.out.stored k (.int .i64 (vv))
              rw [← List.map_set] at hst
              have HST := Lib.hid hst.1
              have HBS := Lib.hid (HBW.out.setCell (p := ⟨w4.heap.size, k, none⟩) (Nat.le_refl _) (.int .i64 (vv)))
              have HOS := Lib.hid (HOT.out.step hlt (vv) (by omega) (by omega))
              clear hst hcl hml
              go_wp2
              go_roundw
              case rel => exact ⟨k + 1, L - vv, os.set k vv, by omega, by go_num, by go_num, by omega, by omega, HOS, HST, HBS⟩
              case measure => simp [intOf]; omega
            · have hB : ¬ k + 1 < n ∨ (k + 1 < n ∧ ¬ 0 < len2) := by omega
              have hml : os.length = n := HOT.out.len
              have hcl := HOW.out.cellAt k (by omega)
              obtain ⟨cc, hcell⟩ : ∃ cc, wr.cell? ⟨w4.heap.size, k, none⟩ = some (.int .i64 cc) := ⟨os[k]'(by omega), by rw [hcl]; simp [hml, hlt]⟩
              have hfr := HOW.out.frozenAt k
              have hbs := HBW.out.size
              have hst := HOW.out.stored k (.int .i64 (L))
              rw [← List.map_set] at hst
              have HST := Lib.hid hst.1
              have HBS := Lib.hid (HBW.out.setCell (p := ⟨w4.heap.size, k, none⟩) (Nat.le_refl _) (.int .i64 (L)))
              have HOS := Lib.hid (HOT.out.step hlt (L) (by omega) (by omega))
              clear hst hcl hml
              clear hA
              rcases hB with hB | ⟨hB, hB2⟩
              · go_wp2
                go_roundw
                case rel => exact ⟨k + 1, L - L, os.set k L, by omega, by go_num, by go_num, by omega, by omega, HOS, HST, HBS⟩
                case measure => simp [intOf]; omega
              · go_wp2
                go_roundw
                case rel => exact ⟨k + 1, L - L, os.set k L, by omega, by go_num, by go_num, by omega, by omega, HOS, HST, HBS⟩
                case measure => simp [intOf]; omega
          · have hkn : k = n := by omega
            have DW := Lib.hid (D4.out.trans (HBW.out.mono D4.out.size))
            have HXW := Lib.hid (HXI.out.below DW.out)
            have QW := Lib.hid (Q2.out.trans (DW.out.mono Q2.out.size))
            have hnn : ((n : Int) == (n : Int)) = true := by simp
            have HC := Lib.hid (implSpreadOf_any _ (even n d) wr HXW.out)
            have hsp := HSPR.out
            generalize spreadOf (even n d) = sp at *
            go_wp2_with fail
            refine HC.out.mono ?_
            rintro e w6 ⟨rfl, hb6⟩
            by_cases hL : L = 0
            · have hfair : fairB (even n d) os = true := by
                have hsum := HOT.out.sum
                have hok : loadsOk os = true := loadsOk_iff.2 ⟨by rw [HOT.out.len]; omega, by rw [HOT.out.len]; omega, HOT.out.bd⟩
                have := (even_fair hok (by omega)).2
                rw [HOT.out.len, show tot os = d by omega] at this
                exact this
              have HFA := Lib.hid hfair
              have HOI : Hid (IsInts wr (.slice (some ⟨w4.heap.size, 0, none⟩) n n) os) := by
                have : IsInts wr (.slice (some ⟨w4.heap.size, 0, none⟩) n n) os := by
                  refine IsInts.of_owns (base := w4.heap.size) (e := 3) ?_
                  rw [HOT.out.len]
                  exact HOW.out
                exact Lib.hid this
              have HO6 := Lib.hid (HOI.out.below hb6)
              have HX6 := Lib.hid (HXW.out.below hb6)
              have Q6 := Lib.hid (QW.out.trans (hb6.mono QW.out.size))
              have hL' : (L != 0) = false := by simp [hL]
              clear hfair hL hb6 HOI
              go_wp2_with fail
              refine (implFairerOk_any _ _ (even n d) os w6 HX6.out HO6.out).mono ?_
              rintro e w7 ⟨rfl, hb7⟩
              rw [HFA.out]
              have Q7 := Lib.hid (Q6.out.trans (hb7.mono Q6.out.size))
              clear hb7
              go_wp2
              go_ret
              exact ⟨by first | rfl | exact ret_bool (by simp [hsp]), Q7.out⟩
            · have hL' : (L != 0) = true := by simp [hL]
              have Q6 := Lib.hid (QW.out.trans (hb6.mono QW.out.size))
              clear hL hb6
              go_wp2
              go_ret
              exact ⟨by first | rfl | exact ret_bool (by simp [hsp]), Q6.out⟩
  · have hfe : fairest p d = [] := fairest_no (by omega)
    rw [hfe] at ho
    obtain ⟨a5, c5, rfl⟩ := ownsRow_nilform ho
    clear ho hfe hin O2
    go_wp2_with (go_at_call 22; refine (aliveL_any _).mono ?_; rintro e w' ⟨rfl, rfl⟩)
    go_ret
    exact ⟨rfl, Q4.out⟩
end Go.Proofs.Ythdpeholeelhdaa
