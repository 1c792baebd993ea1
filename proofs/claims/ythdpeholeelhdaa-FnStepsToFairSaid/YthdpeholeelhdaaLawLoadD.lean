/- The walk of FnStepsToFair: true at every code. No condition. -/
import Derived.Test.YthdpeholeelhdaaLawLoadB
namespace Go.Proofs.Ythdpeholeelhdaa
open Go.RowKit

theorem GivPost.yes {xs : List Int} {f t : Int} {w w' : World} {e : Ending} (h : GivPost xs f t w e w') (hg : givOk xs f t = true) : ∃ v, e = .returned (.tuple #[v, .bool true]) ∧ w'.ownsRow w.heap.size 3 1 v (givRow xs f.toNat t.toNat).length ((givRow xs f.toNat t.toNat).map (Value.int .i64)) ∧ Below w.heap.size w w' := by
  obtain ⟨v, he, ho, hb⟩ := h
  have e1 : givList xs f t = givRow xs f.toNat t.toNat := by simp [givList, hg]
  rw [hg] at he
  rw [e1] at ho
  exact ⟨v, he, ho, hb⟩
theorem GivPost.none {xs : List Int} {f t : Int} {w w' : World} {e : Ending} (h : GivPost xs f t w e w') (hg : givOk xs f t = false) : ∃ a c, e = .returned (.tuple #[.slice a 0 c, .bool false]) ∧ IsInts w' (.slice a 0 c) [] ∧ Below w.heap.size w w' := by
  obtain ⟨v, he, ho, hb⟩ := h
  have e1 : givList xs f t = [] := by simp [givList, hg]
  rw [hg] at he
  rw [e1] at ho
  obtain ⟨a, c, rfl⟩ := ownsRow_nilform ho
  exact ⟨a, c, he, IsInts.of_owns (xs := []) ho, hb⟩

set_option maxHeartbeats 6400000 in
theorem lawStepsToFair_walk {w : World} (a : Option Addr) (len cap : Nat) (zs : List Int) (h : IsRow .u8 w a len cap zs) :
    Calls Try.prog 10 #[.slice a len cap] w fun e w' => e = .returned (.bool true) ∧ Below w.heap.size w w' := by
  have HD := Lib.hid (drawStepsToFair_any a len cap zs w h)
  have hl := rowL_len h
  clear h
  by_cases hbig : 1048576 < len
  · go_enter Try.func10, Try.ntmps10
    go_wp2_with fail
    go_ret
    exact ⟨rfl, Below.refl _ _⟩
  go_enter Try.func10, Try.ntmps10
  go_wp2_with fail
  refine HD.out.mono ?_
  clear HD
  rintro e w1 ⟨xs, v, rfl, hs, ho, hb⟩
  obtain ⟨b, c, rfl, hc1, hc2, hI⟩ := drawn_form ho
  have hx7 := hs.1
  have I1 := Lib.hid hI
  have Q1 := Lib.hid hb
  clear hI ho hb hs
  go_wp2_with fail
  refine (implSteps_any _ xs w1 I1.out).mono ?_
  rintro e w2 ⟨rfl, hb2⟩
  have I2 := Lib.hid (I1.out.below hb2)
  have Q2 := Lib.hid (Q1.out.trans (hb2.mono Q1.out.size))
  clear hb2 I1 Q1
  have hne : (stepsOf xs != stepsOf xs) = false := by simp
  go_wp2_with fail
  refine (specSteps_any _ xs w2 I2.out).mono ?_
  rintro e w3 ⟨rfl, hb3⟩
  have I3 := Lib.hid (I2.out.below hb3)
  have Q3 := Lib.hid (Q2.out.trans (hb3.mono Q2.out.size))
  clear hb3 I2 Q2
  cases hok : loadsOk xs with
  | false =>
    have HC := Lib.hid (implLoadsOk_c _ xs w3 I3.out)
    rw [hok] at HC
    rw [stepsOf_no hok] at hne ⊢
    clear hok
    go_wp2_with fail
    refine HC.out.mono ?_
    rintro e w5 ⟨rfl, hb5⟩
    have Q5 := Lib.hid (Q3.out.trans (hb5.mono Q3.out.size))
    clear hb5
    go_wp2_with (go_at_call 22; refine (aliveL_any _).mono ?_; rintro e w' ⟨rfl, rfl⟩)
    go_ret
    exact ⟨rfl, Q5.out⟩
  | true =>
    have HOK := Lib.hid hok
    have h1 := (loadsOk_iff.1 hok).1
    have h6 := (loadsOk_iff.1 hok).2.1
    have HSS := Lib.hid (steps_spread hok)
    have hst := steps_nonneg hok
    have HGB := Lib.hid (fun hn F T hF hT hmx hmn => giv_best hok hn F T hF hT hmx hmn)
    clear hok
    obtain ⟨n, hn⟩ : ∃ n, stepsOf xs = n := ⟨_, rfl⟩
    have HN := Lib.hid hn
    rw [hn] at hne hst HSS ⊢
    clear hn
    have hI3 := I3.out
    obtain ⟨ai, ci, hsl, _, _, hcell⟩ := hI3
    simp only [Value.slice.injEq, true_and] at hsl
    obtain ⟨rfl, rfl⟩ := hsl
    obtain ⟨g, off, rfl, hg, hc⟩ := hcell.resolve_left (fun h => by rw [h] at h1; exact absurd h1 (by simp))
    have HCC := Lib.hid hc
    clear hc hcell hg
    go_wp2_with fail
    go_loopw [5, 6, 7] (fun u v i wr => ∃ (F T k d : Nat), F < xs.length ∧ T < xs.length ∧ k ≤ xs.length ∧ u = .int .i64 F ∧ v = .int .i64 T ∧ i = .int .i64 k ∧ wr = w3.drewN d ∧ Hid (∀ (hF : F < xs.length) j (h : j < xs.length), j < k → xs[j] ≤ xs[F]) ∧ Hid (∀ (hT : T < xs.length) j (h : j < xs.length), j < k → xs[T] ≤ xs[j])) (fun _ _ i _ => xs.length - (intOf i).toNat)
    case atStart => exact ⟨0, 0, 0, 0, h1, h1, Nat.zero_le _, rfl, rfl, rfl, rfl, Lib.hid (fun _ j _ h => absurd h (Nat.not_lt_zero j)), Lib.hid (fun _ j _ h => absurd h (Nat.not_lt_zero j))⟩
    case round =>
      obtain ⟨F, T, k, d, hF, hT, hk, rfl, rfl, rfl, rfl, HFM, HTM⟩ := hrel
      by_cases hlt : k < xs.length
      · have y1 : (w3.drewN d).cell? ⟨g, off + k, none⟩ = _ := HCC.out k hlt
        have y2 : (w3.drewN d).cell? ⟨g, off + F, none⟩ = _ := HCC.out F hF
        have y3 : (w3.drewN d).cell? ⟨g, off + T, none⟩ = _ := HCC.out T hT
        have HWD : Hid (∀ m, ∃ d', (w3.drewN d).drewN m = w3.drewN d') := by
          have := fun m => (⟨d + m, by rw [World.drewN_drewN]⟩ : ∃ d', (w3.drewN d).drewN m = w3.drewN d')
          exact Lib.hid this
        generalize w3.drewN d = W at y1 y2 y3 HWD ⊢
        obtain ⟨x1, hx1⟩ : ∃ x, xs[k] = x := ⟨_, rfl⟩
        obtain ⟨x2, hx2⟩ : ∃ x, xs[F] = x := ⟨_, rfl⟩
        obtain ⟨x3, hx3⟩ : ∃ x, xs[T] = x := ⟨_, rfl⟩
        rw [hx1] at y1
        rw [hx2] at y2
        rw [hx3] at y3
        have HF1 : Hid (x2 < x1 → ∀ (hF : k < xs.length) j (h : j < xs.length), j < k + 1 → xs[j] ≤ xs[k]) := by
          have : x2 < x1 → ∀ (hF : k < xs.length) j (h : j < xs.length), j < k + 1 → xs[j] ≤ xs[k] := fun hx _ j hj hjk => by
            by_cases e : j = k
            · subst e; exact Int.le_refl _
            · have := HFM.out hF j hj (by omega)
              omega
          exact Lib.hid this
        have HF2 : Hid (¬ x2 < x1 → ∀ (hF : F < xs.length) j (h : j < xs.length), j < k + 1 → xs[j] ≤ xs[F]) := by
          have : ¬ x2 < x1 → ∀ (hF : F < xs.length) j (h : j < xs.length), j < k + 1 → xs[j] ≤ xs[F] := fun hx _ j hj hjk => by
            by_cases e : j = k
            · subst e; omega
            · exact HFM.out hF j hj (by omega)
          exact Lib.hid this
        have HT1 : Hid (x1 < x3 → ∀ (hT : k < xs.length) j (h : j < xs.length), j < k + 1 → xs[k] ≤ xs[j]) := by
          have : x1 < x3 → ∀ (hT : k < xs.length) j (h : j < xs.length), j < k + 1 → xs[k] ≤ xs[j] := fun hx _ j hj hjk => by
            by_cases e : j = k
            · subst e; exact Int.le_refl _
            · have := HTM.out hT j hj (by omega)
              omega
          exact Lib.hid this
        have HT2 : Hid (¬ x1 < x3 → ∀ (hT : T < xs.length) j (h : j < xs.length), j < k + 1 → xs[T] ≤ xs[j]) := by
          have : ¬ x1 < x3 → ∀ (hT : T < xs.length) j (h : j < xs.length), j < k + 1 → xs[T] ≤ xs[j] := fun hx _ j hj hjk => by
            by_cases e : j = k
            · subst e; omega
            · exact HTM.out hT j hj (by omega)
          exact Lib.hid this
        clear hx1 hx2 hx3 HFM HTM
        by_cases c1 : x2 < x1
        · by_cases c2 : x1 < x3
          · go_wp2
            go_quiet (fail)
            go_wp2
            go_quiet (fail)
            go_wp2
            go_roundw
            case rel =>
              obtain ⟨d', hd'⟩ := HWD.out _
              exact ⟨k, k, k + 1, d', hlt, hlt, by omega, by go_num, by go_num, by go_num, hd', Lib.hid (HF1.out c1), Lib.hid (HT1.out c2)⟩
            case measure => simp [intOf]; omega
          · go_wp2
            go_quiet (fail)
            go_wp2
            go_quiet (fail)
            go_wp2
            go_roundw
            case rel =>
              obtain ⟨d', hd'⟩ := HWD.out _
              exact ⟨k, T, k + 1, d', hlt, hT, by omega, by go_num, by go_num, by go_num, hd', Lib.hid (HF1.out c1), Lib.hid (HT2.out c2)⟩
            case measure => simp [intOf]; omega
        · by_cases c2 : x1 < x3
          · go_wp2
            go_quiet (fail)
            go_wp2
            go_quiet (fail)
            go_wp2
            go_roundw
            case rel =>
              obtain ⟨d', hd'⟩ := HWD.out _
              exact ⟨F, k, k + 1, d', hF, hlt, by omega, by go_num, by go_num, by go_num, hd', Lib.hid (HF2.out c1), Lib.hid (HT1.out c2)⟩
            case measure => simp [intOf]; omega
          · go_wp2
            go_quiet (fail)
            go_wp2
            go_quiet (fail)
            go_wp2
            go_roundw
            case rel =>
              obtain ⟨d', hd'⟩ := HWD.out _
              exact ⟨F, T, k + 1, d', hF, hT, by omega, by go_num, by go_num, by go_num, hd', Lib.hid (HF2.out c1), Lib.hid (HT2.out c2)⟩
            case measure => simp [intOf]; omega
      · obtain rfl : k = xs.length := by omega
        have HMX : Hid (xs[F] = mx xs) := Lib.hid (mx_eq (List.getElem_mem hF) (fun x hx => by obtain ⟨j, hj, rfl⟩ := List.getElem_of_mem hx; exact HFM.out hF j hj hj))
        have HMN : Hid (xs[T] = mn xs) := Lib.hid (mn_eq (List.getElem_mem hT) (fun x hx => by obtain ⟨j, hj, rfl⟩ := List.getElem_of_mem hx; exact HTM.out hT j hj hj))
        have I4 := Lib.hid (I3.out.below (below_drewN (Below.refl _ _) d))
        have Q4 := Lib.hid (below_drewN Q3.out d)
        clear HFM HTM
        generalize w3.drewN d = w4 at *
        by_cases h0 : n = 0
        · have hn0 : (n == 0) = true := by simp [h0]
          have hsp := HSS.out.1 h0
          clear h0
          have HC := Lib.hid (implSpreadOf_any _ xs w4 I4.out)
          generalize spreadOf xs = z at *
          go_wp2_with fail
          refine HC.out.mono ?_
          rintro e w5 ⟨rfl, hb5⟩
          have Q5 := Lib.hid (Q4.out.trans (hb5.mono Q4.out.size))
          clear hb5
          go_wp2
          go_ret
          exact ⟨by first | rfl | exact ret_bool (by simp [hsp]), Q5.out⟩
        · have hn0 : (n == 0) = false := by simpa using h0
          obtain ⟨hgo, hgs⟩ := HGB.out (by rw [HN.out]; omega) F T hF hT HMX.out HMN.out
          rw [HN.out] at hgs
          have HGO := Lib.hid hgo
          have HGS := Lib.hid hgs
          have HSTEP : Hid (∀ f t : Int, givOk xs f t = true → ¬ stepsOf (givRow xs f.toNat t.toNat) < n - 1 ∧ 0 ≤ stepsOf (givRow xs f.toNat t.toNat)) := by
            have : ∀ f t : Int, givOk xs f t = true → ¬ stepsOf (givRow xs f.toNat t.toNat) < n - 1 ∧ 0 ≤ stepsOf (givRow xs f.toNat t.toNat) := fun f t h => by
              have h1 := giv_steps h
              have h2 := steps_nonneg (givOk_iff.1 h).2.2.2.2
              rw [HN.out] at h1
              omega
            exact Lib.hid this
          clear h0 hgo hgs HGB HSS
          go_wp2_with fail
          refine (implGivenOn_any _ xs F T w4 I4.out).mono ?_
          rintro e w5 hgp
          obtain ⟨v5, rfl, ho5, hb5⟩ := hgp.yes HGO.out
          have I5 := Lib.hid (I4.out.below hb5)
          have Q5 := Lib.hid (Q4.out.trans (hb5.mono Q4.out.size))
          have X5 := Lib.hid (IsInts.of_owns ho5)
          clear ho5 hb5 hgp
          go_wp2_with fail
          go_loopw [10, 11, 12, 13] (fun u _ _ _ wr => ∃ (i : Nat), i ≤ xs.length ∧ u = .int .i64 i ∧ Hid (Below w5.heap.size w5 wr)) (fun u _ _ _ _ => xs.length - (intOf u).toNat)
          case atStart => exact ⟨0, Nat.zero_le _, rfl, Lib.hid (Below.refl _ _)⟩
          case round =>
            obtain ⟨i, hi, rfl, HB⟩ := hrel
            by_cases hlt : i < xs.length
            · go_wp2_with fail
              go_loopw [11, 12, 13] (fun u _ _ wj => ∃ (j : Nat), j ≤ xs.length ∧ u = .int .i64 j ∧ Hid (Below w5.heap.size w5 wj)) (fun u _ _ _ => xs.length - (intOf u).toNat)
              case atStart => exact ⟨0, Nat.zero_le _, rfl, HB⟩
              case round =>
                obtain ⟨j, hj, rfl, HBJ⟩ := hrel
                by_cases hjt : j < xs.length
                · cases hgij : givOk xs i j with
                  | true =>
                    have HIJ := Lib.hid hgij
                    have HLS := Lib.hid (HSTEP.out i j hgij)
                    clear hgij
                    go_wp2_with fail
                    refine (implGivenOn_any _ xs i j wr (I5.out.below HBJ.out)).mono ?_
                    rintro e w6 hgp
                    obtain ⟨v6, rfl, ho6, hb6⟩ := hgp.yes HIJ.out
                    have B6 := Lib.hid (HBJ.out.trans (hb6.mono HBJ.out.size))
                    have X6 := Lib.hid (IsInts.of_owns ho6)
                    clear ho6 hb6 hgp
                    have HC := Lib.hid (implSteps_any _ _ w6 X6.out)
                    obtain ⟨hl1, hl2⟩ := HLS.out
                    generalize stepsOf (givRow xs (i : Int).toNat (j : Int).toNat) = m at *
                    clear HLS
                    go_wp2_with fail
                    refine HC.out.mono ?_
                    rintro e w7 ⟨rfl, hb7⟩
                    have B7 := Lib.hid (B6.out.trans (hb7.mono B6.out.size))
                    clear hb7
                    go_wp2
                    go_roundw
                    case rel => exact ⟨j + 1, by omega, by go_num, B7⟩
                    case measure => simp [intOf]; omega
                  | false =>
                    have HIJ := Lib.hid hgij
                    clear hgij
                    go_wp2_with fail
                    refine (implGivenOn_any _ xs i j wr (I5.out.below HBJ.out)).mono ?_
                    rintro e w6 hgp
                    obtain ⟨a6, c6, rfl, -, hb6⟩ := hgp.none HIJ.out
                    have B6 := Lib.hid (HBJ.out.trans (hb6.mono HBJ.out.size))
                    clear hb6 hgp
                    go_wp2
                    go_roundw
                    case rel => exact ⟨j + 1, by omega, by go_num, B6⟩
                    case measure => simp [intOf]; omega
                · have hjj : j = xs.length := by omega
                  go_wp2
                  go_roundw
                  case rel => exact ⟨i + 1, by omega, by go_num, HBJ⟩
                  case measure => simp [intOf]; omega
            · have hii : i = xs.length := by omega
              have HC := Lib.hid (implSteps_any _ _ wr (X5.out.below HB.out))
              rw [Int.toNat_natCast, Int.toNat_natCast, HGS.out] at HC
              have hself : (n - 1 == n - 1) = true := by simp
              clear hii
              go_wp2_with fail
              refine HC.out.mono ?_
              rintro e w7 ⟨rfl, hb7⟩
              have B7 := Lib.hid (Q5.out.trans ((HB.out.trans (hb7.mono HB.out.size)).mono Q5.out.size))
              clear hb7
              go_wp2
              go_ret
              exact ⟨by first | rfl | exact ret_bool (by simp), B7.out⟩
end Go.Proofs.Ythdpeholeelhdaa
