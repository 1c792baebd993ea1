/- FairestOf, StepsToFair, GivenOn of the program: what each returns. No condition. -/
import Derived.Test.YthdpeholeelhdaaLoadMoreI
namespace Go.Proofs.Ythdpeholeelhdaa
open Go.RowKit

theorem fairest_yes {p d : Int} (h1 : 1 ≤ p) (h2 : p ≤ 6) (h3 : 0 ≤ d) (h4 : d ≤ 30) : fairest p d = even p.toNat d := by simp [fairest, h1, h2, h3, h4]
theorem fairest_no {p d : Int} (h : p < 1 ∨ 6 < p ∨ d < 0 ∨ 30 < d) : fairest p d = [] := by
  unfold fairest
  rw [if_neg]
  simp only [Bool.and_eq_true, decide_eq_true_eq]
  omega

theorem implFairestOf_any (p d : Int) (w : World) : Calls Try.prog 37 #[.int .i64 p, .int .i64 d] w (CopyPost (fairest p d) w) := by
  by_cases h1 : p < 1
  · rw [fairest_no (.inl h1)]
    go_enter Try.func37, Try.ntmps37
    go_wp2
    go_ret
    exact CopyPost.nil w (Below.refl _ _)
  by_cases h2 : 6 < p
  · rw [fairest_no (.inr (.inl h2))]
    go_enter Try.func37, Try.ntmps37
    go_wp2
    go_ret
    exact CopyPost.nil w (Below.refl _ _)
  by_cases h3 : d < 0
  · rw [fairest_no (.inr (.inr (.inl h3)))]
    go_enter Try.func37, Try.ntmps37
    go_wp2
    go_ret
    exact CopyPost.nil w (Below.refl _ _)
  by_cases h4 : 30 < d
  · rw [fairest_no (.inr (.inr (.inr h4)))]
    go_enter Try.func37, Try.ntmps37
    go_wp2
    go_ret
    exact CopyPost.nil w (Below.refl _ _)
  rw [fairest_yes (by omega) (by omega) (by omega) (by omega)]
  obtain ⟨n, rfl⟩ : ∃ n : Nat, p = n := ⟨p.toNat, by omega⟩
  have HC := Lib.hid (evenShares_any n d w (by omega) (by omega) (by omega) (by omega))
  rw [Int.toNat_natCast]
  go_enter Try.func37, Try.ntmps37
  go_wp2_with fail
  refine HC.out.mono ?_
  rintro e w1 ⟨v, rfl, ho⟩
  go_wp2
  go_ret
  exact ⟨v, rfl, ho⟩

set_option maxHeartbeats 1600000 in
theorem implSteps_any (v : Value) (xs : List Int) (w : World) (h : IsInts w v xs) :
    Calls Try.prog 31 #[v] w fun e w' => e = .returned (.int .i64 (stepsOf xs)) ∧ Below w.heap.size w w' := by
  have HOK := Lib.hid (implLoadsOk_any v xs w h)
  have H := Lib.hid h
  obtain ⟨a, cap, rfl⟩ : ∃ a cap, v = .slice a xs.length cap := by obtain ⟨a, cap, rfl, _⟩ := h; exact ⟨a, cap, rfl⟩
  clear h
  cases hb : loadsOk xs with
  | false =>
    have HS := Lib.hid (stepsOf_no hb)
    rw [hb] at HOK
    clear hb
    go_enter Try.func31, Try.ntmps31
    go_wp2_with (go_at_call 20; refine HOK.out.mono ?_; rintro e w' ⟨rfl, n, rfl⟩)
    go_ret
    exact ⟨ret_int HS.out.symm, below_drewN (Below.refl _ _) n⟩
  | true =>
    have HS := Lib.hid (stepsOf_yes hb)
    have HL := Lib.hid (loadsOk_iff.1 hb).2.2
    have HSO := Lib.hid (sortedOf_yes hb)
    have HSL := Lib.hid (sort_loads hb)
    have h6 := (loadsOk_iff.1 hb).2.1
    have h1 := (loadsOk_iff.1 hb).1
    have HLN := Lib.hid (sortD_length xs)
    have HEV := Lib.hid (even_length xs.length (tot xs))
    have ht := tot_bd (loadsOk_iff.1 hb).2.2 xs.length
    rw [List.take_length] at ht
    have HE0 : Hid (∀ x ∈ even xs.length (tot xs), 0 ≤ x) := by
      have : ∀ x ∈ even xs.length (tot xs), 0 ≤ x := fun x hx => by
        have := Int.ediv_nonneg ht.1 (by omega : (0 : Int) ≤ xs.length)
        rcases even_two _ _ x hx with rfl | rfl <;> omega
      exact Lib.hid this
    have HE1 : Hid (∀ x ∈ even xs.length (tot xs), x ≤ 181) := by
      have : ∀ x ∈ even xs.length (tot xs), x ≤ 181 := fun x hx => by
        have := Int.ediv_le_self (xs.length : Int) ht.1
        rcases even_two _ _ x hx with rfl | rfl <;> omega
      exact Lib.hid this
    rw [hb] at HOK
    clear hb
    go_enter Try.func31, Try.ntmps31
    go_wp2_with fail
    refine HOK.out.mono ?_
    clear HOK
    rintro e w1 ⟨rfl, n, rfl⟩
    have HB := Lib.hid (below_drewN (Below.refl w.heap.size w) n)
    generalize w.drewN n = w1 at HB ⊢
    have HC1 := Lib.hid (sumOf_any _ xs w1 (H.out.below HB.out) HL.out (by omega))
    generalize tot xs = T at *
    go_wp2_with fail
    refine HC1.out.mono ?_
    clear HC1
    rintro e w2 ⟨rfl, rfl⟩
    have HC2 := Lib.hid (evenShares_any xs.length T w1 h1 h6 ht.1 (by omega))
    go_wp2_with fail
    refine HC2.out.mono ?_
    clear HC2
    rintro e w2 ⟨ev, rfl, hoe, hbe⟩
    have hie := IsInts.of_owns hoe
    have HB2 := Lib.hid (HB.out.trans (hbe.mono HB.out.size))
    have HC3 := Lib.hid (implSorted_any _ xs w2 (H.out.below HB2.out))
    obtain ⟨ae, cpe, rfl, hae⟩ : ∃ ae cpe, ev = .slice ae xs.length cpe ∧ (even xs.length T).length ≤ cpe := by obtain ⟨a, c, rfl, h, _⟩ := hie; exact ⟨a, c, by rw [HEV.out], h⟩
    have HIE := Lib.hid hie
    clear hoe hbe hie HB
    go_wp2_with fail
    refine HC3.out.mono ?_
    clear HC3
    rintro e w3 ⟨sv, rfl, hos, hbs⟩
    have his := IsInts.of_owns hos
    have HB3 := Lib.hid (HB2.out.trans (hbs.mono HB2.out.size))
    rw [HSO.out] at his
    obtain ⟨sa, sc, rfl, has⟩ : ∃ sa sc, sv = .slice sa xs.length sc ∧ (sortD xs).length ≤ sc := by obtain ⟨a, c, rfl, h, _⟩ := his; exact ⟨a, c, by rw [HLN.out], h⟩
    have HC1 : Hid (∀ k (hk : k < xs.length), ∃ g off, sa = some ⟨g, off, none⟩ ∧ w3.cell? ⟨g, off + k, none⟩ = some (.int .i64 ((sortD xs)[k]'(by rw [HLN.out]; exact hk)))) := by
      have : ∀ k (hk : k < xs.length), ∃ g off, sa = some ⟨g, off, none⟩ ∧ w3.cell? ⟨g, off + k, none⟩ = some (.int .i64 ((sortD xs)[k]'(by rw [HLN.out]; exact hk))) := fun k hk => by
        obtain ⟨a', c', e, _, _, hc⟩ := his
        simp only [Value.slice.injEq] at e
        obtain ⟨rfl, _, rfl⟩ := e
        have hl := HLN.out
        obtain ⟨g, off, rfl, _, hc⟩ := hc.resolve_left (fun h => by rw [h] at hl; simp at hl; omega)
        exact ⟨g, off, rfl, hc k (by rw [hl]; exact hk)⟩
      exact Lib.hid this
    have HC2 : Hid (∀ k (hk : k < xs.length), ∃ g off, ae = some ⟨g, off, none⟩ ∧ w3.cell? ⟨g, off + k, none⟩ = some (.int .i64 ((even xs.length T)[k]'(by rw [HEV.out]; exact hk)))) := by
      have : ∀ k (hk : k < xs.length), ∃ g off, ae = some ⟨g, off, none⟩ ∧ w3.cell? ⟨g, off + k, none⟩ = some (.int .i64 ((even xs.length T)[k]'(by rw [HEV.out]; exact hk))) := fun k hk => by
        obtain ⟨a', c', e, _, _, hc⟩ := HIE.out.below hbs
        simp only [Value.slice.injEq] at e
        obtain ⟨rfl, _, rfl⟩ := e
        have hl := HEV.out
        obtain ⟨g, off, rfl, _, hc⟩ := hc.resolve_left (fun h => by rw [h] at hl; simp at hl; omega)
        exact ⟨g, off, rfl, hc k (by rw [hl]; exact hk)⟩
      exact Lib.hid this
    rw [HLN.out] at has
    rw [HEV.out] at hae
    clear his hos hbs HB2 HIE
    go_wp2_with fail
    go_loop [4, 5, 6, 18] (fun s _ _ i => ∃ (k : Nat) (S : Int), k ≤ xs.length ∧ i = .int .i64 k ∧ s = .int .i64 S ∧ Hid (S = stepTo (sortD xs) (even xs.length T) k)) (fun _ _ _ i => xs.length - (intOf i).toNat)
    case atStart => exact ⟨0, 0, Nat.zero_le _, rfl, rfl, Lib.hid rfl⟩
    case round =>
      obtain ⟨k, S, hk, rfl, rfl, HT⟩ := hrel
      have hT := stepTo_bd (s := sortD xs) (e := even xs.length T) (fun x hx => (HSL.out x hx).2) HE0.out k (by rw [HLN.out]; exact hk) (by rw [HEV.out]; exact hk)
      rw [← HT.out] at hT
      by_cases hlt : k < xs.length
      · obtain ⟨g, off, rfl, hc1⟩ := HC1.out k hlt
        obtain ⟨g2, off2, rfl, hc2⟩ := HC2.out k hlt
        have HX := Lib.hid (stepTo_step (s := sortD xs) (e := even xs.length T) (k := k) (by rw [HLN.out]; exact hlt) (by rw [HEV.out]; exact hlt))
        have b1 := HSL.out _ (List.getElem_mem (by rw [HLN.out]; exact hlt))
        have b2 := HE0.out _ (List.getElem_mem (by rw [HEV.out]; exact hlt))
        have b3 := HE1.out _ (List.getElem_mem (by rw [HEV.out]; exact hlt))
        generalize (sortD xs)[k]'(by rw [HLN.out]; exact hlt) = c at hc1 b1 HX
        generalize (even xs.length T)[k]'(by rw [HEV.out]; exact hlt) = d at hc2 b2 b3 HX
        obtain ⟨mm, hmm⟩ : ∃ mm, max 0 (c - d) = mm := ⟨_, rfl⟩
        have hm0 : 0 ≤ mm := by omega
        have hm1 : mm ≤ 30 := by omega
        rw [hmm] at HX
        go_wp2
        go_round
        case rel => exact ⟨k + 1, S + mm, by omega, by go_num, by first | rfl | go_num | (simp [hmm]; done), Lib.hid (by rw [HX.out, HT.out])⟩
        case measure => simp [intOf]; omega
      · obtain rfl : k = xs.length := by omega
        go_wp2
        go_ret
        exact ⟨ret_int (by rw [HS.out, HT.out]), HB3.out⟩
end Go.Proofs.Ythdpeholeelhdaa
