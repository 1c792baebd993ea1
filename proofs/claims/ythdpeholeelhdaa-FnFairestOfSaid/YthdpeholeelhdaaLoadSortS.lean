/- l9Sorted and SortedLoads of the model: the loads from the greatest one down, in memory of the call's own. No condition. -/
import Derived.Test.YthdpeholeelhdaaAppOwn
namespace Go.Proofs.Ythdpeholeelhdaa
open Go.RowKit

theorem insD_at {ys : List Int} {x : Int} {p : Nat} (h : posD x ys = p) : (ys.take p ++ [x]) ++ ys.drop p = insD x ys := by
  subst h; simp [insD]
theorem Own.thin {wB w : World} {s t : Thing} {ts : List Thing} (h : Own wB (s :: t :: ts) w) : Own wB (s :: ts) w := h.sub (List.Sublist.cons_cons _ (List.sublist_cons_self _ _))

set_option maxHeartbeats 3200000 in
theorem l9Sorted_any (v : Value) (xs : List Int) (w : World) (h : IsInts w v xs) (hl6 : xs.length ≤ 6) :
    Calls Try.prog 57 #[v] w (CopyPost (sortD xs) w) := by
  obtain ⟨a, cap, rfl, ha1, ha2, ha⟩ := h
  have HA := Lib.hid ha
  unfold maxLen at ha2
  clear ha
  have h0 : Own w [rowT 3 1 (.slice (some ⟨w.heap.size, 0, none⟩) 0 0) 0 []] (w.alloc (.cells #[] 3)) := (Own.nil w).lit 3 #[] 0 rfl (Nat.zero_le _)
  go_enter Try.func57, Try.ntmps57
  go_wp2
  go_loopw [3, 4, 5, 6] (fun s i _ _ wr => ∃ (k : Nat) (ys : List Int) (g n cp : Nat), k ≤ xs.length ∧ i = .int .i64 k ∧ s = .slice (some ⟨g, 0, none⟩) n cp ∧ n ≤ cp ∧ cp ≤ 9223372036854775807 ∧ Hid (n = k) ∧ Hid (ys.length = n) ∧ Hid (ys = sortTo xs k) ∧ Hid (Own w [rowT 3 1 (.slice (some ⟨g, 0, none⟩) n cp) n (ys.map (Value.int .i64))] wr)) (fun _ i _ _ _ => xs.length - (intOf i).toNat)
  case atStart => exact ⟨0, [], w.heap.size, 0, 0, Nat.zero_le _, rfl, rfl, Nat.le_refl _, by omega, Lib.hid rfl, Lib.hid rfl, Lib.hid (sortTo_zero xs).symm, Lib.hid h0⟩
  case round =>
    obtain ⟨k, ys, g, n, cp, hk, rfl, rfl, hcp1, hcp2, HN, HLN, HY, HO⟩ := hrel
    clear h0
    by_cases hlt : k < xs.length
    · obtain ⟨ga, off, rfl, hg, hc⟩ := HA.out.resolve_left (fun h => by rw [h] at hlt; exact absurd hlt (Nat.not_lt_zero k))
      have HCX := Lib.hid (hc k hlt)
      have hn6 : n ≤ 6 := by rw [HN.out]; omega
      have HS := Lib.hid (sortTo_succ xs k hlt)
      generalize xs[k] = x at HCX HS
      clear hc
      have hga : ga < wr.heap.size := Nat.lt_of_lt_of_le hg HO.out.size
      go_wp2
      go_loopw [5] (fun i wi => ∃ (p d : Nat), p ≤ n ∧ i = .int .i64 p ∧ Hid (∀ j (h : j < ys.length), j < p → x ≤ ys[j]) ∧ wi = wr.drewN d) (fun i _ => n - (intOf i).toNat)
      case atStart => exact ⟨0, 0, Nat.zero_le _, rfl, Lib.hid (fun j _ h => absurd h (Nat.not_lt_zero j)), rfl⟩
      case round =>
        obtain ⟨p, d, hp, rfl, HP, rfl⟩ := hrel
        have hcx : (wr.drewN d).cell? ⟨ga, off + k, none⟩ = some (.int .i64 x) := (HO.out.keep.cell (p := ⟨ga, off + k, none⟩) hg).trans HCX.out
        have HOd := Lib.hid (HO.out.drewN d)
        have HWD : Hid (∀ m, ∃ d', (wr.drewN d).drewN m = wr.drewN d') := by
          have := fun m => (⟨d + m, by rw [World.drewN_drewN]⟩ : ∃ d', (wr.drewN d).drewN m = wr.drewN d')
          exact Lib.hid this
        generalize wr.drewN d = W at hcx HOd HWD ⊢
        by_cases hpn : p < n
        · have hcy : W.cell? ⟨g, p, none⟩ = some (.int .i64 (ys[p]'(by rw [HLN.out]; exact hpn))) := by
            rw [(HOd.out.row 0 (by simp) rfl).cellAt p (by omega)]
            simp [HLN.out, hpn]
          have HPP : Hid (∀ hh : p < ys.length, x ≤ ys[p] → ∀ j (h : j < ys.length), j < p + 1 → x ≤ ys[j]) := by
            have : ∀ hh : p < ys.length, x ≤ ys[p] → ∀ j (h : j < ys.length), j < p + 1 → x ≤ ys[j] := fun hh hx j hj hjp => by
              by_cases e : j = p
              · subst e; exact hx
              · exact HP.out j hj (by omega)
            exact Lib.hid this
          have HQ : Hid (∀ hh : p < ys.length, ys[p] < x → posD x ys = p) := by
            have : ∀ hh : p < ys.length, ys[p] < x → posD x ys = p := fun hh hx => posD_eq x ys p (by omega) (fun j hj hjp => HP.out j hj hjp) (fun _ => hx)
            exact Lib.hid this
          have hhy : p < ys.length := by rw [HLN.out]; exact hpn
          have HPP' := Lib.hid (HPP.out hhy)
          have HQ' := Lib.hid (HQ.out hhy)
          clear HPP HQ
          generalize ys[p]'(by rw [HLN.out]; exact hpn) = y at hcy HPP' HQ'
          by_cases hxy : x ≤ y
          · have HNP := Lib.hid (HPP'.out hxy)
            have hxy' : decide (x ≤ y) = true := by simpa using hxy
            clear HPP' HQ' hhy
            go_wp2
            go_quiet (fail)
            go_wp2
            go_roundw
            case rel =>
              obtain ⟨d', hd'⟩ := HWD.out nq
              exact ⟨p + 1, d', by omega, by go_num, HNP, hd'⟩
            case measure => simp [intOf]; omega
          · have HPOS := Lib.hid (HQ'.out (by omega))
            have hxy' : decide (x ≤ y) = false := by simpa using hxy
            clear HPP' HQ' hhy
            go_wp2
            go_quiet (fail)
            have HOe := Lib.hid (HOd.out.drewN nq)
            generalize W.drewN nq = V at HOe ⊢
            have O1 := Lib.hid (HOe.out.lit 3 #[] 0 rfl (Nat.zero_le _))
            have hpl : (ys.take p).length = p := by rw [List.length_take, HLN.out]; omega
            have hdl : (ys.drop p).length = n - p := by rw [List.length_drop, HLN.out]
            have hpy : p ≤ ys.length := by rw [HLN.out]; exact hp
            have hdr := HLN.out
            have HHH := Lib.hid (And.intro hpl (And.intro hdl (And.intro hpy hdr)))
            clear hpl hdl hpy hdr hcx HOd HWD HP HOe
            go_wp2_with (first | (at_builtin; refine wpList_append_I rfl _ _ rfl O1.out 0 (by simp) V.heap.size 0 0 [] rfl rfl (ys.take p) p HHH.out.1 (some ⟨g, 0, none⟩) cp rfl (SrcI.head (O1.out.row 1 (by simp) rfl) HHH.out.2.2.1 HHH.out.2.2.2) (by omega) (by omega) p (Nat.zero_add p) ?_; intro g1 c1 w2 O2' hc1 hm1; have hcx2 := (O2'.keep.cell (p := ⟨ga, off + k, none⟩) hg).trans HCX.out; have O2 := Lib.hid O2'; clear O2') | (at_builtin; refine wpList_append_I rfl _ _ rfl (O2.out.alloc (.cells #[.int .i64 x] 3)) 0 (by simp) g1 p c1 (ys.take p) rfl rfl [x] 1 rfl (some ⟨w2.heap.size, 0, none⟩) 1 rfl (SrcI.box (heap_alloc_new w2 _)) (by omega) (by omega) (p + 1) rfl ?_; intro g2 c2 w3 O3' hc2 hm2; have O3 := Lib.hid O3'; clear O3') | (at_builtin; refine wpList_append_I rfl _ _ rfl O3.out 0 (by simp) g2 (p + 1) c2 (ys.take p ++ [x]) rfl rfl (ys.drop p) (n - p) HHH.out.2.1 _ (cp - p) rfl (SrcI.tail (O3.out.row 1 (by simp) rfl) HHH.out.2.2.2 _ (by intro h; first | rfl | (rw [if_neg (by omega)]; done) | (simp; omega))) (by omega) (by omega) (n + 1) (by omega) ?_; intro g3 c3 w4 O4' hc3 hm3; have O4 := Lib.hid O4'; clear O4'))
            have HOF : Hid (Own w [rowT 3 1 (.slice (some ⟨g3, 0, none⟩) (n + 1) c3) (n + 1) ((insD x ys).map (Value.int .i64))] w4) := by
              have := O4.out.thin
              rw [insD_at HPOS.out] at this
              exact Lib.hid this
            clear O1 O2 O3 O4 hcx2
            go_roundw
            case rel => exact ⟨k + 1, insD x ys, g3, n + 1, c3, by omega, by go_num, rfl, hc3, hm3, Lib.hid (by rw [HN.out]), Lib.hid (by rw [insD_length, HLN.out]), Lib.hid (by rw [HS.out, HY.out]), HOF⟩
            case measure => simp [intOf]; omega
        · have HPOS : Hid (posD x ys = p) := by
            have : posD x ys = p := posD_eq x ys p (by rw [HLN.out]; exact hp) (fun j hj hjp => HP.out j hj hjp) (fun h => by rw [HLN.out] at h; omega)
            exact Lib.hid this
          go_wp2
          go_quiet (fail)
          have HOe := Lib.hid (HOd.out.drewN nq)
          generalize W.drewN nq = V at HOe ⊢
          have O1 := Lib.hid (HOe.out.lit 3 #[] 0 rfl (Nat.zero_le _))
          have hpl : (ys.take p).length = p := by rw [List.length_take, HLN.out]; omega
          have hdl : (ys.drop p).length = n - p := by rw [List.length_drop, HLN.out]
          have hpy : p ≤ ys.length := by rw [HLN.out]; exact hp
          have hdr := HLN.out
          have HHH := Lib.hid (And.intro hpl (And.intro hdl (And.intro hpy hdr)))
          clear hpl hdl hpy hdr hcx HOd HWD HP HOe
          go_wp2_with (first | (at_builtin; refine wpList_append_I rfl _ _ rfl O1.out 0 (by simp) V.heap.size 0 0 [] rfl rfl (ys.take p) p HHH.out.1 (some ⟨g, 0, none⟩) cp rfl (SrcI.head (O1.out.row 1 (by simp) rfl) HHH.out.2.2.1 HHH.out.2.2.2) (by omega) (by omega) p (Nat.zero_add p) ?_; intro g1 c1 w2 O2' hc1 hm1; have hcx2 := (O2'.keep.cell (p := ⟨ga, off + k, none⟩) hg).trans HCX.out; have O2 := Lib.hid O2'; clear O2') | (at_builtin; refine wpList_append_I rfl _ _ rfl (O2.out.alloc (.cells #[.int .i64 x] 3)) 0 (by simp) g1 p c1 (ys.take p) rfl rfl [x] 1 rfl (some ⟨w2.heap.size, 0, none⟩) 1 rfl (SrcI.box (heap_alloc_new w2 _)) (by omega) (by omega) (p + 1) rfl ?_; intro g2 c2 w3 O3' hc2 hm2; have O3 := Lib.hid O3'; clear O3') | (at_builtin; refine wpList_append_I rfl _ _ rfl O3.out 0 (by simp) g2 (p + 1) c2 (ys.take p ++ [x]) rfl rfl (ys.drop p) (n - p) HHH.out.2.1 _ (cp - p) rfl (SrcI.tail (O3.out.row 1 (by simp) rfl) HHH.out.2.2.2 _ (by intro h; first | rfl | (rw [if_neg (by omega)]; done) | (simp; omega))) (by omega) (by omega) (n + 1) (by omega) ?_; intro g3 c3 w4 O4' hc3 hm3; have O4 := Lib.hid O4'; clear O4'))
          have HOF : Hid (Own w [rowT 3 1 (.slice (some ⟨g3, 0, none⟩) (n + 1) c3) (n + 1) ((insD x ys).map (Value.int .i64))] w4) := by
            have := O4.out.thin
            rw [insD_at HPOS.out] at this
            exact Lib.hid this
          clear O1 O2 O3 O4 hcx2
          go_roundw
          case rel => exact ⟨k + 1, insD x ys, g3, n + 1, c3, by omega, by go_num, rfl, hc3, hm3, Lib.hid (by rw [HN.out]), Lib.hid (by rw [insD_length, HLN.out]), Lib.hid (by rw [HS.out, HY.out]), HOF⟩
          case measure => simp [intOf]; omega
    · obtain rfl : k = xs.length := by omega
      go_wp2
      go_ret
      have hfin : CopyPost ys w (.returned (.slice (some ⟨g, 0, none⟩) n cp)) wr := CopyPost.of_own (by rw [HLN.out]; exact HO.out)
      rw [HY.out] at hfin
      exact hfin
end Go.Proofs.Ythdpeholeelhdaa
