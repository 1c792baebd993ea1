/- GivenOn, FairestOf, StepsToFair of the model: what each returns. No condition. -/
import Derived.Test.YthdpeholeelhdaaLoadSpec
import Derived.Test.YthdpeholeelhdaaLoadGivO
namespace Go.Proofs.Ythdpeholeelhdaa
open Go.RowKit

theorem in_range (p : Int) (n : Nat) : (decide (0 ≤ p) && decide (p ≤ (n : Int) - 1)) = (decide (0 ≤ p) && decide (p < n)) := by
  congr 1
  rw [decide_eq_decide]
  omega

theorem GivPost.emptyAt {xs : List Int} {f t : Int} {w W : World} {B : Nat} (h : givOk xs f t = false) (hb : Below w.heap.size w W) (hB : W.heap.size = B) : GivPost xs f t w (.returned (.tuple #[.slice (some ⟨B, 0, none⟩) 0 0, .bool false])) (W.alloc (.cells #[] 3)) := by
  subst hB
  exact GivPost.empty h hb

set_option maxHeartbeats 3200000 in
theorem specGivenOn_any (v : Value) (xs : List Int) (f t : Int) (w : World) (h : IsInts w v xs) :
    Calls Try.prog 40 #[v, .int .i64 f, .int .i64 t] w (GivPost xs f t w) := by
  have HOK := Lib.hid (specLoadsOk_any v xs w h)
  have H := Lib.hid h
  obtain ⟨a, cap, rfl⟩ : ∃ a cap, v = .slice a xs.length cap := by obtain ⟨a, cap, rfl, _⟩ := h; exact ⟨a, cap, rfl⟩
  clear h
  cases hb : loadsOk xs with
  | false =>
    have HN := Lib.hid (givOk_a (f := f) (t := t) hb)
    rw [hb] at HOK
    clear hb
    go_enter Try.func40, Try.ntmps40
    go_wp2_with (go_at_call 21; refine HOK.out.mono ?_; rintro e w' ⟨rfl, n, rfl⟩)
    go_ret2
    exact GivPost.empty HN.out (below_drewN (Below.refl _ _) n)
  | true =>
    rw [hb] at HOK
    have HL := Lib.hid (loadsOk_iff.1 hb)
    have h6 := (loadsOk_iff.1 hb).2.1
    have hw1 : IntKind.i64.wrap ((xs.length : Int) - 1) = (xs.length : Int) - 1 := IntWalk.i64_in _ (by omega)
    go_enter Try.func40, Try.ntmps40
    go_wp2_with fail
    refine HOK.out.mono ?_
    rintro e w1 ⟨rfl, n, rfl⟩
    have HB := Lib.hid (below_drewN (Below.refl w.heap.size w) n)
    generalize w.drewN n = w1 at HB ⊢
    go_wp2_with fail
    refine (l1In_any _ _ _ _).mono ?_
    clear HOK
    rintro e w2 ⟨rfl, rfl⟩
    rw [in_range]
    cases hc : (decide (0 ≤ f) && decide (f < xs.length)) with
    | false =>
      have HN := Lib.hid (givOk_c (t := t) hc)
      clear hc hb
      go_wp2
      go_ret2
      exact GivPost.empty HN.out HB.out
    | true =>
      have hf : 0 ≤ f ∧ f < xs.length := by simpa using hc
      clear hc
      go_wp2_with fail
      refine (l1In_any _ _ _ _).mono ?_
      rintro e w2 ⟨rfl, rfl⟩
      rw [in_range]
      cases hd : (decide (0 ≤ t) && decide (t < xs.length)) with
      | false =>
        have HN := Lib.hid (givOk_d (f := f) hd)
        clear hd hb
        go_wp2
        go_ret2
        exact GivPost.empty HN.out HB.out
      | true =>
        have ht : 0 ≤ t ∧ t < xs.length := by simpa using hd
        clear hd
        obtain ⟨F, rfl⟩ : ∃ F : Nat, f = F := ⟨f.toNat, by omega⟩
        obtain ⟨T, rfl⟩ : ∃ T : Nat, t = T := ⟨t.toNat, by omega⟩
        have hF : F < xs.length := by omega
        have hT : T < xs.length := by omega
        by_cases hft : F = T
        · have HN := Lib.hid (givOk_b (xs := xs) (f := (F : Int)) (t := (T : Int)) (by rw [hft]))
          have hft' : ((F : Int) == (T : Int)) = true := by simp [hft]
          clear hb hft
          go_wp2
          go_ret2
          exact GivPost.empty HN.out HB.out
        · have hft' : ((F : Int) == (T : Int)) = false := by simp; omega
          have HNE := Lib.hid hft
          have HG := Lib.hid (givOk_e hb hF hT hft)
          have O1 := Lib.hid (((⟨HB.out, Apart.nil _ _⟩ : Own w [] w1)).lit 3 #[] 0 rfl (Nat.zero_le _))
          have HSRC : Hid (SrcI (w1.alloc (.cells #[] 3)) a xs) := by
            have : SrcI (w1.alloc (.cells #[] 3)) a xs := by
              obtain ⟨a', c', e, _, _, hc⟩ := H.out
              simp only [Value.slice.injEq] at e
              obtain ⟨rfl, _, rfl⟩ := e
              rcases hc with rfl | ⟨g, off, rfl, hg, hc⟩
              · exact .inl rfl
              · exact SrcI.below hc hg (HB.out.alloc HB.out.size _)
            exact Lib.hid this
          clear hb hft
          go_wp2_with (at_builtin; refine wpList_append_I rfl _ _ rfl O1.out 0 (by simp) w1.heap.size 0 0 [] rfl rfl xs xs.length rfl a cap rfl HSRC.out (by omega) (by omega) xs.length (Nat.zero_add _) ?_; intro g c1 w2 O2' hc1 hm1; have O2 := Lib.hid O2'; clear O2'; have hlt2 := ((O2.out.ap.ltAt 0 (by simp)) g rfl); have hrow : w2.ownsRow 0 3 1 (.slice (some ⟨g, 0, none⟩) xs.length c1) xs.length (xs.map (Value.int .i64)) := O2.out.row 0 (by simp) rfl; have y1 : w2.cell? ⟨g, F, none⟩ = some (.int .i64 xs[F]) := (by rw [hrow.cellAt F (by omega)]; simp [hF]); have y2 : w2.cell? ⟨g, T, none⟩ = some (.int .i64 xs[T]) := (by rw [hrow.cellAt T (by omega)]; simp [hT]); have f1 := hrow.frozenAt F; have f2 := hrow.frozenAt T; have HRW := Lib.hid hrow; clear hrow; have d1 := HL.out.2.2 xs[F] (List.getElem_mem hF); have d2 := HL.out.2.2 xs[T] (List.getElem_mem hT); have HGS := Lib.hid (giv_set xs F T hF hT HNE.out); generalize xs[F] = z1 at y1 d1 HGS; generalize xs[T] = z2 at y2 d2 HGS; have hne := HNE.out)
          have s1 := HRW.out.stored F (.int .i64 (z1 - 1))
          have s2 := s1.1.stored T (.int .i64 (z2 + 1))
          rw [← List.map_set, ← List.map_set, HGS.out] at s2
          have HO := Lib.hid s2.1
          have HB2 := Lib.hid ((O2.out.keep.setCell (p := ⟨g, F, none⟩) hlt2.1 (.int .i64 (z1 - 1))).setCell (p := ⟨g, T, none⟩) hlt2.1 (.int .i64 (z2 + 1)))
          have HRL := Lib.hid (givRow_length xs F T)
          have HI : Hid (IsInts ((w2.setCell ⟨g, F, none⟩ (.int .i64 (z1 - 1))).setCell ⟨g, T, none⟩ (.int .i64 (z2 + 1))) (.slice (some ⟨g, 0, none⟩) xs.length c1) (givRow xs F T)) := by
            have : IsInts ((w2.setCell ⟨g, F, none⟩ (.int .i64 (z1 - 1))).setCell ⟨g, T, none⟩ (.int .i64 (z2 + 1))) (.slice (some ⟨g, 0, none⟩) xs.length c1) (givRow xs F T) := by
              refine IsInts.of_owns (base := 0) (e := 3) ?_
              rw [HRL.out]
              exact HO.out
            exact Lib.hid this
          have HGL : Hid (givList xs F T = if loadsOk (givRow xs F T) = true then givRow xs F T else []) := by
            have : givList xs F T = if loadsOk (givRow xs F T) = true then givRow xs F T else [] := by unfold givList; rw [HG.out]; simp
            exact Lib.hid this
          refine (specLoadsOk_any _ _ _ HI.out).mono ?_
          rintro e w3 ⟨rfl, m, rfl⟩
          clear s1 s2
          cases hlo : loadsOk (givRow xs F T) with
          | false =>
            have HN : Hid (givOk xs F T = false) := by
              have : givOk xs F T = false := HG.out.trans hlo
              exact Lib.hid this
            clear hlo
            go_wp2
            go_ret2
            exact GivPost.emptyAt HN.out (below_drewN HB2.out m) (by show ((w2.setCell _ _).setCell _ _).heap.size = _; simp)
          | true =>
            have HN : Hid (givOk xs F T = true) := by
              have : givOk xs F T = true := HG.out.trans hlo
              exact Lib.hid this
            rw [hlo] at HGL
            clear hlo
            go_wp2
            go_ret2
            refine ⟨_, by rw [HN.out]; rfl, ?_, below_drewN HB2.out m⟩
            have e1 : givList xs F T = givRow xs F T := by rw [HGL.out]; rfl
            rw [e1, HRL.out]
            exact ownsRow_base HO.out (fun k e => by cases e; exact hlt2.1)

set_option maxHeartbeats 1600000 in
theorem specFairestOf_any (p d : Int) (w : World) : Calls Try.prog 42 #[.int .i64 p, .int .i64 d] w (CopyPost (fairest p d) w) := by
  have h0 : Own w [rowT 3 1 (.slice (some ⟨w.heap.size, 0, none⟩) 0 0) 0 []] (w.alloc (.cells #[] 3)) := (Own.nil w).lit 3 #[] 0 rfl (Nat.zero_le _)
  by_cases h1 : p ≤ 0
  · have hfin := CopyPost.empty w (Below.refl w.heap.size w)
    rw [fairest_no (.inl (by omega))]
    have hlt : ¬ (0 : Int) < p := by omega
    go_enter Try.func42, Try.ntmps42
    go_wp2
    go_loopw [5, 6, 7] (fun s i _ wr => s = .slice (some ⟨w.heap.size, 0, none⟩) 0 0 ∧ i = .int .i64 0 ∧ wr = w.alloc (.cells #[] 3)) (fun _ _ _ _ => 0)
    case atStart => exact ⟨rfl, rfl, rfl⟩
    case round =>
      obtain ⟨rfl, rfl, rfl⟩ := hrel
      go_wp2
      go_ret
      exact hfin
  by_cases h2 : p ≤ 6 ∧ 0 ≤ d ∧ d ≤ 30
  · obtain ⟨h2, h3, h4⟩ := h2
    rw [fairest_yes (by omega) h2 h3 h4]
    obtain ⟨n, rfl⟩ : ∃ n : Nat, p = n := ⟨p.toNat, by omega⟩
    rw [Int.toNat_natCast]
    have hg1 : (decide ((1 : Int) ≤ n) && decide ((n : Int) ≤ 6)) = true := by simp; omega
    have hg2 : (decide ((0 : Int) ≤ d) && decide (d ≤ 30)) = true := by simp; omega
    have HEL := Lib.hid (even_length n d)
    have HEG := Lib.hid (even_get n d)
    have hd1 : d.tdiv n = d / n := Int.tdiv_eq_ediv_of_nonneg h3
    have hd2 : d.tmod n = d % n := Int.tmod_eq_emod_of_nonneg h3
    have hq0 : 0 ≤ d / n := Int.ediv_nonneg h3 (by omega)
    have hq1 : d / n ≤ d := Int.ediv_le_self _ h3
    have hr0 : 0 ≤ d % n := Int.emod_nonneg _ (by omega)
    have hr1 : d % n < n := Int.emod_lt_of_pos _ (by omega)
    obtain ⟨q, hq⟩ : ∃ q, d / n = q := ⟨_, rfl⟩
    obtain ⟨r, hr⟩ : ∃ r, d % n = r := ⟨_, rfl⟩
    rw [hq] at hd1 hq0 hq1 HEG
    rw [hr] at hd2 hr0 hr1 HEG
    have hw1 : IntKind.i64.wrap q = q := IntWalk.i64_in _ (by omega)
    have hw2 : IntKind.i64.wrap r = r := IntWalk.i64_in _ (by omega)
    clear hq hr
    go_enter Try.func42, Try.ntmps42
    go_wp2
    go_loopw [5, 6, 7] (fun s i _ wr => ∃ (k : Nat) (g cp : Nat), k ≤ n ∧ i = .int .i64 k ∧ s = .slice (some ⟨g, 0, none⟩) k cp ∧ k ≤ cp ∧ cp ≤ 9223372036854775807 ∧ Hid (Own w [rowT 3 1 (.slice (some ⟨g, 0, none⟩) k cp) k (((even n d).take k).map (Value.int .i64))] wr)) (fun _ i _ _ => n - (intOf i).toNat)
    case atStart => exact ⟨0, w.heap.size, 0, Nat.zero_le _, rfl, rfl, Nat.le_refl _, by omega, Lib.hid h0⟩
    case round =>
      obtain ⟨k, g, cp, hk, rfl, rfl, hc1, hc2, HO⟩ := hrel
      by_cases hlt : k < n
      · have hxk := HEG.out k hlt
        have HT : Hid ((even n d).take (k + 1) = (even n d).take k ++ [(even n d)[k]'(by rw [HEL.out]; exact hlt)]) := Lib.hid (List.take_succ_eq_append_getElem (by rw [HEL.out]; exact hlt))
        have hlt' : (k : Int) < n := by omega
        by_cases hkr : (k : Int) < r
        · rw [if_pos hkr] at hxk
          rw [hxk] at HT
          clear hxk h0
          go_wp2_with (first | (go_at_call 53; refine (l1In_any _ _ _ _).mono ?_; rintro e w' ⟨rfl, rfl⟩) | (at_builtin; refine wpList_append_I rfl _ _ rfl (HO.out.alloc (.cells #[.int .i64 (q + 1)] 3)) 0 (by simp) g k cp ((even n d).take k) rfl rfl [q + 1] 1 rfl (some ⟨wr.heap.size, 0, none⟩) 1 rfl (SrcI.box (heap_alloc_new wr _)) (by omega) (by omega) (k + 1) rfl ?_; intro g2 c2 w3 O3' hc21 hm2; have O3 := Lib.hid O3'; clear O3'))
          go_roundw
          case rel => exact ⟨k + 1, g2, c2, by omega, by go_num, rfl, hc21, hm2, Lib.hid (by rw [HT.out]; exact O3.out)⟩
          case measure => simp [intOf]; omega
        · rw [if_neg hkr, Int.add_zero] at hxk
          rw [hxk] at HT
          clear hxk h0
          go_wp2_with (first | (go_at_call 53; refine (l1In_any _ _ _ _).mono ?_; rintro e w' ⟨rfl, rfl⟩) | (at_builtin; refine wpList_append_I rfl _ _ rfl (HO.out.alloc (.cells #[.int .i64 q] 3)) 0 (by simp) g k cp ((even n d).take k) rfl rfl [q] 1 rfl (some ⟨wr.heap.size, 0, none⟩) 1 rfl (SrcI.box (heap_alloc_new wr _)) (by omega) (by omega) (k + 1) rfl ?_; intro g2 c2 w3 O3' hc21 hm2; have O3 := Lib.hid O3'; clear O3'))
          go_roundw
          case rel => exact ⟨k + 1, g2, c2, by omega, by go_num, rfl, hc21, hm2, Lib.hid (by rw [HT.out]; exact O3.out)⟩
          case measure => simp [intOf]; omega
      · obtain rfl : k = n := by omega
        have hfin : CopyPost (even k d) w (.returned (.slice (some ⟨g, 0, none⟩) k cp)) wr := by
          refine CopyPost.of_own ?_
          have := HO.out
          rw [List.take_of_length_le (Nat.le_of_eq HEL.out)] at this
          rw [HEL.out]
          exact this
        go_wp2
        go_ret
        exact hfin
  · have hfin := CopyPost.empty w (Below.refl w.heap.size w)
    rw [fairest_no (by omega)]
    have hlt : (0 : Int) < p := by omega
    by_cases h6 : p ≤ 6
    · have hg1 : (decide ((1 : Int) ≤ p) && decide (p ≤ 6)) = true := by simp; omega
      have hg2 : (decide ((0 : Int) ≤ d) && decide (d ≤ 30)) = false := by simp; omega
      clear h2
      go_enter Try.func42, Try.ntmps42
      go_wp2
      go_loopw [5, 6, 7] (fun s i _ wr => s = .slice (some ⟨w.heap.size, 0, none⟩) 0 0 ∧ i = .int .i64 0 ∧ wr = w.alloc (.cells #[] 3)) (fun _ _ _ _ => 0)
      case atStart => exact ⟨rfl, rfl, rfl⟩
      case round =>
        obtain ⟨rfl, rfl, rfl⟩ := hrel
        go_wp2_with (go_at_call 53; refine (l1In_any _ _ _ _).mono ?_; rintro e w' ⟨rfl, rfl⟩)
        go_ret
        exact hfin
    · have hg1 : (decide ((1 : Int) ≤ p) && decide (p ≤ 6)) = false := by simp; omega
      clear h2
      go_enter Try.func42, Try.ntmps42
      go_wp2
      go_loopw [5, 6, 7] (fun s i _ wr => s = .slice (some ⟨w.heap.size, 0, none⟩) 0 0 ∧ i = .int .i64 0 ∧ wr = w.alloc (.cells #[] 3)) (fun _ _ _ _ => 0)
      case atStart => exact ⟨rfl, rfl, rfl⟩
      case round =>
        obtain ⟨rfl, rfl, rfl⟩ := hrel
        go_wp2_with (go_at_call 53; refine (l1In_any _ _ _ _).mono ?_; rintro e w' ⟨rfl, rfl⟩)
        go_ret
        exact hfin
end Go.Proofs.Ythdpeholeelhdaa
