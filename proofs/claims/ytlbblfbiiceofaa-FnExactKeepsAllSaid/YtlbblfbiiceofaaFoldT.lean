/- impl.foldedMarks over bools: the stack of parts. No condition. -/
import Derived.Test.YtlbblfbiiceofaaStarts
import Derived.Test.YtlbblfbiiceofaaTermI
import Derived.Test.YtlbblfbiiceofaaOwn
import Derived.Test.YtlbblfbiiceofaaSpecMany
import Derived.Deep.AppendLies
import Derived.Deep.RegionLaw
namespace Go.Proofs.Ytlbblfbiiceofaa
open Go.RowKit

/-- a row that is owned, cut behind its first elements -/
theorem ownsRow_cut1 {w : World} {base : Nat} {e : TypeId} {g cap n : Nat} {xs : List Value} {k : Nat} (hk : k ≤ n) (h : w.ownsRow base e 1 (.slice (some ⟨g, 0, none⟩) n cap) n xs) : w.ownsRow base e 1 (.slice (some ⟨g, 0, none⟩) k cap) k (xs.take k) := by
  have hl := h.1
  obtain ⟨_, h2⟩ := h
  rcases h2 with ⟨h0, _⟩ | ⟨g', cap', cur, hv, hg, hh, hn, hcap, hsz, htake⟩
  · cases h0
  · cases hv
    refine ⟨by rw [List.length_take]; omega, .inr ⟨g, cap, cur, rfl, hg, hh, by omega, hcap, hsz, ?_⟩⟩
    rw [← htake, List.take_take, Nat.mul_one, Nat.mul_one, Nat.min_eq_left hk]
theorem Own.cut {wB w : World} {ts : List Thing} {e : TypeId} {g cap n : Nat} {xs : List Value} {k : Nat} (h : Own wB (rowT e 1 (.slice (some ⟨g, 0, none⟩) n cap) n xs :: ts) w) (hk : k ≤ n) : Own wB (rowT e 1 (.slice (some ⟨g, 0, none⟩) k cap) k (xs.take k) :: ts) w :=
  ⟨h.keep, ⟨fun t ht => by
    rcases List.mem_cons.1 ht with rfl | ht
    · exact ⟨ownsRow_cut1 hk h.ap.head, fun j e => h.ap.lt j e⟩
    · exact h.ap.all t (List.mem_cons_of_mem _ ht), List.pairwise_cons.2 ⟨fun u hu j e => (List.pairwise_cons.1 h.ap.two).1 u hu j e, (List.pairwise_cons.1 h.ap.two).2⟩⟩⟩
/-- the elements behind a place -/
theorem bools_behind {w : World} {g cap n : Nat} {xs : List Bool} {e : TypeId} (h : w.ownsRow 0 e 1 (.slice (some ⟨g, 0, none⟩) n cap) n (xs.map Value.bool)) (k : Nat) (hk : k ≤ n) (hc : cap ≤ maxLen) : IsBools w (.slice (some ⟨g, k, none⟩) (n - k) (cap - k)) (xs.drop k) := by
  have hl : xs.length = n := by have := h.1; simpa using this
  have hcn : n ≤ cap := by
    rcases h.2 with ⟨h0, _⟩ | ⟨g', cap', cur, hv, hg, hh, hn, hcap, hsz, htake⟩
    · cases h0
    · cases hv; exact hn
  refine ⟨some ⟨g, k, none⟩, cap - k, by rw [List.length_drop, hl], by rw [List.length_drop]; omega, by omega, ?_⟩
  by_cases h0 : k = n
  · exact .inl (List.drop_of_length_le (by omega))
  · refine .inr ⟨g, k, rfl, (h.lt g rfl).2, fun i hi => ?_⟩
    rw [List.length_drop] at hi
    rw [h.cellAt (k + i) (by omega)]
    simp [List.getElem?_eq_getElem (show k + i < xs.length by omega)]
theorem row_cap {w : World} {base g cap n : Nat} {xs : List Value} {e : TypeId} {size : Nat} (h : w.ownsRow base e size (.slice (some ⟨g, 0, none⟩) n cap) n xs) : n ≤ cap ∧ cap ≤ maxLen := by
  rcases h.2 with ⟨h0, _⟩ | ⟨g', cap', cur, hv, hg, hh, hn, hcap, hsz, htake⟩
  · cases h0
  · cases hv; exact ⟨hn, hcap⟩

theorem infoBoolK : (Try.prog.info? 4).map (fun i => (i.zero, i.size, i.bytes)) = some (some (.bool false), 1, 1) := by kernel_rfl
/-- the stack of what the parts keep -/
def stackB (s : ByteArray) (sts : List Tm) : List Value := (sts.map (Tm.keeps s)).map Value.bool
theorem stackB_more (s : ByteArray) (sts : List Tm) (T : Tm) : stackB s (sts ++ [T]) = stackB s sts ++ [.bool (T.keeps s)] := by simp [stackB]

set_option maxHeartbeats 6400000 in
theorem foldedBool_any (ms : List Mk) (hwf : ∀ m ∈ ms, m.wf) (hok : termOk ms = true) (s : ByteArray) (B : Nat) (v : Value) (w : World) (h : IsMarks w v ms)
    (HCL0 : ∀ (m : Mk) (subs : List Tm) (T : Tm) (uv : Value) (W : World), Puts m subs T → m.wf → Below w.heap.size w W → IsBools W uv (subs.map (Tm.keeps s)) → Calls Try.prog 72 #[m.val, uv, .pointer (some ⟨B, 0, none⟩)] W fun e W' => e = .returned (.bool (T.keeps s)) ∧ Below W.heap.size W W') :
    Calls Try.prog 71 #[v, .func (.func 72) #[] #[.pointer (some ⟨B, 0, none⟩)]] w fun e w' => (∃ T : Tm, T.good = true ∧ T.post = ms ∧ e = .returned (.bool (T.keeps s))) ∧ Below w.heap.size w w' := by
  obtain ⟨j0, hj, hy0, hy1, hy2⟩ := info_parts infoBoolK
  have HJ := Lib.hid (And.intro hj (And.intro hy0 (And.intro hy1 hy2)))
  clear hj hy0 hy1 hy2
  have hlen : ms.length ≤ 9 := by
    simp only [termOk, Bool.and_eq_true, decide_eq_true_eq] at hok; exact hok.1
  have hl0 : 0 < ms.length := by
    obtain ⟨T, _, hp, _⟩ := tree_of hok
    rw [← hp]; exact T.post_pos
  obtain ⟨a, n, cap, rfl⟩ := h.slice
  obtain ⟨g, off, rfl, rfl, h1, h2, hg, hc⟩ := h.cells hl0
  unfold maxLen at h2
  have HC := Lib.hid hc
  have HOK := Lib.hid hok
  have HWF := Lib.hid hwf
  have HCL := Lib.hid HCL0
  have O0 := Lib.hid ((Own.nil w).idle 4)
  clear hc hok hwf h HCL0
  go_enter Try.func71, Try.ntmps71
  go_wp2_with fail
  go_loopw [5, 13] (fun sv i wr => ∃ (k : Nat) (sts : List Tm), k ≤ ms.length ∧ i = .int .i64 (k : Int) ∧ (∀ T ∈ sts, T.good = true) ∧ postL sts = ms.take k ∧ Own w [rowT 4 1 sv sts.length (stackB s sts)] wr) (fun _ i _ => ms.length - (intOf i).toNat)
  case atStart => exact ⟨0, [], Nat.zero_le _, rfl, by simp, rfl, O0.out⟩
  case round =>
    obtain ⟨k, sts, hk, rfl, hgd, hpo, hO⟩ := hrel
    have O1 := Lib.hid hO
    have HGD := Lib.hid hgd
    have HPO := Lib.hid hpo
    obtain ⟨sa, sc, rfl⟩ := ownsRow_slice (O1.out.row 0 (by simp) rfl)
    clear hO
    by_cases hlt : k < ms.length
    · have hltI : (k : Int) < (ms.length : Int) := by omega
      obtain ⟨pre, subs, T, rfl, hput, hgd2, hpo2⟩ := step_trees HOK.out hlt hgd hpo
      have HPUT := Lib.hid hput
      have HGD2 := Lib.hid hgd2
      have HPO2 := Lib.hid hpo2
      have hsl := hput.len
      have hpn : (pre ++ subs).length ≤ k := by
        have := congrArg List.length hpo
        rw [List.length_take] at this
        have := postL_len (pre ++ subs)
        omega
      have hmwf := HWF.out ms[k] (List.getElem_mem hlt)
      have HMW := Lib.hid hmwf
      obtain ⟨c0, c1, c2, c3, c4⟩ := (HC.out k hlt).below O1.out.keep hg
      have HU := Lib.hid (fun W => partsUnder_any ms[k] hmwf W)
      have hfine : ms[k].fine = true := by
        have hl : leftOf (ms.take k) 0 = some (pre ++ subs).length := by rw [← hpo, postL_good hgd, Nat.zero_add]
        by_cases hf : ms[k].fine = true
        · exact hf
        · have := leftOf_no hlt hl (fun h => hf h.1)
          rw [HOK.out] at this; cases this
      have HF := Lib.hid hfine
      have hlen2 : (pre ++ subs).length = pre.length + subs.length := List.length_append
      clear hput hgd2 hpo2 hgd hpo hmwf hfine
      generalize ms[k] = m at *
      obtain ⟨k1, r1, l1, t1, n1⟩ := m
      have HU2 : Hid (∀ W, Calls Try.prog 88 #[.agg #[.int .i64 k1, .int .i64 r1, .string l1, .string t1, .int .i64 n1]] W (UnderPost ⟨k1, r1, l1, t1, n1⟩ W)) := Lib.hid HU.out
      clear HU
      simp only at c0 c1 c2 c3 c4
      go_wp2_with fail
      refine (HU2.out _).mono ?_
      rintro e w2 ⟨u, rfl, hu, hb2⟩
      have O2 := Lib.hid ((O1.out.alloc (.cells #[.int .i64 k1, .int .i64 r1, .string l1, .string t1, .int .i64 n1] 81)).below hb2)
      have hmk : ∀ i, w2.cell? ⟨wr.heap.size, i, none⟩ = (#[.int .i64 k1, .int .i64 r1, .string l1, .string t1, .int .i64 n1] : Array Value)[i]? := fun i => (hb2.cell (p := ⟨wr.heap.size, i, none⟩) (by simp)).trans (World.cell?_alloc_new wr _ _ i)
      have m0 := hmk 0
      have m1 := hmk 1
      have m2 := hmk 2
      have m3 := hmk 3
      have m4 := hmk 4
      have hml : wr.heap.size < w2.heap.size := by have := hb2.size; simp at this; omega
      simp only [List.getElem?_toArray, List.getElem?_cons_succ, List.getElem?_cons_zero] at m0 m1 m2 m3 m4
      rw [HF.out] at *
      have hue := hu rfl
      rw [← hsl] at hue
      subst hue
      have HCW : Hid (∀ (uv : Value) (W : World), Below w.heap.size w W → IsBools W uv (subs.map (Tm.keeps s)) → Calls Try.prog 72 #[.agg #[.int .i64 k1, .int .i64 r1, .string l1, .string t1, .int .i64 n1], uv, .pointer (some ⟨B, 0, none⟩)] W fun e W' => e = .returned (.bool (T.keeps s)) ∧ Below W.heap.size W W') := Lib.hid (fun uv W a b => HCL.out ⟨k1, r1, l1, t1, n1⟩ subs T uv W HPUT.out HMW.out a b)
      have hst : stackB s (pre ++ subs) = (pre.map (Tm.keeps s) ++ subs.map (Tm.keeps s)).map Value.bool := by simp [stackB]
      have hq : IntKind.i64.wrap (((pre ++ subs).length : Int) - (subs.length : Int)) = (pre.length : Int) := by rw [hlen2, IntWalk.i64_in _ (by omega)]; omega
      have HNP : Hid ((pre ++ subs).length - pre.length = subs.length ∧ pre.length ≤ (pre ++ subs).length ∧ (pre ++ subs).length ≤ 9 ∧ ((pre ++ subs).length = 0 → pre = [] ∧ subs = [])) := Lib.hid ⟨by omega, by omega, by omega, fun h => ⟨List.eq_nil_of_length_eq_zero (by omega), List.eq_nil_of_length_eq_zero (by omega)⟩⟩
      have HPOST := Lib.hid (stackB_more s pre T)
      rw [hst] at O2
      clear hu hb2 hmk c0 c1 c2 c3 c4 O1 hsl hlen2 hst hpn
      generalize wr.heap.size = MB at *
      generalize hnn : (pre ++ subs).length = nn at *
      clear hnn
      generalize hpl : pre.length = pl at *
      have HPL := Lib.hid hpl
      generalize hul : subs.length = ul at *
      clear hpl hul
      have hnp := HNP.out
      have hpn1 := hnp.2.1
      have hnn9 := hnp.2.2.1
      clear hnp
      rcases (O2.out.row 0 (by simp) rfl).2 with ⟨hvn, hn0⟩ | ⟨gs, scc, cur, hvn, -⟩
      · cases hvn
        obtain ⟨hpe, hse⟩ := HNP.out.2.2.2 hn0
        have HPE := Lib.hid hpe
        have hp0 : pl = 0 := by rw [← HPL.out, hpe]; rfl
        have hu0 : ul = 0 := by have := HNP.out.1; omega
        have O2d := Lib.hid ((O2.out.same (grown_drew w2 none)).sub (List.nil_sublist _))
        have HUB : Hid (IsBools w2.drew (.slice none 0 0) (subs.map (Tm.keeps s))) := Lib.hid (by rw [hse]; exact IsBools.nil _)
        clear hpe hse O2 HNP hn0
        subst hp0 hu0
        go_wp2_with fail
        go_region_law (first | (go_simp; go_at_call 72; refine (HCW.out _ _ O2d.out.keep HUB.out).mono ?_; rintro e w5 ⟨rfl, hb5⟩; have O5 := Lib.hid ((O2d.out.below hb5).idle 4)) | (refine step_append_lies _ rfl _ _ 84 rfl 0 4 j0 (.bool false) 1 1 Try.underlying84 HJ.out.1 HJ.out.2.1 HJ.out.2.2.1 HJ.out.2.2.2 rfl (by decide) (.slice none 0 0) 0 [] rfl ((O5.out.row 0 (by simp) rfl).alloc _) ⟨w5.heap.size, 0, none⟩ 1 1 [.bool (T.keeps s)] rfl rfl (cellW _ _ _) (by simp [Value.oneCell']) (by omega) (by unfold maxLen; omega) (by omega) (Nat.zero_le _) _ rfl ?_; intro g9 cp w6 hown hgrow hat hlt3; have O6 := Lib.hid (O5.out.push (i := 0) (by simp) rfl hgrow hown hat)))
        all_goals
          go_wp2
          go_roundw
          case rel =>
            refine ⟨k + 1, pre ++ [T], by omega, by go_num, HGD2.out, HPO2.out, ?_⟩
            rw [HPE.out]
            exact O6.out
          case measure => simp [intOf]; omega
      · cases hvn
        have hcap := row_cap (O2.out.row 0 (by simp) rfl)
        have hcm := hcap.2
        unfold maxLen at hcm
        have hsc1 : pl ≤ sc := by omega
        have O2d := Lib.hid (O2.out.same (grown_drew w2 none))
        obtain ⟨AD, had⟩ : ∃ AD : Option Addr, (if sc = pl then some (⟨gs, 0, none⟩ : Addr) else some ⟨gs, pl, none⟩) = AD := ⟨_, rfl⟩
        have HUB : Hid (IsBools w2.drew (.slice AD ul (sc - pl)) (subs.map (Tm.keeps s))) := Lib.hid (by
          have h := bools_behind (O2d.out.row 0 (by simp) rfl) pl hpn1 hcap.2
          rw [HNP.out.1, List.drop_left' (by rw [List.length_map]; exact HPL.out)] at h
          by_cases he : sc = pl
          · rw [if_pos he] at had
            subst had
            have hu0 : ul = 0 := by have := hcap.1; have := HNP.out.1; omega
            obtain ⟨a', c', he', h1, h2, h3⟩ := h
            simp only [Value.slice.injEq] at he'
            have hsub : (subs.map (Tm.keeps s)) = [] := List.eq_nil_of_length_eq_zero (by omega)
            exact ⟨some ⟨gs, 0, none⟩, sc - pl, by rw [hsub, hu0]; rfl, by rw [hsub]; exact Nat.zero_le _, by omega, .inl hsub⟩
          · rw [if_neg he] at had
            subst had
            exact h)
        have hnsub : nn - pl = ul := HNP.out.1
        go_wp2_with fail
        go_region_law (first | (go_simp; go_at_call 72; refine (HCW.out _ _ O2d.out.keep HUB.out).mono ?_; rintro e w5 ⟨rfl, hb5⟩; have O5 := Lib.hid ((O2d.out.below hb5).cut hpn1)) | (refine step_append_lies _ rfl _ _ 84 rfl 0 4 j0 (.bool false) 1 1 Try.underlying84 HJ.out.1 HJ.out.2.1 HJ.out.2.2.1 HJ.out.2.2.2 rfl (by decide) (.slice (some ⟨gs, 0, none⟩) pl sc) pl _ rfl ((O5.out.row 0 (by simp) rfl).alloc _) ⟨w5.heap.size, 0, none⟩ 1 1 [.bool (T.keeps s)] rfl rfl (cellW _ _ _) (by simp [Value.oneCell']) (by omega) (by unfold maxLen; omega) (by omega) (Nat.zero_le _) _ rfl ?_; intro g9 cp w6 hown hgrow hat hlt3; have O6 := Lib.hid (O5.out.push (i := 0) (by simp) rfl hgrow hown hat)))
        all_goals
          go_wp2
          go_roundw
          case rel =>
            refine ⟨k + 1, pre ++ [T], by omega, by go_num, HGD2.out, HPO2.out, ?_⟩
            rw [List.length_append, HPL.out, HPOST.out]
            have h := O6.out
            have e : (List.map Value.bool (pre.map (Tm.keeps s) ++ subs.map (Tm.keeps s))).take pl = stackB s pre := by
              rw [List.map_append, List.take_left' (by rw [List.length_map, List.length_map]; exact HPL.out)]; rfl
            rw [e] at h
            exact h
          case measure => simp [intOf]; omega
    · obtain rfl : k = ms.length := by omega
      obtain ⟨T, rfl⟩ := last_tree HOK.out hgd (by rw [hpo, List.take_length])
      have HT : Hid (T.good = true ∧ T.post = ms) := Lib.hid ⟨hgd T (by simp), by rw [← postL_one, hpo, List.take_length]⟩
      rcases (O1.out.row 0 (by simp) rfl).2 with ⟨hvn, hn0⟩ | ⟨gs, scc, cur, hvn, -⟩
      · cases hvn
      · cases hvn
        have hcell := World.ownsRow.cellAt (O1.out.row 0 (by simp) rfl) 0 (by simp)
        simp only [stackB, List.map_cons, List.map_nil, List.getElem?_cons_zero] at hcell
        simp only [List.length_singleton] at *
        clear hgd hpo
        go_wp2_with fail
        go_ret
        exact ⟨⟨T, HT.out.1, HT.out.2, rfl⟩, O1.out.keep⟩
end Go.Proofs.Ytlbblfbiiceofaa
