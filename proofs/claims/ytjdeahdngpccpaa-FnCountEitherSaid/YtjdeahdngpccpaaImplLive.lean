/- impl.liveStates answers which states are live. No condition. -/
import Derived.Test.YtjdeahdngpccpaaBack2
namespace Go.Proofs.Ytjdeahdngpccpaa
open Go.RowKit

theorem infoSlF : (Try.prog.info? 23).map (fun i => (i.zero, i.size, i.bytes)) = some (some (.slice none 0 0), 1, 24) := by kernel_rfl

/-- the rows that a new table holds -/
theorem bk_start (w0 : World) (n : Nat) {w1 : World} (hown : w1.ownsRow w0.heap.size 23 1 (.slice (some ⟨w0.heap.size, 0, none⟩) n n) n (List.replicate n (.slice none 0 0))) (hg : w0.grownBy w1 none) :
    Bk w0 (.slice (some ⟨w0.heap.size, 0, none⟩) n n) (List.replicate n ((.slice none 0 0 : Value), ([] : List Int))) [] w1 := by
  have hl := World.ownsRow.lt hown
  have e1 : (List.replicate n ((.slice none 0 0 : Value), ([] : List Int))).map inn ++ [] = List.replicate n (inn (.slice none 0 0, [])) := by rw [List.append_nil, List.map_replicate]
  have e2 : (List.replicate n ((.slice none 0 0 : Value), ([] : List Int))).map Prod.fst = List.replicate n (.slice none 0 0) := by rw [List.map_replicate]
  refine ⟨(Below.refl _ _).grown hg (Nat.le_refl _) (fun _ e => by cases e), ?_⟩
  rw [e1, e2, List.length_replicate]
  have hno : ∀ u ∈ List.replicate n (inn (.slice none 0 0, [])), u = inn (.slice none 0 0, []) := fun u hu => (List.mem_replicate.1 hu).2
  refine ⟨fun t ht => ?_, List.pairwise_cons.2 ⟨fun u hu k _ e => ?_, ?_⟩⟩
  · rcases List.mem_cons.1 ht with rfl | ht
    · exact ⟨ownsRow_base hown (fun _ _ => Nat.zero_le _), fun k e => hl k e⟩
    · rw [hno t ht]
      exact ⟨World.ownsRow_nil _ _ _ _, fun k e => by cases e⟩
  · rw [hno u hu] at e; cases e
  · exact List.pairwise_iff_getElem.2 (fun i j hi hj _ k e => by rw [hno _ (List.getElem_mem hi)] at e; cases e)

set_option maxHeartbeats 4000000 in
theorem implLiveStates_any (xs : List Int) (bs : List Bool) (nv ev : Value) (w : World) (h1 : IsInts w nv xs) (h2 : IsBools w ev bs) (hg : M.good ⟨(bs.length : Int), xs, bs⟩) :
    Calls Try.prog 123 #[.agg #[.int .i64 (bs.length : Int), nv, ev]] w fun e w' => ∃ X, IsLive ⟨(bs.length : Int), xs, bs⟩ X ∧ BoolsNew X w e w' := by
  obtain ⟨i0, hi, hz0, hz1, hz2⟩ := info_parts infoIntF
  obtain ⟨s0, hs, hy0, hy1, hy2⟩ := info_parts infoSlF
  have HI := Lib.hid (And.intro hi (And.intro hz0 (And.intro hz1 hz2)))
  have hsh := M.good_shape hg
  simp only at hsh
  have HS := Lib.hid (And.intro hs (And.intro hy0 (And.intro hy1 (show s0.bytes * bs.length ≤ 281474976710656 by rw [hy2]; omega))))
  clear hi hz0 hz1 hz2 hs hy0 hy1 hy2
  obtain ⟨an, nn, cn, rfl⟩ := h1.slice
  obtain ⟨g1, off1, rfl, rfl, hcn, hcnm, hg1, hcellN⟩ := ints_cells h1 (by omega)
  obtain ⟨ae, ne, ce, rfl⟩ := h2.slice
  obtain ⟨g2, off2, rfl, rfl, hg2, hcellE0⟩ := bools_cells h2 (by omega)
  unfold maxLen at hcnm
  have H1 := Lib.hid h1
  have H2 := Lib.hid h2
  have HSH := Lib.hid hsh
  have HG := Lib.hid hg
  have hb0 : 0 < bs.length := by omega
  have hb4 : bs.length ≤ 4000 := by omega
  clear hcellN hcellE0 h1 h2 hsh hg
  have M0 := Lib.hid (MachBox.new (st := (bs.length : Int)) 26 H1.out H2.out)
  have y0 := M0.out.c0
  have y1 := M0.out.c1
  have hsz0 : (w.alloc (.cells #[.int .i64 (bs.length : Int), .slice (some ⟨g1, off1, none⟩) xs.length cn, .slice (some ⟨g2, off2, none⟩) bs.length ce] 26)).heap.size = w.heap.size + 1 := by simp
  go_enter Try.func123, Try.ntmps123
  go_wp2_with (at_make; refine wpList_make_full _ rfl _ _ 75 rfl (w.heap.size + 1) 23 s0 (.slice none 0 0) 1 Try.underlying75 HS.out.1 HS.out.2.1 HS.out.2.2.1 .i64 .i64 _ _ bs.length rfl rfl rfl rfl HS.out.2.2.2 (by unfold maxLen; omega) (by rw [hsz0]; exact Nat.le_refl _) ?_; intro w1 hown1 hgrow1; have z1 := hgrow1.cell y1 (by simp))
  have hmade : (madeCells (Value.slice none 0 0).cells (bs.length * 1)).toList = List.replicate bs.length (.slice none 0 0) := by
    rw [Nat.mul_one]; exact toList_madeCells_one _ _
  rw [hmade] at hown1
  have Bs := bk_start (w.alloc (.cells #[.int .i64 (bs.length : Int), .slice (some ⟨g1, off1, none⟩) xs.length cn, .slice (some ⟨g2, off2, none⟩) bs.length ce] 26)) bs.length (w1 := w1)
  rw [hsz0] at Bs
  have B0 := Lib.hid (Bs (by simpa using hown1) hgrow1)
  clear Bs hown1 hgrow1 hmade y0 y1 z1
  have hbw0 := Lib.hid ((Below.refl w.heap.size w).alloc (Nat.le_refl _) (.cells #[.int .i64 (bs.length : Int), .slice (some ⟨g1, off1, none⟩) xs.length cn, .slice (some ⟨g2, off2, none⟩) bs.length ce] 26))
  generalize w.alloc (.cells #[.int .i64 (bs.length : Int), .slice (some ⟨g1, off1, none⟩) xs.length cn, .slice (some ⟨g2, off2, none⟩) bs.length ce] 26) = W0 at *
  have HSZ := Lib.hid hsz0
  clear hsz0
  generalize hR : w.heap.size = R at *
  generalize hO : R + 1 = O at *
  have HO := Lib.hid hO
  clear hO
  generalize hm : (⟨(bs.length : Int), xs, bs⟩ : M) = m at *
  have HME : Hid (m.ends = bs) := by rw [← hm]; exact Lib.hid rfl
  have HMN : Hid (m.next = xs) := by rw [← hm]; exact Lib.hid rfl
  have HM := Lib.hid hm
  clear hm
  have AT : Hid (∀ W, Below W0.heap.size W0 W → W.cell? ⟨R, 2, none⟩ = some (.slice (some ⟨g2, off2, none⟩) bs.length ce) ∧ (∀ k (h : k < xs.length), W.cell? ⟨g1, off1 + k, none⟩ = some (.int .i64 xs[k])) ∧ IsBools W (.slice (some ⟨g2, off2, none⟩) bs.length ce) bs) := by
    have : ∀ W, Below W0.heap.size W0 W → W.cell? ⟨R, 2, none⟩ = some (.slice (some ⟨g2, off2, none⟩) bs.length ce) ∧ (∀ k (h : k < xs.length), W.cell? ⟨g1, off1 + k, none⟩ = some (.int .i64 xs[k])) ∧ IsBools W (.slice (some ⟨g2, off2, none⟩) bs.length ce) bs := by
      intro W hW
      have M1 := M0.out.below hW
      obtain ⟨g, o, he, _, _, _, _, hc⟩ := ints_cells M1.ints (by have := HSH.out; omega)
      simp only [Option.some.injEq, Addr.mk.injEq, and_true] at he
      obtain ⟨rfl, rfl⟩ := he
      exact ⟨M1.c2, hc, M1.bools⟩
    exact Lib.hid this
  clear M0 H1 H2
  go_loopw [19] (fun i wr => ∃ (k : Nat) (ps : List (Value × List Int)), k ≤ xs.length ∧ i = .int .i64 k ∧ ps.length = bs.length ∧ ps.map Prod.snd = preds m k ∧ Bk W0 (.slice (some ⟨O, 0, none⟩) bs.length bs.length) ps [] wr) (fun i _ => xs.length - (intOf i).toNat)
  case atStart => exact ⟨0, _, Nat.zero_le _, rfl, List.length_replicate, by rw [List.map_replicate, preds, HME.out], B0.out⟩
  case round =>
    obtain ⟨k, ps, hk, rfl, hpl, hps, hB⟩ := hrel
    have B1 := Lib.hid hB
    have HPS := Lib.hid hps
    clear hB hps
    by_cases hlt : k < xs.length
    · have hcell := (AT.out _ B1.out.keep).2.1 k hlt
      have hST : Hid (preds m (k + 1) = if 0 ≤ xs[k] then (preds m k).set (xs[k]).toNat ((preds m k).getD (xs[k]).toNat [] ++ [((k / 3 : Nat) : Int)]) else preds m k) := by
        have : preds m (k + 1) = if 0 ≤ xs[k] then (preds m k).set (xs[k]).toNat ((preds m k).getD (xs[k]).toNat [] ++ [((k / 3 : Nat) : Int)]) else preds m k := by
          have e : m.next.getD k (-1) = xs[k] := by rw [HMN.out, List.getD_eq_getElem?_getD, List.getElem?_eq_getElem hlt]; rfl
          rw [preds, e]
        exact Lib.hid this
      have hcb : -1 ≤ xs[k] ∧ xs[k] ≤ (bs.length : Int) - 1 := by
        have h := HG.out.nxt k (by rw [HMN.out]; exact hlt)
        have hs := M.good_shape HG.out
        rw [HME.out] at hs
        simp only [HMN.out] at h
        omega
      generalize xs[k] = c at hcell hST hcb
      by_cases hc0 : c < 0
      · have hcm : c = -1 := by omega
        subst hcm
        have HS2 := Lib.hid (hST.out.trans (if_neg (by omega)))
        clear hST hcb
        go_wp2_with fail
        go_roundw
        case rel => exact ⟨k + 1, ps, by omega, by go_num, hpl, by rw [HS2.out, HPS.out], B1.out⟩
        case measure => simp [intOf]; omega
      · obtain ⟨t, rfl⟩ : ∃ t : Nat, c = (t : Int) := ⟨c.toNat, by omega⟩
        have htn : t < ps.length := by omega
        have htb : (t : Int) < bs.length := by omega
        have hne : ((t : Int) != -1) = true := by simp
        have HS2 := Lib.hid (hST.out.trans (if_pos (by omega)))
        have htd := tdiv3 k
        have B2 := B1.out
        rw [← hpl] at B2
        have hrow := World.ownsRow.cellAt B2.row t (by omega)
        rw [List.getElem?_map, List.getElem?_eq_getElem htn] at hrow
        simp only [Option.map_some] at hrow
        have hin := Lib.hid (B2.inner t htn)
        have hll : ps[t].2.length ≤ xs.length := by
          have h1 := preds_len m k t
          have e : ps[t].2 = (preds m k).getD t [] := by
            rw [← HPS.out, List.getD_eq_getElem?_getD, List.getElem?_map, List.getElem?_eq_getElem htn]; rfl
          rw [e]; omega
        have hxl : xs.length ≤ 12000 := by have := HSH.out; omega
        have HE2 : Hid ((preds m k).getD t [] = ps[t].2) := by
          have : (preds m k).getD t [] = ps[t].2 := by
            rw [← HPS.out, List.getD_eq_getElem?_getD, List.getElem?_map, List.getElem?_eq_getElem htn]; rfl
          exact Lib.hid this
        have B2 := Lib.hid B2
        generalize hv : ps[t].1 = v at hrow hin
        generalize hl : ps[t].2 = lst at hin hll HE2
        go_wp2_with (at_builtin; refine wpList_append_lies _ rfl _ _ 23 rfl 0 3 i0 (.int .i64 0) 1 8 Try.underlying23 HI.out.1 HI.out.2.1 HI.out.2.2.1 HI.out.2.2.2 rfl (by decide) v lst.length (lst.map (Value.int .i64)) rfl (hin.out.alloc _) ⟨wr.heap.size, 0, none⟩ 1 1 [.int .i64 ((k / 3 : Nat) : Int)] rfl rfl (cell_one_new _ _ _) (by simp [Value.oneCell']) (by omega) (by unfold maxLen; omega) (by omega) (Nat.zero_le _) _ rfl ?_; intro g9 cp w4 hown hgrow hat hlt3; obtain ⟨B3, ⟨u9, x31⟩, f31⟩ := B2.out.next (t := t) (x := ((k / 3 : Nat) : Int)) (g := g9) (cp := cp) htn (by rw [hv]; exact hgrow) (by rw [hl]; exact hown) (by rw [hv]; exact hat))
        go_roundw
        case rel =>
          rw [hl] at B3
          refine ⟨k + 1, _, by omega, by go_num, (List.length_set ..).trans hpl, ?_, (by rw [← hpl]; exact B3)⟩
          rw [List.map_set, HPS.out, HS2.out, Int.toNat_natCast, HE2.out]
        case measure => simp [intOf]; omega
    · obtain rfl : k = xs.length := by omega
      have z2 := (AT.out _ B1.out.keep).1
      have HPL := Lib.hid hpl
      have HPN : Hid (ps.map Prod.snd = preds m m.next.length) := by
        have : ps.map Prod.snd = preds m m.next.length := by rw [HPS.out, HMN.out]
        exact Lib.hid this
      clear hpl HPS
      go_wp2_with fail
      clear z2
      go_loopw [6, 41] (fun qv i wr => ∃ k : Nat, k ≤ bs.length ∧ i = .int .i64 k ∧ Bk W0 (.slice (some ⟨O, 0, none⟩) bs.length bs.length) ps [rowT 3 1 qv (endsQ m k).length ((endsQ m k).map (Value.int .i64))] wr) (fun _ i _ => bs.length - (intOf i).toNat)
      case atStart => exact ⟨0, Nat.zero_le _, rfl, B1.out.addPre (Below.refl _ _) _ (World.ownsRow_nil _ _ _ _) (fun k e => by cases e)⟩
      case round =>
        obtain ⟨k, hk, rfl, hB⟩ := hrel
        obtain ⟨a6, c6, rfl⟩ := ownsRow_slice (hB.also 0 (by simp)).1
        have B4 := Lib.hid hB
        clear hB
        by_cases hlt : k < bs.length
        · obtain ⟨ge, oe, hge, -, -, hce⟩ := bools_cells3 (AT.out _ B4.out.keep).2.2 hb0
          simp only [Option.some.injEq, Addr.mk.injEq, and_true] at hge
          obtain ⟨rfl, rfl⟩ := hge
          have hcell := hce k hlt
          have HEY : Hid (bs[k] = true → endsQ m (k + 1) = endsQ m k ++ [(k : Int)]) := Lib.hid (fun e => endsQ_yes (by rw [HME.out]; exact hlt) (by simp only [HME.out]; exact e))
          have HEN : Hid (bs[k] = false → endsQ m (k + 1) = endsQ m k) := Lib.hid (fun e => endsQ_no (by rw [HME.out]; exact hlt) (by simp only [HME.out]; exact e))
          have hql := endsQ_len m k
          clear hce
          generalize bs[k] = eb at hcell HEY HEN
          cases eb with
          | false =>
            have HN := Lib.hid (HEN.out rfl)
            go_wp2_with fail
            go_roundw
            case rel => exact ⟨k + 1, by omega, by go_num, by rw [HN.out]; exact B4.out⟩
            case measure => simp [intOf]; omega
          | true =>
            have HY := Lib.hid (HEY.out rfl)
            have hq := Lib.hid (B4.out.also 0 (by simp)).1
            have hqn : (endsQ m k).length ≤ 4000 := by omega
            generalize endsQ m k = Q at *
            go_wp2_with (at_builtin; refine wpList_append_lies _ rfl _ _ 23 rfl 0 3 i0 (.int .i64 0) 1 8 Try.underlying23 HI.out.1 HI.out.2.1 HI.out.2.2.1 HI.out.2.2.2 rfl (by decide) (.slice a6 Q.length c6) Q.length (Q.map (Value.int .i64)) rfl (World.ownsRow.alloc hq.out _) ⟨wr.heap.size, 0, none⟩ 1 1 [.int .i64 (k : Int)] rfl rfl (cell_one_new _ _ _) (by simp [Value.oneCell']) (by omega) (by unfold maxLen; omega) (by omega) (Nat.zero_le _) _ rfl ?_; intro g9 cp w4 hown hgrow hat hlt3; have B5 := B4.out.push (i := 0) (by simp) rfl hgrow hown hat)
            go_roundw
            case rel => exact ⟨k + 1, by omega, by go_num, by rw [HY.out]; exact B5⟩
            case measure => simp [intOf]; omega
        · obtain rfl : k = bs.length := by omega
          have z2 := (AT.out _ B4.out.keep).1
          go_wp2_with fail
          refine (cloneBools_any _ bs _ (AT.out _ B4.out.keep).2.2 hb0 hb4).mono ?_
          rintro e w5 ⟨al, cl, rfl, hA5, hb5⟩
          have B6 := Lib.hid ((B4.out.addPre hb5 _ hA5.head (fun k e => hA5.lt k e)))
          clear z2 hA5 hb5
          have hform : ∃ gl, al = some ⟨gl, 0, none⟩ := by
            obtain ⟨g, c, he, _⟩ := World.ownsRow.form (n := bs.length) (B6.out.also 0 (by simp)).1 hb0
            simp only [Value.slice.injEq] at he
            exact ⟨g, he.1⟩
          obtain ⟨gl, rfl⟩ := hform
          have HST : Hid (Back m bs (endsQ m bs.length)) := by
            have := Back.start m
            rw [HME.out] at this
            exact Lib.hid this
          go_wp2_with fail
          clear B4
          go_loopw [6, 10] (fun qv i wr => ∃ (n : Nat) (q : List Int) (X : List Bool), n ≤ q.length ∧ i = .int .i64 n ∧ Back m X q ∧ (∀ j (h : j < q.length), j < n → ∀ p ∈ before m q[j], p ∈ q) ∧
            Bk W0 (.slice (some ⟨O, 0, none⟩) bs.length bs.length) ps [rowT 4 1 (.slice (some ⟨gl, 0, none⟩) bs.length cl) bs.length (X.map Value.bool), rowT 3 1 qv q.length (q.map (Value.int .i64))] wr) (fun _ i _ => bs.length - (intOf i).toNat)
          case atStart => exact ⟨0, endsQ m bs.length, bs, Nat.zero_le _, rfl, HST.out, fun j _ h => absurd h (Nat.not_lt_zero j), B6.out⟩
          case round =>
            obtain ⟨n, q, X, hn, rfl, hBk, hcl, hB⟩ := hrel
            obtain ⟨a7, c7, rfl⟩ := ownsRow_slice (hB.also 1 (by simp)).1
            have B7 := Lib.hid hB
            have HBK := Lib.hid hBk
            have HCL := Lib.hid hcl
            have hqb : q.length ≤ bs.length := by have := hBk.bound; rw [HME.out] at this; exact this
            clear hB hBk hcl
            by_cases hlt : n < q.length
            · have hx := HBK.out.inn _ (List.getElem_mem hlt)
              have hxl := HBK.out.live _ (List.getElem_mem hlt)
              rw [HME.out] at hx
              obtain ⟨s, hse⟩ : ∃ s : Nat, q[n] = (s : Int) := ⟨(q[n]).toNat, by omega⟩
              obtain ⟨g7, c8, hs7, -, -⟩ := World.ownsRow.form (B7.out.also 1 (by simp)).1 (by omega)
              cases hs7
              have hcq := World.ownsRow.cellAt (B7.out.also 1 (by simp)).1 n (by omega)
              rw [List.getElem?_map, List.getElem?_eq_getElem hlt] at hcq
              simp only [Option.map_some] at hcq
              rw [hse] at hx hxl hcq
              have HX := Lib.hid hse
              have hsn : s < ps.length := by have := HPL.out; omega
              have hsb : (s : Int) < bs.length := hx.2
              have B8 := B7.out
              rw [← HPL.out] at B8
              have hco := World.ownsRow.cellAt B8.row s (by omega)
              rw [List.getElem?_map, List.getElem?_eq_getElem hsn] at hco
              simp only [Option.map_some] at hco
              have hbe : before m (s : Int) = ps[s].2 := by
                unfold before
                rw [← HPN.out, List.getD_eq_getElem?_getD, Int.toNat_natCast, List.getElem?_map, List.getElem?_eq_getElem hsn]; rfl
              obtain ⟨av, cv, hvs⟩ := ownsRow_slice (B8.inner s hsn)
              rw [hvs] at hco
              have HV := Lib.hid hvs
              have HBE := Lib.hid hbe
              have HXL := Lib.hid hxl
              have hll : ps[s].2.length ≤ xs.length := by
                have h1 := preds_len m m.next.length s
                have e : (preds m m.next.length).getD s [] = ps[s].2 := by
                  rw [← HPN.out, List.getD_eq_getElem?_getD, List.getElem?_map, List.getElem?_eq_getElem hsn]; rfl
                rw [e, HMN.out] at h1; exact h1
              clear hse hx hxl hvs hbe B8
              generalize hlst : ps[s].2 = lst at *
              go_wp2_with fail
              go_loopw [6, 69] (fun qv i wr => ∃ (j : Nat) (q' tl : List Int) (X' : List Bool), j ≤ lst.length ∧ i = .int .i64 j ∧ q' = q ++ tl ∧ Back m X' q' ∧ (∀ p ∈ lst.take j, p ∈ q') ∧
                Bk W0 (.slice (some ⟨O, 0, none⟩) bs.length bs.length) ps [rowT 4 1 (.slice (some ⟨gl, 0, none⟩) bs.length cl) bs.length (X'.map Value.bool), rowT 3 1 qv q'.length (q'.map (Value.int .i64))] wr) (fun _ i _ => lst.length - (intOf i).toNat)
              case atStart => exact ⟨0, q, [], X, Nat.zero_le _, rfl, (List.append_nil q).symm, HBK.out, fun p hp => by simp at hp, B7.out⟩
              case round =>
                obtain ⟨j, q', tl, X', hj, rfl, hq', hBk', hcl', hB'⟩ := hrel
                obtain ⟨a9, c9, rfl⟩ := ownsRow_slice (hB'.also 1 (by simp)).1
                have B9 := Lib.hid hB'
                have HBK' := Lib.hid hBk'
                have HCL' := Lib.hid hcl'
                have HQ' := Lib.hid hq'
                have hqb' : q'.length ≤ bs.length := by have := hBk'.bound; rw [HME.out] at this; exact this
                clear hB' hBk' hcl' hq'
                by_cases hjl : j < lst.length
                · have hin := B9.out.inner s hsn
                  rw [HV.out, hlst] at hin
                  obtain ⟨gi, ci, hgi, -, -⟩ := World.ownsRow.form hin (by omega)
                  simp only [Value.slice.injEq] at hgi
                  obtain ⟨rfl, -, -⟩ := hgi
                  have hci := World.ownsRow.cellAt hin j (by omega)
                  rw [List.getElem?_map, List.getElem?_eq_getElem hjl] at hci
                  simp only [Option.map_some] at hci
                  have hpb : lst[j] ∈ before m (s : Int) := by rw [HBE.out]; exact List.getElem_mem hjl
                  have hpi := before_in HG.out hpb
                  rw [HME.out] at hpi
                  have hpl := before_live HG.out (by omega) hpb HXL.out
                  obtain ⟨p, hpe⟩ : ∃ p : Nat, lst[j] = (p : Int) := ⟨(lst[j]).toNat, by omega⟩
                  have HTK : Hid (∀ Y : List Int, (∀ z ∈ lst.take j, z ∈ Y) → (p : Int) ∈ Y → ∀ z ∈ lst.take (j + 1), z ∈ Y) := by
                    have : ∀ Y : List Int, (∀ z ∈ lst.take j, z ∈ Y) → (p : Int) ∈ Y → ∀ z ∈ lst.take (j + 1), z ∈ Y := by
                      intro Y h1 h2 z hz
                      rcases (mem_take_succ2 hjl).1 hz with h | rfl
                      · exact h1 z h
                      · rw [hpe]; exact h2
                    exact Lib.hid this
                  rw [hpe] at hci hpi hpl
                  have hX'l : X'.length = bs.length := by have := HBK'.out.len; rw [HME.out] at this; exact this
                  have hpX : p < X'.length := by omega
                  have hpbs : (p : Int) < bs.length := hpi.2
                  have hlv := (B9.out.also 0 (by simp)).1
                  have hcx := World.ownsRow.cellAt hlv p (by omega)
                  rw [List.getElem?_map, List.getElem?_eq_getElem hpX] at hcx
                  simp only [Option.map_some] at hcx
                  have HPLV := Lib.hid hpl
                  clear hin hpb hpe hpl
                  by_cases hxv : X'[p] = true
                  · have hmem := Lib.hid ((HBK'.out.iff p hpX).1 hxv)
                    rw [hxv] at hcx
                    clear hxv hlv
                    go_wp2_with fail
                    go_roundw
                    case rel => exact ⟨j + 1, q', tl, X', by omega, by go_num, HQ'.out, HBK'.out, HTK.out q' HCL'.out hmem.out, B9.out⟩
                    case measure => simp [intOf]; omega
                  · have hxf : X'[p] = false := by simpa using hxv
                    have HPU := Lib.hid (HBK'.out.push hpX hxf HPLV.out)
                    rw [hxf] at hcx
                    have hfr := World.ownsRow.frozenAt hlv p
                    have B10 := B9.out.turnPre 0 (by simp) (grown_setCell wr gl p (.bool true)) (rowT 4 1 (.slice (some ⟨gl, 0, none⟩) bs.length cl) bs.length ((X'.set p true).map Value.bool))
                      (by show World.ownsRow _ _ _ _ _ _ _; rw [List.map_set]; exact (World.ownsRow.stored hlv p (.bool true)).1)
                      (fun k e => ⟨.inl e, by have := (B9.out.also 0 (by simp)).2 k e; simpa using this.2⟩)
                    have B11 := Lib.hid B10
                    have hq10 := Lib.hid (B11.out.also 1 (by simp)).1
                    clear hxv hxf hlv B10
                    go_wp2_with (at_builtin; refine wpList_append_lies _ rfl _ _ 23 rfl 0 3 i0 (.int .i64 0) 1 8 Try.underlying23 HI.out.1 HI.out.2.1 HI.out.2.2.1 HI.out.2.2.2 rfl (by decide) (.slice a9 q'.length c9) q'.length (q'.map (Value.int .i64)) rfl (World.ownsRow.alloc hq10.out _) ⟨wr.heap.size, 0, none⟩ 1 1 [.int .i64 (p : Int)] rfl rfl (by simpa using cell_one_new (wr.setCell ⟨gl, p, none⟩ (.bool true)) (.int .i64 (p : Int)) 3) (by simp [Value.oneCell']) (by omega) (by unfold maxLen; omega) (by omega) (Nat.zero_le _) _ rfl ?_; intro g9 cp w4 hown hgrow hat hlt3; have B12 := B11.out.push (i := 1) (by simp) rfl hgrow hown hat)
                    go_roundw
                    case rel => exact ⟨j + 1, q' ++ [(p : Int)], tl ++ [(p : Int)], X'.set p true, by omega, by go_num, by rw [HQ'.out, List.append_assoc], HPU.out, HTK.out _ (fun z hz => List.mem_append.2 (.inl (HCL'.out z hz))) (by simp), B12⟩
                    case measure => simp [intOf]; omega
                · obtain rfl : j = lst.length := by omega
                  have hnext : n + 1 ≤ q'.length := by rw [HQ'.out, List.length_append]; omega
                  have hclo : Hid (∀ j (h : j < q'.length), j < n + 1 → ∀ p ∈ before m q'[j], p ∈ q') := by
                    have : ∀ j (h : j < q'.length), j < n + 1 → ∀ p ∈ before m q'[j], p ∈ q' := by
                      intro i hi hin p hp
                      have hiq : i < q.length := by omega
                      have e : q'[i] = q[i] := by simp only [HQ'.out]; exact List.getElem_append_left hiq
                      rw [e] at hp
                      by_cases hie : i < n
                      · have := HCL.out i hiq hie p hp
                        rw [HQ'.out]; exact List.mem_append.2 (.inl this)
                      · obtain rfl : i = n := by omega
                        rw [HX.out, HBE.out] at hp
                        exact HCL'.out p (by rw [List.take_length]; exact hp)
                    exact Lib.hid this
                  go_wp2_with fail
                  go_roundw
                  case rel => exact ⟨n + 1, q', X', hnext, by go_num, HBK'.out, hclo.out, B9.out⟩
                  case measure => simp [intOf]; omega
            · obtain rfl : n = q.length := by omega
              have HLV : Hid (IsLive m X) := Lib.hid (HBK.out.done HG.out (fun x hx p hp => by
                obtain ⟨i, hi, rfl⟩ := List.getElem_of_mem hx
                exact HCL.out i hi hi p hp))
              have hXl : X.length = bs.length := by have := HBK.out.len; rw [HME.out] at this; exact this
              go_wp2_with fail
              have hb := B7.out.also 0 (by simp)
              have hbs : Below R w wr := hbw0.out.trans (B7.out.keep.mono (by rw [HSZ.out, ← HO.out]; exact Nat.le_succ _))
              have HB := Lib.hid hb
              have HBS := Lib.hid hbs
              clear hb hbs
              go_ret
              have hap : Apart w.heap.size [rowT 4 1 (.slice (some ⟨gl, 0, none⟩) X.length cl) X.length (X.map Value.bool)] wr := by
                refine ⟨fun t ht => ?_, by simp⟩
                simp only [List.mem_singleton] at ht
                subst ht
                rw [hXl]
                exact ⟨HB.out.1, fun k e => ⟨by have := (HB.out.2 k e).1; rw [HSZ.out, ← HO.out, ← hR] at this; omega, (HB.out.2 k e).2⟩⟩
              exact ⟨X, by rw [HM.out]; exact HLV.out, some ⟨gl, 0, none⟩, cl, by rw [hXl]; rfl, hap, by rw [hR]; exact HBS.out⟩
end Go.Proofs.Ytjdeahdngpccpaa
