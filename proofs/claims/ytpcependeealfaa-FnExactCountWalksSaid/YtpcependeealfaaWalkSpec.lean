/- spec.l7Steps, spec.l7Times and spec.CountWalks. No condition. -/
import Derived.Test.YtpcependeealfaaMats
import Derived.Test.YtpcependeealfaaAfter
import Derived.Test.YtpcependeealfaaImplLive
import Derived.BigQuiet
import Derived.Deep.RegionLaw
import Derived.Deep.RegionWith
import Derived.Deep.CutBlock
namespace Go.Proofs.Ytpcependeealfaa
open Go.RowKit

theorem infoIntM : (Try.prog.info? 3).map (fun i => (i.zero, i.size, i.bytes)) = some (some (.int .i64 0), 1, 8) := by kernel_rfl
theorem infoSlM : (Try.prog.info? 23).map (fun i => (i.zero, i.size, i.bytes)) = some (some (.slice none 0 0), 1, 24) := by kernel_rfl
theorem cellM (w : World) (u : Value) (t : TypeId) : ∀ j x, [u][j]? = some x → (w.alloc (.cells #[u] t)).cell? ((⟨w.heap.size, 0, none⟩ : Addr).add j) = some x := by
  intro j x h
  cases j with
  | zero =>
    simp only [List.getElem?_cons_zero, Option.some.injEq] at h
    subst h
    exact World.cell?_alloc_new w _ t 0
  | succ j => simp at h
theorem made_rowF (n : Nat) : (madeCells (Value.int .i64 0).cells (n * 1)).toList = (rowF (fun _ => 0) n).map (Value.int .i64) := by
  rw [Nat.mul_one]
  have : (madeCells (Value.int .i64 0).cells n).toList = List.replicate n (.int .i64 0) := toList_madeCells_one _ _
  rw [this, ← rowF_zero, List.map_replicate]

/-- by a letter that leads on -/
theorem steps_more (m : M) (n l i t : Nat) (ht : t < n) (h : m.nx (i : Int) (l : Int) = (t : Int)) : (rowF (m.stepsTo l i) n).set t (m.stepsTo l i t + 1) = rowF (m.stepsTo (l + 1) i) n := by
  refine rowF_set ht ?_ ?_
  · rw [M.stepsTo, sumN, if_pos h]; rfl
  · intro k _ hk
    rw [M.stepsTo, sumN, if_neg (by rw [h]; omega)]
    exact Int.add_zero _
theorem steps_same (m : M) (n l i : Nat) (h : m.nx (i : Int) (l : Int) < 0) : rowF (m.stepsTo l i) n = rowF (m.stepsTo (l + 1) i) n := by
  refine rowF_congr fun j _ => ?_
  rw [M.stepsTo, M.stepsTo, sumN, if_neg (by omega)]
  exact (Int.add_zero _).symm
theorem stepsTo_bd (m : M) (l i j : Nat) : 0 ≤ m.stepsTo l i j ∧ m.stepsTo l i j ≤ l := by
  have := sumN_bd (fun c => if m.nx (i : Int) (c : Int) = (j : Int) then 1 else 0) 1 l (fun c _ => by split <;> omega)
  rw [M.stepsTo]; omega

set_option maxHeartbeats 4000000 in
theorem specSteps_any (m : M) (nv ev : Value) (w : World) (h1 : IsInts w nv m.next) (h2 : IsBools w ev m.ends) (hk : m.ok = true) :
    Calls Try.prog 98 #[.agg #[.int .i64 m.st, nv, ev]] w fun e w' => ∃ v, e = .returned v ∧ IsMat w' v m.ends.length m.steps ∧ Below w.heap.size w w' := by
  obtain ⟨i0, hi, hz0, hz1, hz2⟩ := info_parts infoIntM
  obtain ⟨s0, hs, hy0, hy1, hy2⟩ := info_parts infoSlM
  have hsh := M.ok_shape hk
  have hn48 : m.ends.length ≤ 48 := by omega
  have hn1 : 1 ≤ m.ends.length := by omega
  have HI := Lib.hid (And.intro hi (And.intro hz0 (And.intro hz1 hz2)))
  have HI2 := Lib.hid (show i0.bytes * m.ends.length ≤ 281474976710656 by rw [hz2]; omega)
  have HS := Lib.hid (And.intro hs (And.intro hy0 (And.intro hy1 hy2)))
  clear hi hz0 hz1 hz2 hs hy0 hy1 hy2
  have HK := Lib.hid hk
  have HSTN := Lib.hid (show m.st = (m.ends.length : Int) by omega)
  have M0 := Lib.hid (MachBox.new (st := m.st) 26 h1 h2)
  have q0 : Hid (Below w.heap.size w (w.alloc (.cells #[.int .i64 m.st, nv, ev] 26))) := Lib.hid ((Below.refl _ _).alloc (Nat.le_refl _) _)
  obtain ⟨na, nc, rfl, hna1, hna2, hna⟩ := h1
  unfold maxLen at hna2
  clear hsh h2 hk hna
  rw [HSTN.out] at M0 q0 ⊢
  have y0 := M0.out.c0
  have y1 := M0.out.c1
  go_enter Try.func98, Try.ntmps98
  go_upto_region 1 with fail
  generalize hW0 : (w.alloc (.cells #[.int .i64 (m.ends.length : Int), .slice na m.next.length nc, ev] 26)) = W0 at *
  generalize hR : w.heap.size = R at *
  have HW0 := Lib.hid hW0
  have HR := Lib.hid hR
  clear hW0 hR
  have B0 : Hid (Bk W0 (.slice (some ⟨W0.heap.size, 0, none⟩) 0 0) [] [] (W0.alloc (.cells #[] 23))) := Lib.hid ⟨(Below.refl _ _).alloc (Nat.le_refl _) _, by
    refine ⟨fun t ht => ?_, by simp⟩
    simp only [List.map_nil, List.length_nil, List.append_nil, List.mem_singleton] at ht
    subst ht
    exact ⟨World.ownsRow_lit (base := 0) W0 #[] 0 (Nat.zero_le _) (Nat.zero_le _) rfl, fun k e => by cases e; simp⟩⟩
  clear y0 y1
  go_wp2_with fail
  go_loopw [3, 4, 5, 6, 7] (fun ov iv _ _ _ wr => ∃ (k : Nat) (ki : Int) (ps : List (Value × List Int)), ki = (k : Int) ∧ k ≤ m.ends.length ∧ iv = .int .i64 ki ∧ ps.length = k ∧ (∀ j (hj : j < ps.length), ps[j].2 = rowF (m.steps j) m.ends.length) ∧ Bk W0 ov ps [] wr) (fun _ iv _ _ _ _ => m.ends.length - (intOf iv).toNat)
  case atStart => exact ⟨0, 0, [], rfl, Nat.zero_le _, rfl, rfl, fun j hj => absurd hj (Nat.not_lt_zero j), B0.out⟩
  case round =>
    obtain ⟨k, ki, ps, hki, hkn, rfl, hpl, hrows, hB⟩ := hrel
    have B1 := Lib.hid hB
    have HPL := Lib.hid hpl
    have HRW := Lib.hid hrows
    have HKI := Lib.hid hki
    have M1 := Lib.hid (M0.out.below hB.keep)
    have y0 := M1.out.c0
    have y1 := M1.out.c1
    have hq : IntKind.i64.wrap (ki + 1) = ki + 1 := IntWalk.i64_in _ (by omega)
    obtain ⟨oa, oc, rfl⟩ := ownsRow_slice hB.row
    clear hB hrows hpl
    by_cases hlt : k < m.ends.length
    · have hltI : ki < (m.ends.length : Int) := by omega
      have hk0 : 0 ≤ ki := by omega
      clear hki
      go_wp2_with (at_make; refine wpList_make_full _ rfl _ _ 23 rfl wr.heap.size 3 i0 (.int .i64 0) 1 Try.underlying23 HI.out.1 HI.out.2.1 HI.out.2.2.1 .i64 .i64 _ _ m.ends.length rfl rfl rfl rfl HI2.out (by unfold maxLen; omega) (Nat.le_refl _) ?_; intro w1 hown1 hgrow1; have z0 := hgrow1.cell y0 (by simp); have z1 := hgrow1.cell y1 (by simp))
      rw [made_rowF] at hown1
      have B2 : Hid (Bk W0 (.slice oa ps.length oc) ps (inn (.slice (some ⟨wr.heap.size, 0, none⟩) m.ends.length m.ends.length, rowF (m.stepsTo 0 k) m.ends.length) :: []) w1) := Lib.hid (B1.out.made hgrow1 (by
        have e : rowF (m.stepsTo 0 k) m.ends.length = rowF (fun _ => 0) m.ends.length := rowF_congr fun _ _ => rfl
        rw [e, rowF_length]; exact hown1) (fun j e => by cases e; exact Nat.le_refl _))
      clear hown1 hgrow1 y0 y1 z0 z1
      generalize wr.heap.size = gr at *
      go_loopw [6, 7] (fun lv _ wr2 => ∃ (l : Nat) (li : Int), li = (l : Int) ∧ l ≤ 3 ∧ lv = .int .i64 li ∧ Bk W0 (.slice oa ps.length oc) ps (inn (.slice (some ⟨gr, 0, none⟩) m.ends.length m.ends.length, rowF (m.stepsTo l k) m.ends.length) :: []) wr2) (fun lv _ _ => 3 - (intOf lv).toNat)
      case atStart => exact ⟨0, 0, rfl, by omega, rfl, B2.out⟩
      case round =>
        obtain ⟨l, li, hli, hl3, rfl, hB⟩ := hrel
        have B3 := Lib.hid hB
        have HLI := Lib.hid hli
        have M3 := Lib.hid (M0.out.below hB.keep)
        have y0 := M3.out.c0
        have y1 := M3.out.c1
        have y2 := M3.out.c2
        clear hB
        have hq2 : IntKind.i64.wrap (li + 1) = li + 1 := IntWalk.i64_in _ (by omega)
        by_cases hl : l < 3
        · have hlI : li < 3 := by omega
          have hkI := HKI.out
          obtain ⟨x, hx1, hx2, hx3⟩ := M.nx_at HK.out ki li hk0 (by rw [HSTN.out]; exact hltI) (by omega) (by omega)
          obtain ⟨a9, c9, he9, -, -, hc9⟩ := M3.out.ints
          obtain ⟨g9, o9, he8, hg9, hcc⟩ := hc9.resolve_left (fun h => by rw [h] at hx2; exact absurd hx2 (Nat.not_lt_zero x))
          subst he8
          simp only [Value.slice.injEq] at he9
          obtain ⟨rfl, -, rfl⟩ := he9
          have hcell := hcc x hx2
          have hnb := M.nx_bd HK.out ki li (by rw [HSTN.out]; exact hltI) (by omega) (by omega)
          rw [HSTN.out] at hnb
          have hq3 : IntKind.i64.wrap (3 * ki) = 3 * ki := IntWalk.i64_in _ (by omega)
          have hq4 : IntKind.i64.wrap (3 * ki + li) = 3 * ki + li := IntWalk.i64_in _ (by omega)
          have hx4 : 3 * ki + li = (x : Int) := hx1.symm
          have HN := Lib.hid (show m.nx (k : Int) (l : Int) = m.next[x] by rw [← HKI.out, ← HLI.out]; exact hx3)
          rw [hx3] at hnb
          clear hcc hx1 hx3 hc9 hli hkI
          generalize m.next[x] = d at *
          by_cases hd : 0 ≤ d
          · obtain ⟨t, rfl⟩ := Int.eq_ofNat_of_zero_le hd
            have htn : t < m.ends.length := by omega
            have htd : (t : Int) < (m.ends.length : Int) := by omega
            have HST := Lib.hid (steps_more m m.ends.length l k t htn HN.out)
            have hrw : wr.ownsRow 0 3 1 (.slice (some ⟨gr, 0, none⟩) m.ends.length m.ends.length) (rowF (m.stepsTo l k) m.ends.length).length ((rowF (m.stepsTo l k) m.ends.length).map (Value.int .i64)) := (B3.out.also 0 (by simp)).1
            rw [rowF_length] at hrw
            have hc1 := World.ownsRow.cellAt hrw t (by omega)
            rw [rowF_cell _ _ _ htn] at hc1
            have hf1 := World.ownsRow.frozenAt hrw t
            have hbd := stepsTo_bd m l k t
            have hq5 : IntKind.i64.wrap (m.stepsTo l k t + 1) = m.stepsTo l k t + 1 := IntWalk.i64_in _ (by omega)
            have B4 := Lib.hid (B3.out.setPre (rowF_length _ _).symm t (m.stepsTo l k t + 1))
            rw [HST.out] at B4
            generalize m.stepsTo l k t = z at *
            clear hrw hbd
            go_wp2_with fail
            go_roundw
            case rel => exact ⟨l + 1, li + 1, by have := HLI.out; omega, by omega, by first | rfl | rw [hq2], B4.out⟩
            case measure => simp [intOf]; have := HLI.out; omega
          · have HST := Lib.hid (steps_same m m.ends.length l k (by rw [HN.out]; omega))
            rw [HST.out] at B3
            have hdn : ¬ 0 ≤ d := hd
            clear hd
            go_wp2_with fail
            go_roundw
            case rel => exact ⟨l + 1, li + 1, by have := HLI.out; omega, by omega, by first | rfl | rw [hq2], B3.out⟩
            case measure => simp [intOf]; have := HLI.out; omega
        · obtain rfl : l = 3 := by omega
          have hnl : ¬ li < 3 := by omega
          have HE : Hid (rowF (m.stepsTo 3 k) m.ends.length = rowF (m.steps k) m.ends.length) := Lib.hid (rowF_congr fun j _ => m.stepsTo_three k j)
          rw [HE.out] at B3
          have hps48 : ps.length ≤ 48 := by have := HPL.out; omega
          clear hli y0 y1 y2
          go_wp2_with (at_builtin; refine wpList_append_lies _ rfl _ _ 99 rfl 0 23 s0 (.slice none 0 0) 1 24 Try.underlying99 HS.out.1 HS.out.2.1 HS.out.2.2.1 HS.out.2.2.2 rfl (by decide) (.slice oa ps.length oc) ps.length (ps.map Prod.fst) rfl (B3.out.row.alloc _) ⟨wr.heap.size, 0, none⟩ 1 1 [.slice (some ⟨gr, 0, none⟩) m.ends.length m.ends.length] rfl rfl (cellM _ _ _) (by simp [Value.oneCell']) (by omega) (by unfold maxLen; omega) (by omega) (Nat.zero_le _) _ rfl ?_; intro g9 cp w6 hown hgrow hat hlt3; have B5 := Lib.hid (B3.out.more hgrow hown hat); clear hown hgrow hat hlt3)
          go_roundw
          case rel => exact ⟨k + 1, ki + 1, _, by have := HKI.out; omega, by omega, by first | rfl | rw [hq], by rw [List.length_append, HPL.out]; rfl, fun j hj => by
            rw [List.length_append, List.length_singleton] at hj
            by_cases e : j < ps.length
            · rw [List.getElem_append_left e]; exact HRW.out j e
            · have e2 : j = ps.length := by omega
              subst e2
              rw [List.getElem_append_right (Nat.le_refl _)]
              simp [HPL.out], B5.out⟩
          case measure => simp [intOf]; have := HKI.out; omega
    · have hnlt : ¬ ki < (m.ends.length : Int) := by omega
      have hkn2 : k = m.ends.length := by omega
      clear hki
      go_wp2_with fail
      go_ret
      refine ⟨_, rfl, B1.out.mat (by rw [HPL.out, hkn2]) hn1 HRW.out, ?_⟩
      have hb := B1.out.keep
      rw [← HW0.out, ← HR.out] at *
      exact ((Below.refl w.heap.size w).alloc (Nat.le_refl _) _).trans (hb.mono (by simp))
end Go.Proofs.Ytpcependeealfaa
