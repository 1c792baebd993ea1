/- spec.l6Many counts the words that lead from a state to an end. No condition. -/
import Derived.Test.YtlbblfbiiceofaaOwn
import Derived.Deep.AppendLies
import Derived.Deep.CutBlock
namespace Go.Proofs.Ytlbblfbiiceofaa
open Go.RowKit

theorem infoIntW : (Try.prog.info? 3).map (fun i => (i.zero, i.size, i.bytes)) = some (some (.int .i64 0), 1, 8) := by kernel_rfl
theorem cellW (w : World) (u : Value) (t : TypeId) : ∀ j x, [u][j]? = some x → (w.alloc (.cells #[u] t)).cell? ((⟨w.heap.size, 0, none⟩ : Addr).add j) = some x := by
  intro j x hx
  rw [show (⟨w.heap.size, 0, none⟩ : Addr).add j = ⟨w.heap.size, j, none⟩ by unfold Addr.add; split <;> simp_all, World.cell?_alloc_new]
  simpa using hx
theorem M.waysRow_take (m : M) (r k : Nat) (h : k < m.ends.length) : (m.waysRow r).take (k + 1) = (m.waysRow r).take k ++ [m.ways r (k : Int)] := by
  rw [List.take_succ_eq_append_getElem (by rw [m.waysRow_length]; exact h), m.waysRow_at]
theorem M.waysRow_cell (m : M) (r t : Nat) (h : t < m.ends.length) : ((m.waysRow r).map (Value.int .i64))[t]? = some (.int .i64 (m.ways r (t : Int))) := by
  rw [List.getElem?_map, List.getElem?_eq_getElem (by rw [m.waysRow_length]; exact h), m.waysRow_at]; rfl
/-- a row of the first ways -/
def wT (m : M) (v : Value) (r k : Nat) : Thing := rowT 3 1 v k (((m.waysRow r).take k).map (Value.int .i64))
theorem wT_next (m : M) (v : Value) (r k : Nat) (h : k < m.ends.length) : wT m v r (k + 1) = rowT 3 1 v (k + 1) (((m.waysRow r).take k).map (Value.int .i64) ++ [.int .i64 (m.ways r (k : Int))]) := by
  rw [wT, m.waysRow_take r k h, List.map_append]; rfl
theorem wT_all (m : M) (v : Value) (r : Nat) : wT m v r m.ends.length = rowT 3 1 v m.ends.length ((m.waysRow r).map (Value.int .i64)) := by
  rw [wT, List.take_of_length_le (by rw [m.waysRow_length]; exact Nat.le_refl _)]

set_option maxHeartbeats 3200000 in
theorem l6Many_core (xs : List Int) (bs : List Bool) (nv ev : Value) (w : World) (h1 : IsInts w nv xs) (h2 : IsBools w ev bs) (hg : M.good ⟨(bs.length : Int), xs, bs⟩) (s r : Nat) (hs : s < bs.length) (hr : r ≤ 10) :
    Calls Try.prog 100 #[.agg #[.int .i64 (bs.length : Int), nv, ev], .int .i64 (s : Int), .int .i64 (r : Int)] w fun e w' => e = .returned (.int .i64 (M.ways ⟨(bs.length : Int), xs, bs⟩ r (s : Int))) ∧ Below w.heap.size w w' := by
  obtain ⟨i0, hi, hz0, hz1, hz2⟩ := info_parts infoIntW
  have HI := Lib.hid (And.intro hi (And.intro hz0 (And.intro hz1 hz2)))
  clear hi hz0 hz1 hz2
  have hsh := M.good_shape hg
  simp only at hsh
  obtain ⟨an, nn, cn, rfl⟩ := h1.slice
  obtain ⟨g1, off1, rfl, rfl, hcn, hcnm, hg1, hcellN⟩ := ints_cells h1 (by omega)
  obtain ⟨ae, ne, ce, rfl⟩ := h2.slice
  obtain ⟨g2, off2, rfl, rfl, hg2, hcellE⟩ := bools_cells3 h2 (by omega)
  unfold maxLen at hcnm
  have M0 := Lib.hid (MachBox.new (st := (bs.length : Int)) 115 h1 h2)
  have K0 := Lib.hid ((Below.refl w.heap.size w).alloc (Nat.le_refl _) (.cells #[.int .i64 (bs.length : Int), .slice (some ⟨g1, off1, none⟩) xs.length cn, .slice (some ⟨g2, off2, none⟩) bs.length ce] 115))
  have hx4 : xs.length ≤ 12000 := by omega
  have hb4 : bs.length ≤ 4000 := by omega
  have HL3 := Lib.hid hsh.2.2.1
  have HG := Lib.hid hg
  clear h1 h2 hcellN hcellE hsh hg
  go_enter Try.func100, Try.ntmps100
  go_upto_region 1 with fail
  generalize hW0 : (w.alloc (.cells #[.int .i64 (bs.length : Int), .slice (some ⟨g1, off1, none⟩) xs.length cn, .slice (some ⟨g2, off2, none⟩) bs.length ce] 115)) = W0 at *
  have HSZ : Hid (W0.heap.size = w.heap.size + 1) := by rw [← hW0]; exact Lib.hid (by simp)
  clear hW0
  generalize hR : w.heap.size = R at *
  have HR := Lib.hid hR
  clear hR
  generalize hm : (⟨(bs.length : Int), xs, bs⟩ : M) = m at *
  have HME : Hid (m.ends = bs) := by rw [← hm]; exact Lib.hid rfl
  have HMN : Hid (m.next = xs) := by rw [← hm]; exact Lib.hid rfl
  have HMS : Hid (m.st = (bs.length : Int)) := by rw [← hm]; exact Lib.hid rfl
  have HM := Lib.hid hm
  clear hm
  have AT : Hid (∀ W, Below W0.heap.size W0 W → W.cell? ⟨R, 0, none⟩ = some (.int .i64 (bs.length : Int)) ∧ W.cell? ⟨R, 1, none⟩ = some (.slice (some ⟨g1, off1, none⟩) xs.length cn) ∧ W.cell? ⟨R, 2, none⟩ = some (.slice (some ⟨g2, off2, none⟩) bs.length ce) ∧
      (∀ k (h : k < xs.length), W.cell? ⟨g1, off1 + k, none⟩ = some (.int .i64 xs[k])) ∧ (∀ k (h : k < bs.length), W.cell? ⟨g2, off2 + k, none⟩ = some (.bool bs[k]))) := Lib.hid (by
    intro W hW
    have M1 := M0.out.below hW
    obtain ⟨g, o, he, _, _, _, _, hc⟩ := ints_cells M1.ints (by have := HL3.out; omega)
    simp only [Option.some.injEq, Addr.mk.injEq, and_true] at he
    obtain ⟨rfl, rfl⟩ := he
    obtain ⟨g, o, he, _, _, hc2⟩ := bools_cells3 M1.bools (by omega)
    simp only [Option.some.injEq, Addr.mk.injEq, and_true] at he
    obtain ⟨rfl, rfl⟩ := he
    exact ⟨M1.c0, M1.c1, M1.c2, hc, hc2⟩)
  clear M0
  have O0 := Lib.hid ((Own.nil W0).lit 3 #[] 0 rfl (Nat.zero_le _))
  have HZ : Hid (W0.heap.size = W0.heap.size) := Lib.hid rfl
  go_wp2_with fail
  go_loopw [7, 8] (fun qv i wr => ∃ (k g c : Nat), k ≤ bs.length ∧ i = .int .i64 (k : Int) ∧ qv = .slice (some ⟨g, 0, none⟩) k c ∧ Own W0 [wT m (.slice (some ⟨g, 0, none⟩) k c) 0 k] wr) (fun _ i _ => bs.length - (intOf i).toNat)
  case atStart => exact ⟨0, _, 0, Nat.zero_le _, rfl, rfl, O0.out⟩
  case round =>
    obtain ⟨k, g, c, hk, rfl, rfl, hO⟩ := hrel
    have O1 := Lib.hid hO
    clear hO
    obtain ⟨m0, m1, m2, hcx, hcb⟩ := AT.out _ O1.out.keep
    by_cases hlt : k < bs.length
    · have hcell := hcb k hlt
      have hltI : (k : Int) < (bs.length : Int) := by omega
      have HW : Hid (m.ways 0 (k : Int) = if bs[k] = true then 1 else 0) := Lib.hid (by
        have h : m.endAt (k : Int) = bs[k] := by
          rw [M.endAt, if_neg (by omega), HME.out, Int.toNat_natCast, List.getD_eq_getElem?_getD, List.getElem?_eq_getElem hlt]; rfl
        rw [M.ways_end, h])
      have HNX := Lib.hid (fun v => wT_next m v 0 k (by rw [HME.out]; exact hlt))
      clear hcb hcx m1
      generalize bs[k] = b at *
      cases b with
      | true =>
        have HW2 : Hid (m.ways 0 (k : Int) = 1) := Lib.hid (by rw [HW.out]; rfl)
        go_wp2_with (at_builtin; refine wpList_append_lies _ rfl _ _ 113 rfl 0 3 i0 (.int .i64 0) 1 8 Try.underlying113 HI.out.1 HI.out.2.1 HI.out.2.2.1 HI.out.2.2.2 rfl (by decide) (.slice (some ⟨g, 0, none⟩) k c) k (((m.waysRow 0).take k).map (Value.int .i64)) rfl ((O1.out.row 0 (by simp) rfl).alloc _) ⟨wr.heap.size, 0, none⟩ 1 1 [.int .i64 1] rfl rfl (cellW _ _ _) (by simp [Value.oneCell']) (by omega) (by unfold maxLen; omega) (by omega) (Nat.zero_le _) _ rfl ?_; intro g9 cp w4 hown hgrow hat hlt3; have O2 := Lib.hid (O1.out.push (i := 0) (by simp) rfl hgrow hown hat); clear hown hgrow hat hlt3)
        go_roundw
        case rel => exact ⟨k + 1, g9, cp, by omega, by go_num, rfl, by rw [HNX.out, HW2.out]; exact O2.out⟩
        case measure => simp [intOf]; omega
      | false =>
        have HW2 : Hid (m.ways 0 (k : Int) = 0) := Lib.hid (by rw [HW.out]; rfl)
        go_wp2_with (at_builtin; refine wpList_append_lies _ rfl _ _ 113 rfl 0 3 i0 (.int .i64 0) 1 8 Try.underlying113 HI.out.1 HI.out.2.1 HI.out.2.2.1 HI.out.2.2.2 rfl (by decide) (.slice (some ⟨g, 0, none⟩) k c) k (((m.waysRow 0).take k).map (Value.int .i64)) rfl ((O1.out.row 0 (by simp) rfl).alloc _) ⟨wr.heap.size, 0, none⟩ 1 1 [.int .i64 0] rfl rfl (cellW _ _ _) (by simp [Value.oneCell']) (by omega) (by unfold maxLen; omega) (by omega) (Nat.zero_le _) _ rfl ?_; intro g9 cp w4 hown hgrow hat hlt3; have O2 := Lib.hid (O1.out.push (i := 0) (by simp) rfl hgrow hown hat); clear hown hgrow hat hlt3)
        go_roundw
        case rel => exact ⟨k + 1, g9, cp, by omega, by go_num, rfl, by rw [HNX.out, HW2.out]; exact O2.out⟩
        case measure => simp [intOf]; omega
    · obtain rfl : k = bs.length := by omega
      clear hcx hcb m1 m2
      go_wp2_with fail
      clear m0
      go_loopw [7, 10] (fun qv i wr => ∃ (n g c : Nat), n ≤ r ∧ i = .int .i64 (n : Int) ∧ qv = .slice (some ⟨g, 0, none⟩) bs.length c ∧ Own W0 [wT m (.slice (some ⟨g, 0, none⟩) bs.length c) n bs.length] wr) (fun _ i _ => r - (intOf i).toNat)
      case atStart => exact ⟨0, g, c, Nat.zero_le _, rfl, rfl, O1.out⟩
      case round =>
        obtain ⟨n, g5, c5, hn, rfl, rfl, hO⟩ := hrel
        have O3 := Lib.hid hO
        clear hO O1
        by_cases hlt2 : n < r
        · have hlt2I : (n : Int) < (r : Int) := by omega
          have O4 := Lib.hid (O3.out.lit 3 #[] 0 rfl (Nat.zero_le _))
          go_wp2_with fail
          go_loopw [11, 12] (fun qv i wr2 => ∃ (k g7 c7 : Nat), k ≤ bs.length ∧ i = .int .i64 (k : Int) ∧ qv = .slice (some ⟨g7, 0, none⟩) k c7 ∧ Own W0 [wT m (.slice (some ⟨g7, 0, none⟩) k c7) (n + 1) k, wT m (.slice (some ⟨g5, 0, none⟩) bs.length c5) n bs.length] wr2) (fun _ i _ => bs.length - (intOf i).toNat)
          case atStart => exact ⟨0, _, 0, Nat.zero_le _, rfl, rfl, O4.out⟩
          case round =>
            obtain ⟨k, g7, c7, hk7, rfl, rfl, hO⟩ := hrel
            have O5 := Lib.hid hO
            clear hO
            obtain ⟨m0, m1, m2, hcx, hcb⟩ := AT.out _ O5.out.keep
            by_cases hlt7 : k < bs.length
            · have hltI : (k : Int) < (bs.length : Int) := by omega
              have HNX := Lib.hid (fun v => wT_next m v (n + 1) k (by rw [HME.out]; exact hlt7))
              have HWS := Lib.hid (m.ways_succ n (k : Int))
              have hbw := m.waysTo_bd n (k : Int) 3 (by omega) (by omega)
              clear hcx hcb m1 m2
              go_wp2_with fail
              clear m0
              go_loopw [13, 14] (fun sv i wr3 => ∃ (l : Nat), l ≤ 3 ∧ i = .int .i64 (l : Int) ∧ sv = .int .i64 (m.waysTo n (k : Int) l) ∧ wr3 = wr) (fun _ i _ => 3 - (intOf i).toNat)
              case atStart => exact ⟨0, Nat.zero_le _, rfl, rfl, rfl⟩
              case round =>
                obtain ⟨l, hl, rfl, rfl, rfl⟩ := hrel
                by_cases hl3 : l < 3
                · obtain ⟨m0, m1, m2, hcx, hcb⟩ := AT.out _ O5.out.keep
                  have hx3 := HL3.out
                  have hil : 3 * k + l < xs.length := by omega
                  have hcell := hcx (3 * k + l) hil
                  have hnx : m.nx (k : Int) (l : Int) = xs[3 * k + l] := by
                    rw [M.nx, if_neg (by omega), show (3 * (k : Int) + (l : Int)).toNat = 3 * k + l by omega, HMN.out, List.getD_eq_getElem?_getD, List.getElem?_eq_getElem hil]; rfl
                  have hnb : -1 ≤ xs[3 * k + l] ∧ xs[3 * k + l] ≤ (bs.length : Int) - 1 := by
                    have h := HG.out.nxt (3 * k + l) (by rw [HMN.out]; exact hil)
                    rw [HMS.out] at h
                    simp only [HMN.out] at h
                    exact h
                  have HST := Lib.hid (m.waysTo_succ n (k : Int) l)
                  have hb1 := m.waysTo_bd n (k : Int) l hl (by omega)
                  have hq1 : IntKind.i64.wrap (3 * (k : Int)) = 3 * (k : Int) := IntWalk.i64_in _ (by omega)
                  have hq2 : IntKind.i64.wrap (3 * (k : Int) + (l : Int)) = 3 * (k : Int) + (l : Int) := IntWalk.i64_in _ (by omega)
                  have hq3 : 3 * (k : Int) + (l : Int) = ((3 * k + l : Nat) : Int) := by omega
                  rw [hnx] at HST
                  clear hcx hcb m2 hnx hx3
                  generalize 3 * k + l = i at *
                  generalize xs[i] = y at *
                  by_cases hy : y < 0
                  · have hz := m.ways_lt n y hy
                    have HS2 : Hid (m.waysTo n (k : Int) (l + 1) = m.waysTo n (k : Int) l) := Lib.hid (by rw [HST.out, hz]; omega)
                    clear hz HST
                    generalize m.waysTo n (k : Int) l = S at *
                    go_wp2_with fail
                    go_roundw
                    case rel => exact ⟨l + 1, by omega, by go_num, by rw [HS2.out], by trivial⟩
                    case measure => simp [intOf]; omega
                  · obtain ⟨t, rfl⟩ := Int.eq_ofNat_of_zero_le (show 0 ≤ y by omega)
                    have htl : t < bs.length := by omega
                    have hrow := O5.out.row 1 (by simp) (show _ = rowT 3 1 (.slice (some ⟨g5, 0, none⟩) bs.length c5) bs.length ((m.waysRow n).map (Value.int .i64)) from by
                      have := wT_all m (.slice (some ⟨g5, 0, none⟩) bs.length c5) n
                      rw [HME.out] at this; exact this)
                    have hnow := (World.ownsRow.cellAt hrow t (by omega)).trans (m.waysRow_cell n t (by rw [HME.out]; exact htl))
                    have hb3 := m.ways_bd n (t : Int) (by omega)
                    have hsum : IntKind.i64.wrap (m.waysTo n (k : Int) l + m.ways n (t : Int)) = m.waysTo n (k : Int) l + m.ways n (t : Int) := IntWalk.i64_in _ (by omega)
                    clear hrow
                    generalize m.waysTo n (k : Int) l = S at *
                    generalize m.ways n (t : Int) = x at *
                    go_wp2_with fail
                    go_roundw
                    case rel => exact ⟨l + 1, by omega, by go_num, by rw [HST.out], by trivial⟩
                    case measure => simp [intOf]; omega
                · obtain rfl : l = 3 := by omega
                  generalize hS : m.waysTo n (k : Int) 3 = S at *
                  go_wp2_with (at_builtin; refine wpList_append_lies _ rfl _ _ 113 rfl 0 3 i0 (.int .i64 0) 1 8 Try.underlying113 HI.out.1 HI.out.2.1 HI.out.2.2.1 HI.out.2.2.2 rfl (by decide) (.slice (some ⟨g7, 0, none⟩) k c7) k (((m.waysRow (n + 1)).take k).map (Value.int .i64)) rfl ((O5.out.row 0 (by simp) rfl).alloc _) ⟨wr.heap.size, 0, none⟩ 1 1 [.int .i64 S] rfl rfl (cellW _ _ _) (by simp [Value.oneCell']) (by omega) (by unfold maxLen; omega) (by omega) (Nat.zero_le _) _ rfl ?_; intro g9 cp w4 hown hgrow hat hlt3; have O6 := Lib.hid (O5.out.push (i := 0) (by simp) rfl hgrow hown hat); clear hown hgrow hat hlt3)
                  go_roundw
                  case rel => exact ⟨k + 1, g9, cp, by omega, by go_num, rfl, by rw [HNX.out, HWS.out]; exact O6.out⟩
                  case measure => simp [intOf]; omega
            · obtain rfl : k = bs.length := by omega
              clear hcx hcb m1 m2
              go_wp2_with fail
              go_roundw
              case rel => exact ⟨n + 1, g7, c7, by omega, by go_num, rfl, O5.out.sub (List.Sublist.cons_cons _ (List.nil_sublist _))⟩
              case measure => simp [intOf]; omega
        · obtain rfl : n = r := by omega
          have hrow := O3.out.row 0 (by simp) (show _ = rowT 3 1 (.slice (some ⟨g5, 0, none⟩) bs.length c5) bs.length ((m.waysRow n).map (Value.int .i64)) from by
            have := wT_all m (.slice (some ⟨g5, 0, none⟩) bs.length c5) n
            rw [HME.out] at this; exact this)
          have hnow := (World.ownsRow.cellAt hrow s (by omega)).trans (m.waysRow_cell n s (by rw [HME.out]; exact hs))
          have Q := Lib.hid (K0.out.trans (O3.out.keep.mono (by rw [HSZ.out]; omega)))
          clear hrow
          generalize hx : m.ways n (s : Int) = x at *
          have HX := Lib.hid hx
          clear hx
          go_wp2_with fail
          go_ret
          exact ⟨ret_int (by rw [HM.out]; exact HX.out.symm), by rw [HR.out]; exact Q.out⟩
theorem l6Many_any (m : M) (s : Int) (r : Nat) (nv ev : Value) (w : World) (h1 : IsInts w nv m.next) (h2 : IsBools w ev m.ends) (hg : m.good) (s0 : 0 ≤ s) (s1 : s < m.st) (hr : r ≤ 10) :
    Calls Try.prog 100 #[.agg #[.int .i64 m.st, nv, ev], .int .i64 s, .int .i64 (r : Int)] w fun e w' => e = .returned (.int .i64 (m.ways r s)) ∧ Below w.heap.size w w' := by
  obtain ⟨st, xs, bs⟩ := m
  obtain ⟨j, rfl⟩ := Int.eq_ofNat_of_zero_le s0
  obtain rfl : st = (bs.length : Int) := hg.le.symm
  exact l6Many_core xs bs nv ev w h1 h2 hg j r (by simp only at s1; omega) hr
end Go.Proofs.Ytlbblfbiiceofaa
