/- spec.l2Live answers which states are live. No condition. -/
import Derived.Test.YtlbblfbiiceofaaRounds
import Derived.Test.YtlbblfbiiceofaaFrom
namespace Go.Proofs.Ytlbblfbiiceofaa
open Go.RowKit

/-- a fresh row of bools -/
def BoolsNew (X : List Bool) (w : World) (e : Ending) (w' : World) : Prop :=
  ∃ (a : Option Addr) (c : Nat), e = .returned (.slice a X.length c) ∧ Apart w.heap.size [rowT 4 1 (.slice a X.length c) X.length (X.map Value.bool)] w' ∧ Below w.heap.size w w'

theorem bools_cells {w : World} {a : Option Addr} {n c : Nat} {bs : List Bool} (h : IsBools w (.slice a n c) bs) (h0 : 0 < bs.length) : ∃ g off : Nat, a = some ⟨g, off, none⟩ ∧ n = bs.length ∧ g < w.heap.size ∧ ∀ j u, (bs.map Value.bool)[j]? = some u → w.cell? ((⟨g, off, none⟩ : Addr).add j) = some u := by
  obtain ⟨a', c', he, _, _, h2⟩ := h
  simp only [Value.slice.injEq] at he
  obtain ⟨rfl, rfl, rfl⟩ := he
  obtain ⟨g, off, rfl, hg, hc⟩ := h2.resolve_left (fun e => by rw [e] at h0; exact absurd h0 (Nat.lt_irrefl 0))
  refine ⟨g, off, rfl, rfl, hg, fun j u hu => ?_⟩
  rw [List.getElem?_map] at hu
  by_cases hj : j < bs.length
  · rw [List.getElem?_eq_getElem hj] at hu
    simp only [Option.map_some, Option.some.injEq] at hu
    rw [add_off, hc j hj, hu]
  · rw [List.getElem?_eq_none (by omega)] at hu; cases hu

theorem ints_cells {w : World} {a : Option Addr} {n c : Nat} {xs : List Int} (h : IsInts w (.slice a n c) xs) (h0 : 0 < xs.length) : ∃ g off : Nat, a = some ⟨g, off, none⟩ ∧ n = xs.length ∧ n ≤ c ∧ c ≤ maxLen ∧ g < w.heap.size ∧ ∀ k (h : k < xs.length), w.cell? ⟨g, off + k, none⟩ = some (.int .i64 xs[k]) := by
  obtain ⟨a', c', he, e1, e2, h2⟩ := h
  simp only [Value.slice.injEq] at he
  obtain ⟨rfl, rfl, rfl⟩ := he
  obtain ⟨g, off, rfl, hg, hc⟩ := h2.resolve_left (fun e => by rw [e] at h0; exact absurd h0 (Nat.lt_irrefl 0))
  exact ⟨g, off, rfl, rfl, e1, e2, hg, hc⟩
theorem tdiv3 (k : Nat) : (k : Int).tdiv 3 = ((k / 3 : Nat) : Int) := by rw [Int.tdiv_eq_ediv_of_nonneg (by omega)]; omega

set_option maxHeartbeats 1600000 in
theorem specL2Live_any (m : M) (nv ev : Value) (w : World) (h1 : IsInts w nv m.next) (h2 : IsBools w ev m.ends) (hk : m.good) :
    Calls Try.prog 128 #[.agg #[.int .i64 m.st, nv, ev]] w (BoolsNew (lrounds m m.ends.length) w) := by
  obtain ⟨j0, hj, hy0, hy1, hy2⟩ := info_parts infoBoolF
  have HJ := Lib.hid (And.intro hj (And.intro hy0 (And.intro hy1 hy2)))
  clear hj hy0 hy1 hy2
  have hsh := M.good_shape hk
  have hM : MachBox w.heap.size m.st nv m.next ev m.ends (w.alloc (.cells #[.int .i64 m.st, nv, ev] 115)) := MachBox.new _ h1 h2
  have M0 := Lib.hid hM
  have q0 : Hid (Below w.heap.size w (w.alloc (.cells #[.int .i64 m.st, nv, ev] 115))) := Lib.hid ((Below.refl _ _).alloc (Nat.le_refl _) _)
  clear hM h1 h2
  obtain ⟨a1, n1, c1, rfl⟩ := M0.out.ints.slice
  obtain ⟨a2, n2, c2, rfl⟩ := M0.out.bools.slice
  obtain ⟨g1, off1, rfl, hn1, hc1, hc1m, hg1, hcellN⟩ := ints_cells M0.out.ints (by omega)
  obtain ⟨g2, off2, rfl, hn2, hg2, hcells⟩ := bools_cells (M0.out.bools.below ((Below.refl _ _).alloc (Nat.le_refl _) (.cells #[] 4))) (by omega)
  subst hn1 hn2
  rw [World.size_alloc] at hg1
  unfold maxLen at hc1m
  have y0 := M0.out.c0
  have y1 := M0.out.c1
  have y2 := M0.out.c2
  have HROW := Lib.hid (World.ownsRow_lit (base := 0) (e := 4) (size := 1) (w.alloc (.cells #[.int .i64 m.st, .slice (some ⟨g1, off1, none⟩) m.next.length c1, .slice (some ⟨g2, off2, none⟩) m.ends.length c2] 115)) #[] 0 (Nat.zero_le _) (Nat.zero_le _) rfl)
  rw [World.size_alloc] at HROW
  have HC := Lib.hid hcells
  clear hcells
  go_enter Try.func128, Try.ntmps128
  go_wp2_with (at_builtin; refine wpList_append_lies _ rfl _ _ 84 rfl 0 4 j0 (.bool false) 1 1 Try.underlying84 HJ.out.1 HJ.out.2.1 HJ.out.2.2.1 HJ.out.2.2.2 rfl (by decide) (.slice (some ⟨w.heap.size + 1, 0, none⟩) 0 0) 0 [] rfl HROW.out ⟨g2, off2, none⟩ m.ends.length c2 (m.ends.map Value.bool) rfl (by simp) HC.out (by intro u hu; obtain ⟨b, _, rfl⟩ := List.mem_map.1 hu; rfl) (by omega) (by unfold maxLen; omega) (by omega) (Nat.zero_le _) _ rfl ?_; intro g cp w1 hown hgrow hat hlt)
  have hown2 : w1.ownsRow 0 4 1 (.slice (some ⟨g, 0, none⟩) m.ends.length cp) m.ends.length ((lrounds m 0).map Value.bool) := by simpa [lrounds] using hown
  have hgw : w.heap.size + 1 ≤ g := by
    rcases hat with e | e
    · simp only [Value.ownBlock, Option.some.injEq] at e; omega
    · rw [e]; simp
  have hb1 : Below (w.heap.size + 1) (w.alloc (.cells #[.int .i64 m.st, .slice (some ⟨g1, off1, none⟩) m.next.length c1, .slice (some ⟨g2, off2, none⟩) m.ends.length c2] 115)) w1 := ((Below.refl (w.heap.size + 1) (w.alloc (.cells #[.int .i64 m.st, .slice (some ⟨g1, off1, none⟩) m.next.length c1, .slice (some ⟨g2, off2, none⟩) m.ends.length c2] 115))).alloc (by simp) (.cells #[] 4)).grown hgrow (by simp) (fun k e => by simp only [Value.ownBlock, Option.some.injEq] at e; omega)
  clear hown hgrow hat
  go_loopw [4] (fun i wr => ∃ r : Nat, r ≤ m.ends.length ∧ i = .int .i64 r ∧ wr.ownsRow 0 4 1 (.slice (some ⟨g, 0, none⟩) m.ends.length cp) m.ends.length ((lrounds m r).map Value.bool) ∧ Below (w.heap.size + 1) (w.alloc (.cells #[.int .i64 m.st, .slice (some ⟨g1, off1, none⟩) m.next.length c1, .slice (some ⟨g2, off2, none⟩) m.ends.length c2] 115)) wr) (fun i _ => m.ends.length - (intOf i).toNat)
  case atStart => exact ⟨0, Nat.zero_le _, rfl, hown2, hb1⟩
  case round =>
    obtain ⟨r, hr, rfl, hrow, hbr⟩ := hrel
    have R1 := Lib.hid hrow
    have B1 := Lib.hid hbr
    have M1 := M0.out.below (w' := wr) (by rw [World.size_alloc]; exact hbr)
    have y0 := M1.c0
    clear hrow hbr M1
    by_cases hlt : r < m.ends.length
    · have hlt' : (r : Int) < m.st := by omega
      go_wp2_with fail
      go_loopw [5] (fun i wr => ∃ k : Nat, k ≤ m.next.length ∧ i = .int .i64 k ∧ wr.ownsRow 0 4 1 (.slice (some ⟨g, 0, none⟩) m.ends.length cp) m.ends.length ((lpass m (lrounds m r) k).map Value.bool) ∧ Below (w.heap.size + 1) (w.alloc (.cells #[.int .i64 m.st, .slice (some ⟨g1, off1, none⟩) m.next.length c1, .slice (some ⟨g2, off2, none⟩) m.ends.length c2] 115)) wr) (fun i _ => m.next.length - (intOf i).toNat)
      case atStart => exact ⟨0, Nat.zero_le _, rfl, R1.out, B1.out⟩
      case round =>
        obtain ⟨k, hkk, rfl, hrow, hbr⟩ := hrel
        have hXl : (lpass m (lrounds m r) k).length = m.ends.length := (lpass_le m _ k).1.symm.trans (lrounds_len m r)
        have M1 := M0.out.below (w' := wr) (by rw [World.size_alloc]; exact hbr)
        have y0 := M1.c0
        have y1 := M1.c1
        have B2 := Lib.hid hbr
        clear M1
        by_cases hkl : k < m.next.length
        · have hST : Hid (lpass m (lrounds m r) (k + 1) = lstep m (lpass m (lrounds m r) k) k) := Lib.hid rfl
          have hcell := (hbr.cell (p := ⟨g1, off1 + k, none⟩) hg1).trans (hcellN k hkl)
          have hnb := M.good_next hk k hkl
          have hnd : Hid (m.next.getD k (-1) = m.next[k]) := by
            have : m.next.getD k (-1) = m.next[k] := by rw [List.getD_eq_getElem?_getD, List.getElem?_eq_getElem hkl]; rfl
            exact Lib.hid this
          generalize m.next[k] = c at *
          generalize lpass m (lrounds m r) k = X at *
          by_cases hc0 : c < 0
          · have HS2 : Hid (lstep m X k = X) := by
              have : lstep m X k = X := by rw [lstep, if_neg (by rw [hnd.out]; omega)]
              exact Lib.hid this
            go_wp2_with fail
            go_roundw
            case rel => exact ⟨k + 1, by omega, by go_num, by rw [hST.out, HS2.out]; exact hrow, B2.out⟩
            case measure => simp [intOf]; omega
          · obtain ⟨t, rfl⟩ : ∃ t : Nat, c = (t : Int) := ⟨c.toNat, by omega⟩
            have htl : t < X.length := by omega
            have hcx := World.ownsRow.cellAt hrow t (by omega)
            rw [List.getElem?_map, List.getElem?_eq_getElem htl] at hcx
            simp only [Option.map_some] at hcx
            have hts : (t : Int) < m.ends.length := by omega
            have hXt : X.getD t false = X[t] := by rw [List.getD_eq_getElem?_getD, List.getElem?_eq_getElem htl]; rfl
            by_cases hx : X[t] = true
            · have HS2 : Hid (lstep m X k = X.set (k / 3) true) := by
                have : lstep m X k = X.set (k / 3) true := by rw [lstep, hnd.out, Int.toNat_natCast, hXt, if_pos ⟨by omega, hx⟩]
                exact Lib.hid this
              rw [hx] at hcx
              have hk3 : k / 3 < X.length := by omega
              have hk3e : k / 3 < m.ends.length := by omega
              have hst := Lib.hid (World.ownsRow.stored hrow (k / 3) (.bool true))
              have hcl := World.ownsRow.cellAt hrow (k / 3) (by omega)
              obtain ⟨d0, hd0⟩ : ∃ d0, wr.cell? ⟨g, k / 3, none⟩ = some (.bool d0) := ⟨X[k / 3], by rw [hcl]; simp [hk3]⟩
              have hfr := World.ownsRow.frozenAt hrow (k / 3)
              have htd := tdiv3 k
              clear hcl hXt hx hrow
              go_wp2_with fail
              go_roundw
              case rel => exact ⟨k + 1, by omega, by go_num, by rw [hST.out, HS2.out, List.map_set]; exact hst.out.1, B2.out.setCell (p := ⟨g, k / 3, none⟩) hgw _⟩
              case measure => simp [intOf]; omega
            · have hxf : X[t] = false := by simpa using hx
              have HS2 : Hid (lstep m X k = X) := by
                have : lstep m X k = X := by rw [lstep, hnd.out, Int.toNat_natCast, hXt, if_neg (by rw [hxf]; simp)]
                exact Lib.hid this
              rw [hxf] at hcx
              clear hXt hx hxf
              go_wp2_with fail
              go_roundw
              case rel => exact ⟨k + 1, by omega, by go_num, by rw [hST.out, HS2.out]; exact hrow, B2.out⟩
              case measure => simp [intOf]; omega
        · obtain rfl : k = m.next.length := by omega
          go_wp2_with fail
          go_roundw
          case rel => exact ⟨r + 1, by omega, by go_num, hrow, B2.out⟩
          case measure => simp [intOf]; omega
    · obtain rfl : r = m.ends.length := by omega
      have hlt' : ¬ ((m.ends.length : Int) < m.st) := by omega
      have hA : Apart w.heap.size [rowT 4 1 (.slice (some ⟨g, 0, none⟩) m.ends.length cp) m.ends.length ((lrounds m m.ends.length).map Value.bool)] wr :=
        ⟨fun t ht => by
          simp only [List.mem_singleton] at ht
          subst ht
          exact ⟨R1.out, fun k e => by have := World.ownsRow.lt R1.out k e; cases e; exact ⟨(by omega : w.heap.size ≤ g), this.2⟩⟩, by simp⟩
      have HA := Lib.hid hA
      clear hA
      have HL := Lib.hid (lrounds_len m m.ends.length)
      generalize lrounds m m.ends.length = X at *
      go_wp2_with fail
      go_ret
      refine ⟨some ⟨g, 0, none⟩, cp, by rw [HL.out]; rfl, ?_, q0.out.trans (B1.out.mono (Nat.le_succ _))⟩
      rw [HL.out]; exact HA.out
end Go.Proofs.Ytlbblfbiiceofaa
