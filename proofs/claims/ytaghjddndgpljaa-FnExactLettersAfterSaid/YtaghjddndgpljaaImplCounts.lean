/- impl.countsOf makes the table of ways. No condition. -/
import Derived.Test.YtaghjddndgpljaaTab
import Derived.Test.YtaghjddndgpljaaSpecMany
namespace Go.Proofs.Ytaghjddndgpljaa
open Go.RowKit

theorem infoSlW : (Try.prog.info? 23).map (fun i => (i.zero, i.size, i.bytes)) = some (some (.slice none 0 0), 1, 24) := by kernel_rfl
/-- the row of ends, the first ones told -/
def M.endRow (m : M) (k : Nat) : List Int := (List.range m.ends.length).map fun (s : Nat) => if s < k then m.ways 0 (s : Int) else 0
/-- a row of ways, the first ones told, and the first letters of one -/
def M.midRow (m : M) (n k l : Nat) : List Int := (List.range m.ends.length).map fun (s : Nat) => if s < k then m.ways (n + 1) (s : Int) else if s = k then m.waysTo n (s : Int) l else 0
theorem M.endRow_zero (m : M) : m.endRow 0 = List.replicate m.ends.length 0 := by
  apply List.ext_getElem
  · simp [M.endRow]
  · intro i h1 h2; simp [M.endRow]
theorem M.endRow_length (m : M) (k : Nat) : (m.endRow k).length = m.ends.length := by simp [M.endRow]
theorem M.endRow_all (m : M) : m.endRow m.ends.length = m.waysRow 0 := by
  apply List.ext_getElem
  · simp [M.endRow, M.waysRow]
  · intro i h1 h2
    rw [M.endRow_length] at h1
    simp [M.endRow, M.waysRow, h1]
theorem M.endRow_no {m : M} {k : Nat} (h : m.ways 0 (k : Int) = 0) : m.endRow (k + 1) = m.endRow k := by
  apply List.ext_getElem
  · simp [M.endRow]
  · intro i h1 h2
    simp only [M.endRow, List.getElem_map, List.getElem_range]
    by_cases e : i = k
    · subst e; rw [if_pos (by omega), if_neg (by omega), h]
    · by_cases g : i < k
      · rw [if_pos (by omega), if_pos g]
      · rw [if_neg (by omega), if_neg g]
theorem M.endRow_yes {m : M} {k : Nat} (h : m.ways 0 (k : Int) = 1) : m.endRow (k + 1) = (m.endRow k).set k 1 := by
  apply List.ext_getElem
  · simp [M.endRow]
  · intro i h1 h2
    rw [List.getElem_set]
    simp only [M.endRow, List.getElem_map, List.getElem_range]
    by_cases e : k = i
    · subst e; rw [if_pos rfl, if_pos (Nat.lt_succ_self _), h]
    · rw [if_neg e]
      by_cases g : i < k
      · rw [if_pos g, if_pos (by omega)]
      · rw [if_neg g, if_neg (by omega)]
theorem M.midRow_length (m : M) (n k l : Nat) : (m.midRow n k l).length = m.ends.length := by simp [M.midRow]
theorem M.midRow_zero (m : M) (n : Nat) : m.midRow n 0 0 = List.replicate m.ends.length 0 := by
  apply List.ext_getElem
  · simp [M.midRow]
  · intro i h1 h2
    simp only [M.midRow, List.getElem_map, List.getElem_range, List.getElem_replicate]
    rw [if_neg (by omega)]
    split
    · rfl
    · rfl
theorem M.midRow_all (m : M) (n : Nat) : m.midRow n m.ends.length 0 = m.waysRow (n + 1) := by
  apply List.ext_getElem
  · simp [M.midRow, M.waysRow]
  · intro i h1 h2
    rw [M.midRow_length] at h1
    simp [M.midRow, M.waysRow, h1]
theorem M.midRow_next (m : M) (n k : Nat) : m.midRow n k 3 = m.midRow n (k + 1) 0 := by
  apply List.ext_getElem
  · simp [M.midRow]
  · intro i h1 h2
    simp only [M.midRow, List.getElem_map, List.getElem_range]
    by_cases g : i < k
    · rw [if_pos g, if_pos (by omega)]
    · rw [if_neg g]
      by_cases e : i = k
      · subst e; rw [if_pos rfl, if_pos (by omega), m.ways_succ]
      · rw [if_neg e, if_neg (by omega)]
        split
        · rfl
        · rfl
theorem M.midRow_set (m : M) (n k l : Nat) : m.midRow n k (l + 1) = (m.midRow n k l).set k (m.waysTo n (k : Int) (l + 1)) := by
  apply List.ext_getElem
  · simp [M.midRow]
  · intro i h1 h2
    rw [List.getElem_set]
    simp only [M.midRow, List.getElem_map, List.getElem_range]
    by_cases e : k = i
    · subst e; rw [if_pos rfl, if_neg (Nat.lt_irrefl _), if_pos rfl]
    · rw [if_neg e]
      have e2 : ¬ i = k := fun h => e h.symm
      rw [if_neg e2, if_neg e2]
theorem M.midRow_at (m : M) (n k l : Nat) (h : k < m.ends.length) : ((m.midRow n k l).map (Value.int .i64))[k]? = some (.int .i64 (m.waysTo n (k : Int) l)) := by
  rw [List.getElem?_map, List.getElem?_eq_getElem (by rw [m.midRow_length]; exact h)]
  simp [M.midRow]

set_option maxHeartbeats 3200000 in
theorem implCounts_core (xs : List Int) (bs : List Bool) (nv ev : Value) (w : World) (h1 : IsInts w nv xs) (h2 : IsBools w ev bs) (hg : M.ok ⟨(bs.length : Int), xs, bs⟩ = true) (N : Nat) (hN : N ≤ 10) :
    Calls Try.prog 93 #[.agg #[.int .i64 (bs.length : Int), nv, ev], .int .i64 (N : Int)] w fun e w' => ∃ tv, e = .returned (.agg #[.int .i64 (bs.length : Int), nv, ev, tv]) ∧ IsTab w' tv ⟨(bs.length : Int), xs, bs⟩ N ∧ Below w.heap.size w w' := by
  obtain ⟨i0, hi, hz0, hz1, hz2⟩ := info_parts infoIntW
  obtain ⟨s0, hs, hy0, hy1, hy2⟩ := info_parts infoSlW
  have hsh := M.ok_shape hg
  simp only at hsh
  have HI := Lib.hid (And.intro hi (And.intro hz0 (And.intro hz1 hz2)))
  have HMK := Lib.hid (show i0.bytes * bs.length ≤ 281474976710656 by rw [hz2]; omega)
  have HJ := Lib.hid (And.intro hs (And.intro hy0 (And.intro hy1 hy2)))
  clear hi hz0 hz1 hz2 hs hy0 hy1 hy2
  have HI1 := Lib.hid h1
  obtain ⟨an, nn, cn, rfl⟩ := h1.slice
  obtain ⟨ae, ne, ce, rfl⟩ := h2.slice
  obtain ⟨g2, off2, rfl, rfl, hg2, hcellE⟩ := bools_cells3 h2 (by omega)
  have M0 := Lib.hid (MachBox.new (st := (bs.length : Int)) 26 h1 h2)
  have K0 := Lib.hid ((Below.refl w.heap.size w).alloc (Nat.le_refl _) (.cells #[.int .i64 (bs.length : Int), .slice an nn cn, .slice (some ⟨g2, off2, none⟩) bs.length ce] 26))
  have hb4 : bs.length ≤ 48 := by omega
  have HL3 := Lib.hid hsh
  have HG := Lib.hid hg
  clear h1 h2 hcellE hsh hg
  have y0 := M0.out.c0
  have y1 := M0.out.c1
  have y2 := M0.out.c2
  go_enter Try.func93, Try.ntmps93
  go_upto_region 2 with fail
  generalize hW0 : (w.alloc (.cells #[.int .i64 (bs.length : Int), .slice an nn cn, .slice (some ⟨g2, off2, none⟩) bs.length ce] 26)) = W0 at *
  have hsz : W0.heap.size = w.heap.size + 1 := by rw [← hW0]; simp
  clear hW0
  have O0 := ((Own.nil W0).box #[.int .i64 0, .slice none 0 0, .slice none 0 0, .slice none 0 0] 94).box #[.int .i64 (bs.length : Int), .slice an nn cn, .slice (some ⟨g2, off2, none⟩) bs.length ce, .slice none 0 0] 94
  rw [World.size_alloc, hsz] at O0
  have HSZ := Lib.hid (show w.heap.size ≤ W0.heap.size by omega)
  have K0 := Lib.hid K0.out
  clear hsz
  generalize hR2 : w.heap.size + 1 + 1 = R2 at *
  clear hR2
  generalize hR1 : w.heap.size + 1 = R1 at *
  clear hR1
  generalize hR : w.heap.size = R at *
  have HR := Lib.hid hR
  clear hR
  generalize ((W0.alloc (.cells #[.int .i64 0, .slice none 0 0, .slice none 0 0, .slice none 0 0] 94)).alloc (.cells #[.int .i64 (bs.length : Int), .slice an nn cn, .slice (some ⟨g2, off2, none⟩) bs.length ce, .slice none 0 0] 94)) = W1 at *
  generalize hm : (⟨(bs.length : Int), xs, bs⟩ : M) = m at *
  have HME : Hid (m.ends = bs) := by rw [← hm]; exact Lib.hid rfl
  have HMN : Hid (m.next = xs) := by rw [← hm]; exact Lib.hid rfl
  have HMS : Hid (m.st = (bs.length : Int)) := by rw [← hm]; exact Lib.hid rfl
  have HM := Lib.hid hm
  clear hm
  have AT : Hid (∀ W, Below W0.heap.size W0 W → W.cell? ⟨R, 0, none⟩ = some (.int .i64 (bs.length : Int)) ∧ W.cell? ⟨R, 1, none⟩ = some (.slice an nn cn) ∧ W.cell? ⟨R, 2, none⟩ = some (.slice (some ⟨g2, off2, none⟩) bs.length ce) ∧
      IsInts W (.slice an nn cn) xs ∧ (∀ k (h : k < bs.length), W.cell? ⟨g2, off2 + k, none⟩ = some (.bool bs[k]))) := Lib.hid (by
    intro W hW
    have M1 := M0.out.below hW
    obtain ⟨g, o, he, _, _, hc2⟩ := bools_cells3 M1.bools (by have := HL3.out; omega)
    simp only [Option.some.injEq, Addr.mk.injEq, and_true] at he
    obtain ⟨rfl, rfl⟩ := he
    exact ⟨M1.c0, M1.c1, M1.c2, M1.ints, hc2⟩)
  clear M0 y0 y1 y2
  have O1 := Lib.hid O0
  clear O0
  obtain ⟨y0, y1, y2, -, -⟩ := AT.out _ O1.out.keep
  go_wp2_with (at_make; refine wpList_make_full _ rfl _ _ 23 rfl 0 3 i0 (.int .i64 0) 1 Try.underlying23 HI.out.1 HI.out.2.1 HI.out.2.2.1 .i64 .i64 _ _ bs.length rfl rfl rfl rfl HMK.out (by unfold maxLen; omega) (Nat.zero_le _) ?_; intro w3 hown3 hgrow3; have O2 := Lib.hid (Own.new O1.out hgrow3 hown3); obtain ⟨z0, z1, z2, -, -⟩ := AT.out _ O2.out.keep; clear hown3 hgrow3)
  have hmade : (madeCells (Value.int .i64 0).cells (bs.length * 1)).toList = (m.endRow 0).map (Value.int .i64) := by
    rw [Nat.mul_one, m.endRow_zero, HME.out, List.map_replicate]; exact toList_madeCells_one _ _
  rw [hmade] at O2
  clear hmade z0 z1 z2 y0 y1 y2 O1
  generalize W1.heap.size = G at *
  go_loopw [21] (fun i wr => ∃ k : Nat, k ≤ bs.length ∧ i = .int .i64 (k : Int) ∧ Own W0 [rowT 3 1 (.slice (some ⟨G, 0, none⟩) bs.length bs.length) bs.length ((m.endRow k).map (Value.int .i64)),
    cellsT R2 #[.int .i64 (bs.length : Int), .slice an nn cn, .slice (some ⟨g2, off2, none⟩) bs.length ce, .slice none 0 0] 94, cellsT R1 #[.int .i64 0, .slice none 0 0, .slice none 0 0, .slice none 0 0] 94] wr) (fun i _ => bs.length - (intOf i).toNat)
  case atStart => exact ⟨0, Nat.zero_le _, rfl, O2.out⟩
  case round =>
    obtain ⟨k, hk, rfl, hO⟩ := hrel
    have O3 := Lib.hid hO
    clear hO O2
    by_cases hlt : k < bs.length
    · obtain ⟨-, -, -, -, hcb⟩ := AT.out _ O3.out.keep
      have hcell := hcb k hlt
      have hltI : (k : Int) < (bs.length : Int) := by omega
      have HW : Hid (m.ways 0 (k : Int) = if bs[k] = true then 1 else 0) := Lib.hid (by
        have h : m.endAt (k : Int) = bs[k] := by
          rw [M.endAt, if_neg (by omega), HME.out, Int.toNat_natCast, List.getD_eq_getElem?_getD, List.getElem?_eq_getElem hlt]; rfl
        rw [M.ways_end, h])
      clear hcb
      generalize bs[k] = b at *
      cases b with
      | true =>
        have HW2 : Hid (m.endRow (k + 1) = (m.endRow k).set k 1) := Lib.hid (M.endRow_yes (by rw [HW.out]; rfl))
        have hrow := O3.out.row 0 (by simp) rfl
        have hfr := World.ownsRow.frozenAt hrow k
        have hold : ∃ u, wr.cell? ⟨G, k, none⟩ = some u := ⟨_, (World.ownsRow.cellAt hrow k (by omega)).trans (by rw [List.getElem?_map, List.getElem?_eq_getElem (by rw [m.endRow_length, HME.out]; exact hlt)]; rfl)⟩
        obtain ⟨u0, hold⟩ := hold
        have O4 := Lib.hid (O3.out.store (i := 0) (by simp) rfl k (.int .i64 1))
        clear hrow HW
        go_wp2_with fail
        go_roundw
        case rel => exact ⟨k + 1, by omega, by go_num, by rw [HW2.out, List.map_set]; exact O4.out⟩
        case measure => simp [intOf]; omega
      | false =>
        have HW2 : Hid (m.endRow (k + 1) = m.endRow k) := Lib.hid (M.endRow_no (by rw [HW.out]; rfl))
        clear HW
        go_wp2_with fail
        go_roundw
        case rel => exact ⟨k + 1, by omega, by go_num, by rw [HW2.out]; exact O3.out⟩
        case measure => simp [intOf]; omega
    · obtain rfl : k = bs.length := by omega
      have hend : m.endRow bs.length = m.waysRow 0 := by rw [← HME.out]; exact m.endRow_all
      rw [hend] at O3
      clear hend
      have O4 := Lib.hid (O3.out.idle 23)
      have c3 := cellsT_cell (O4.out.cells 2 (by simp) rfl) 3
      simp only [List.getElem?_toArray, List.getElem?_cons_succ, List.getElem?_cons_zero] at c3
      go_wp2_with (at_builtin; refine wpList_append_lies _ rfl _ _ 92 rfl 0 23 s0 (.slice none 0 0) 1 24 Try.underlying92 HJ.out.1 HJ.out.2.1 HJ.out.2.2.1 HJ.out.2.2.2 rfl (by decide) (.slice none 0 0) 0 [] rfl ((O4.out.row 0 (by simp) rfl).alloc _) ⟨wr.heap.size, 0, none⟩ 1 1 [.slice (some ⟨G, 0, none⟩) bs.length bs.length] rfl rfl (cellW _ _ _) (by simp [Value.oneCell']) (by omega) (by unfold maxLen; omega) (by omega) (Nat.zero_le _) _ rfl ?_; intro g9 cp w4 hown hgrow hat hlt3; have O5 := Lib.hid (O4.out.push (i := 0) (by simp) rfl hgrow hown hat); have c4 := cellsT_cell (O5.out.cells 2 (by simp) rfl) 3; have f4 := cellsT_frozen (O5.out.cells 2 (by simp) rfl) 3; simp only [List.getElem?_toArray, List.getElem?_cons_succ, List.getElem?_cons_zero] at c4; clear hown hgrow hat hlt3)
      have O6 := Lib.hid (O5.out.put (i := 2) (by simp) rfl 3 (.slice (some ⟨g9, 0, none⟩) 1 cp))
      have O7 : Hid (Own W0 (cellsT R2 #[.int .i64 (bs.length : Int), .slice an nn cn, .slice (some ⟨g2, off2, none⟩) bs.length ce, .slice (some ⟨g9, 0, none⟩) (0 + 1) cp] 94 :: rowT 23 1 (.slice (some ⟨g9, 0, none⟩) (0 + 1) cp) (0 + 1) [.slice (some ⟨G, 0, none⟩) bs.length bs.length] :: cellsT R1 #[.int .i64 0, .slice none 0 0, .slice none 0 0, .slice none 0 0] 94 :: [inn (.slice (some ⟨G, 0, none⟩) bs.length bs.length, m.waysRow 0)]) (w4.setCell ⟨R2, 3, none⟩ (.slice (some ⟨g9, 0, none⟩) 1 cp))) := Lib.hid (by
        have h := O6.out
        have hi : inn (.slice (some ⟨G, 0, none⟩) bs.length bs.length, m.waysRow 0) = rowT 3 1 (.slice (some ⟨G, 0, none⟩) bs.length bs.length) bs.length ((m.waysRow 0).map (Value.int .i64)) := by unfold inn; rw [m.waysRow_length, HME.out]
        rw [hi]
        refine h.perm ?_
        have p : ∀ (a b c d : Thing), [a, b, c, d].Perm [c, a, d, b] := fun a b c d => by
          have h1 : [a, b, c, d].Perm (c :: [a, b, d]) := List.perm_middle (l₁ := [a, b]) (l₂ := [d])
          exact h1.trans (((List.Perm.swap d b []).cons a).cons c)
        exact p _ _ _ _)
      have HG1 : Hid (m.st = (bs.length : Int) ∧ m.ok = true ∧ m.next = xs) := Lib.hid ⟨HMS.out, HG.out, HMN.out⟩
      clear O3 O4 O5 O6 c3 c4 f4
      generalize hWX : (w4.setCell ⟨R2, 3, none⟩ (.slice (some ⟨g9, 0, none⟩) 1 cp)) = WX at *
      clear hWX
      go_loopw [9] (fun i wr => ∃ (n g c : Nat) (ps : List (Value × List Int)) (left : Int), n ≤ N ∧ left = (n : Int) + 1 ∧ i = .int .i64 left ∧ ps.length = n + 1 ∧ ps.map Prod.snd = (List.range (n + 1)).map m.waysRow ∧
        Own W0 (cellsT R2 #[.int .i64 (bs.length : Int), .slice an nn cn, .slice (some ⟨g2, off2, none⟩) bs.length ce, .slice (some ⟨g, 0, none⟩) (n + 1) c] 94 :: rowT 23 1 (.slice (some ⟨g, 0, none⟩) (n + 1) c) (n + 1) (ps.map Prod.fst) :: cellsT R1 #[.int .i64 0, .slice none 0 0, .slice none 0 0, .slice none 0 0] 94 :: ps.map inn) wr) (fun i _ => N + 1 - (intOf i).toNat)
      case atStart => exact ⟨0, g9, cp, [(.slice (some ⟨G, 0, none⟩) bs.length bs.length, m.waysRow 0)], 1, Nat.zero_le _, rfl, rfl, rfl, rfl, O7.out⟩
      case round =>
        obtain ⟨n, gO, cO, ps, left, hn, hleft, rfl, hpl, hps, hO⟩ := hrel
        have O8 := Lib.hid hO
        have HPL := Lib.hid hpl
        have HPS := Lib.hid hps
        have HLE := Lib.hid hleft
        clear hO O7 hpl hps
        by_cases hlt : left ≤ (N : Int)
        · have hn10 : n < 10 := by omega
          have hl11 : left ≤ 10 := by omega
          have hl1 : 1 ≤ left := by omega
          clear hleft
          obtain ⟨y0, -, -, -, -⟩ := AT.out _ O8.out.keep
          go_wp2_with (at_make; refine wpList_make_full _ rfl _ _ 23 rfl 0 3 i0 (.int .i64 0) 1 Try.underlying23 HI.out.1 HI.out.2.1 HI.out.2.2.1 .i64 .i64 _ _ bs.length rfl rfl rfl rfl HMK.out (by unfold maxLen; omega) (Nat.zero_le _) ?_; intro w3 hown3 hgrow3; have O9 := Lib.hid (Own.new O8.out hgrow3 hown3); clear hown3 hgrow3)
          have hmade : (madeCells (Value.int .i64 0).cells (bs.length * 1)).toList = (m.midRow n 0 0).map (Value.int .i64) := by
            rw [Nat.mul_one, m.midRow_zero, HME.out, List.map_replicate]; exact toList_madeCells_one _ _
          rw [hmade] at O9
          clear hmade y0 O8
          generalize wr.heap.size = G5 at *
          go_loopw [47] (fun i wr => ∃ k : Nat, k ≤ bs.length ∧ i = .int .i64 (k : Int) ∧ Own W0 (rowT 3 1 (.slice (some ⟨G5, 0, none⟩) bs.length bs.length) bs.length ((m.midRow n k 0).map (Value.int .i64)) :: cellsT R2 #[.int .i64 (bs.length : Int), .slice an nn cn, .slice (some ⟨g2, off2, none⟩) bs.length ce, .slice (some ⟨gO, 0, none⟩) (n + 1) cO] 94 :: rowT 23 1 (.slice (some ⟨gO, 0, none⟩) (n + 1) cO) (n + 1) (ps.map Prod.fst) :: cellsT R1 #[.int .i64 0, .slice none 0 0, .slice none 0 0, .slice none 0 0] 94 :: ps.map inn) wr) (fun i _ => bs.length - (intOf i).toNat)
          case atStart => exact ⟨0, Nat.zero_le _, rfl, O9.out⟩
          case round =>
            obtain ⟨k, hk, rfl, hO⟩ := hrel
            have O10 := Lib.hid hO
            clear hO O9
            by_cases hltk : k < bs.length
            · have hltI : (k : Int) < (bs.length : Int) := by omega
              go_wp2_with fail
              go_loopw [50] (fun i wr => ∃ l : Nat, l ≤ 3 ∧ i = .int .i64 (l : Int) ∧ Own W0 (rowT 3 1 (.slice (some ⟨G5, 0, none⟩) bs.length bs.length) bs.length ((m.midRow n k l).map (Value.int .i64)) :: cellsT R2 #[.int .i64 (bs.length : Int), .slice an nn cn, .slice (some ⟨g2, off2, none⟩) bs.length ce, .slice (some ⟨gO, 0, none⟩) (n + 1) cO] 94 :: rowT 23 1 (.slice (some ⟨gO, 0, none⟩) (n + 1) cO) (n + 1) (ps.map Prod.fst) :: cellsT R1 #[.int .i64 0, .slice none 0 0, .slice none 0 0, .slice none 0 0] 94 :: ps.map inn) wr) (fun i _ => 3 - (intOf i).toNat)
              case atStart => exact ⟨0, by omega, rfl, O10.out⟩
              case round =>
                obtain ⟨l, hl, rfl, hO⟩ := hrel
                have O11 := Lib.hid hO
                clear hO O10
                by_cases hl3 : l < 3
                · have hrow := O11.out.row 0 (by simp) rfl
                  have HAT := Lib.hid (m.midRow_at n k l (by rw [HME.out]; exact hltk))
                  have hx0 := (World.ownsRow.cellAt hrow k (by omega)).trans HAT.out
                  have hf0 := World.ownsRow.frozenAt hrow k
                  have hc0 := cellsT_cell (O11.out.cells 1 (by simp) rfl) 0
                  have hc1 := cellsT_cell (O11.out.cells 1 (by simp) rfl) 1
                  have hc2 := cellsT_cell (O11.out.cells 1 (by simp) rfl) 2
                  have hc3 := cellsT_cell (O11.out.cells 1 (by simp) rfl) 3
                  simp only [List.getElem?_toArray, List.getElem?_cons_succ, List.getElem?_cons_zero] at hc0 hc1 hc2 hc3
                  have HTB := Lib.hid (fun (W : World) (h : Own W0 (rowT 3 1 (.slice (some ⟨G5, 0, none⟩) bs.length bs.length) bs.length ((m.midRow n k l).map (Value.int .i64)) :: cellsT R2 #[.int .i64 (bs.length : Int), .slice an nn cn, .slice (some ⟨g2, off2, none⟩) bs.length ce, .slice (some ⟨gO, 0, none⟩) (n + 1) cO] 94 :: rowT 23 1 (.slice (some ⟨gO, 0, none⟩) (n + 1) cO) (n + 1) (ps.map Prod.fst) :: cellsT R1 #[.int .i64 0, .slice none 0 0, .slice none 0 0, .slice none 0 0] 94 :: ps.map inn) W) =>
                    Own.tab (N := n) (ov := .slice (some ⟨gO, 0, none⟩) (n + 1) cO) (ps := ps) h HPL.out HPS.out (by rw [HPL.out]; simp) (fun p hp => List.mem_cons_of_mem _ (List.mem_cons_of_mem _ (List.mem_cons_of_mem _ (List.mem_cons_of_mem _ (List.mem_map_of_mem hp))))))
                  have HCALL : Hid (∀ W, Own W0 (rowT 3 1 (.slice (some ⟨G5, 0, none⟩) bs.length bs.length) bs.length ((m.midRow n k l).map (Value.int .i64)) :: cellsT R2 #[.int .i64 (bs.length : Int), .slice an nn cn, .slice (some ⟨g2, off2, none⟩) bs.length ce, .slice (some ⟨gO, 0, none⟩) (n + 1) cO] 94 :: rowT 23 1 (.slice (some ⟨gO, 0, none⟩) (n + 1) cO) (n + 1) (ps.map Prod.fst) :: cellsT R1 #[.int .i64 0, .slice none 0 0, .slice none 0 0, .slice none 0 0] 94 :: ps.map inn) W →
                      Calls Try.prog 100 #[.agg #[.int .i64 (bs.length : Int), .slice an nn cn, .slice (some ⟨g2, off2, none⟩) bs.length ce, .slice (some ⟨gO, 0, none⟩) (n + 1) cO], .int .i64 (k : Int), .int .i64 left, .int .i64 (l : Int)] W fun e w' => e = .returned (.int .i64 (m.ways n (m.nx (k : Int) (l : Int)))) ∧ Below W.heap.size W w') := Lib.hid (fun W h => by
                    have := implWaysBy_any m n n (k : Int) left (l : Int) (.slice an nn cn) (.slice (some ⟨g2, off2, none⟩) bs.length ce) (.slice (some ⟨gO, 0, none⟩) (n + 1) cO) W (by rw [HG1.out.2.2]; exact (AT.out _ h.keep).2.2.2.1) (HTB.out W h) HG1.out.2.1 (by omega) (by rw [HG1.out.1]; omega) (by omega) (by omega) HLE.out (Nat.le_refl _) (by omega)
                    rwa [HG1.out.1] at this)
                  have HST := Lib.hid (m.waysTo_succ n (k : Int) l)
                  have hb1 := m.waysTo_bd n (k : Int) l hl (by omega)
                  have hb2 := m.waysTo_bd n (k : Int) (l + 1) (by omega) (by omega)
                  have hsum : IntKind.i64.wrap (m.waysTo n (k : Int) l + m.ways n (m.nx (k : Int) (l : Int))) = m.waysTo n (k : Int) (l + 1) := by
                    rw [← HST.out]; exact IntWalk.i64_in _ (by omega)
                  have HSET := Lib.hid (m.midRow_set n k l)
                  clear hrow HST hb1 hb2
                  generalize m.ways n (m.nx (k : Int) (l : Int)) = x at *
                  generalize m.waysTo n (k : Int) l = S at *
                  generalize m.waysTo n (k : Int) (l + 1) = S' at *
                  have O12 := Lib.hid (O11.out.same (grown_drew wr none))
                  go_wp2_with fail
                  go_region_law (first | (go_simp; go_at_call 100; refine (HCALL.out _ O12.out).mono ?_; rintro e w5 ⟨rfl, hb5⟩; have O13 := Lib.hid (O12.out.below hb5); have hx5 := (World.ownsRow.cellAt (O13.out.row 0 (by simp) rfl) k (by omega)).trans HAT.out; have hf5 := World.ownsRow.frozenAt (O13.out.row 0 (by simp) rfl) k))
                  all_goals
                    have O14 := Lib.hid (O13.out.store (i := 0) (by simp) rfl k (.int .i64 S'))
                    go_wp2
                    go_roundw
                    case rel => exact ⟨l + 1, by omega, by go_num, by rw [HSET.out, List.map_set]; exact O14.out⟩
                    case measure => simp [intOf]; omega
                · obtain rfl : l = 3 := by omega
                  have HNX := Lib.hid (m.midRow_next n k)
                  go_wp2_with fail
                  go_roundw
                  case rel => exact ⟨k + 1, by omega, by go_num, by rw [← HNX.out]; exact O11.out⟩
                  case measure => simp [intOf]; omega
            · obtain rfl : k = bs.length := by omega
              have hall : m.midRow n bs.length 0 = m.waysRow (n + 1) := by rw [← HME.out]; exact m.midRow_all n
              rw [hall] at O10
              clear hall
              have c3 := cellsT_cell (O10.out.cells 1 (by simp) rfl) 3
              simp only [List.getElem?_toArray, List.getElem?_cons_succ, List.getElem?_cons_zero] at c3
              have hpn : n + 1 ≤ 10 := by omega
              go_wp2_with (at_builtin; refine wpList_append_lies _ rfl _ _ 92 rfl 0 23 s0 (.slice none 0 0) 1 24 Try.underlying92 HJ.out.1 HJ.out.2.1 HJ.out.2.2.1 HJ.out.2.2.2 rfl (by decide) (.slice (some ⟨gO, 0, none⟩) (n + 1) cO) (n + 1) (ps.map Prod.fst) rfl ((O10.out.row 2 (by simp) rfl).alloc _) ⟨wr.heap.size, 0, none⟩ 1 1 [.slice (some ⟨G5, 0, none⟩) bs.length bs.length] rfl rfl (cellW _ _ _) (by simp [Value.oneCell']) (by omega) (by unfold maxLen; omega) (by omega) (Nat.zero_le _) _ rfl ?_; intro g10 cp2 w6 hown hgrow hat hlt3; have O15 := Lib.hid (O10.out.push (i := 2) (by simp) rfl hgrow hown hat); have c4 := cellsT_cell (O15.out.cells 1 (by simp) rfl) 3; have f4 := cellsT_frozen (O15.out.cells 1 (by simp) rfl) 3; simp only [List.getElem?_toArray, List.getElem?_cons_succ, List.getElem?_cons_zero] at c4; clear hown hgrow hat hlt3)
              have O16 := Lib.hid (O15.out.put (i := 1) (by simp) rfl 3 (.slice (some ⟨g10, 0, none⟩) (n + 1 + 1) cp2))
              have hq : IntKind.i64.wrap (left + 1) = left + 1 := IntWalk.i64_in _ (by omega)
              go_roundw
              case rel =>
                refine ⟨n + 1, g10, cp2, ps ++ [(.slice (some ⟨G5, 0, none⟩) bs.length bs.length, m.waysRow (n + 1))], left + 1, by have := HLE.out; omega, by have := HLE.out; omega, by first | rfl | rw [hq], by rw [List.length_append, HPL.out]; rfl, by rw [List.map_append, HPS.out, List.range_succ (n := n + 1), List.map_append]; rfl, ?_⟩
                have h := O16.out
                have hi : inn (.slice (some ⟨G5, 0, none⟩) bs.length bs.length, m.waysRow (n + 1)) = rowT 3 1 (.slice (some ⟨G5, 0, none⟩) bs.length bs.length) bs.length ((m.waysRow (n + 1)).map (Value.int .i64)) := by unfold inn; rw [m.waysRow_length, HME.out]
                rw [List.map_append, List.map_append]
                refine h.perm ?_
                rw [← hi]
                exact (List.perm_append_singleton (inn (.slice (some ⟨G5, 0, none⟩) bs.length bs.length, m.waysRow (n + 1))) _).symm
              case measure => simp [intOf]; omega
        · have HN : Hid (n = N) := Lib.hid (by omega)
          have hc0 := cellsT_cell (O8.out.cells 0 (by simp) rfl) 0
          have hc1 := cellsT_cell (O8.out.cells 0 (by simp) rfl) 1
          have hc2 := cellsT_cell (O8.out.cells 0 (by simp) rfl) 2
          have hc3 := cellsT_cell (O8.out.cells 0 (by simp) rfl) 3
          have d0 := cellsT_cell (O8.out.cells 2 (by simp) rfl) 0
          have d1 := cellsT_cell (O8.out.cells 2 (by simp) rfl) 1
          have d2 := cellsT_cell (O8.out.cells 2 (by simp) rfl) 2
          have d3 := cellsT_cell (O8.out.cells 2 (by simp) rfl) 3
          have f0 := cellsT_frozen (O8.out.cells 2 (by simp) rfl)
          simp only [List.getElem?_toArray, List.getElem?_cons_succ, List.getElem?_cons_zero] at hc0 hc1 hc2 hc3 d0 d1 d2 d3
          clear hleft
          go_wp2_with fail
          have O20 := (((O8.out.put (i := 2) (by simp) rfl 0 (.int .i64 (bs.length : Int))).put (i := 2) (by simp) rfl 1 (.slice an nn cn)).put (i := 2) (by simp) rfl 2 (.slice (some ⟨g2, off2, none⟩) bs.length ce)).put (i := 2) (by simp) rfl 3 (.slice (some ⟨gO, 0, none⟩) (n + 1) cO)
          have r0 := cellsT_cell (O20.cells 2 (by simp) rfl) 0
          have r1 := cellsT_cell (O20.cells 2 (by simp) rfl) 1
          have r2 := cellsT_cell (O20.cells 2 (by simp) rfl) 2
          have r3 := cellsT_cell (O20.cells 2 (by simp) rfl) 3
          have hT := Own.tab (N := n) (m := m) (ov := .slice (some ⟨gO, 0, none⟩) (n + 1) cO) (ps := ps) O20 HPL.out HPS.out (by rw [HPL.out]; simp) (fun p hp => by
            refine List.mem_cons_of_mem _ (List.mem_cons_of_mem _ (List.mem_cons_of_mem _ (List.mem_map_of_mem hp))))
          have HT := Lib.hid (And.intro hT (K0.out.trans (O20.keep.mono HSZ.out)))
          clear hT O20
          generalize hWE : ((((wr.setCell ⟨R1, 0, none⟩ (.int .i64 (bs.length : Int))).setCell ⟨R1, 1, none⟩ (.slice an nn cn)).setCell ⟨R1, 2, none⟩ (.slice (some ⟨g2, off2, none⟩) bs.length ce)).setCell ⟨R1, 3, none⟩ (.slice (some ⟨gO, 0, none⟩) (n + 1) cO)) = WE at *
          refine bodyPost_ret (v := .agg #[.int .i64 (bs.length : Int), .slice an nn cn, .slice (some ⟨g2, off2, none⟩) bs.length ce, .slice (some ⟨gO, 0, none⟩) (n + 1) cO]) ?_ rfl ⟨.slice (some ⟨gO, 0, none⟩) (n + 1) cO, rfl, by rw [HM.out, ← HN.out]; exact HT.out.1, by rw [HR.out]; exact HT.out.2⟩
          simp at r0 r1 r2 r3
          simp [results, Try.results93, go_sem, r0, r1, r2, r3]

theorem implCounts_any (m : M) (N : Nat) (nv ev : Value) (w : World) (h1 : IsInts w nv m.next) (h2 : IsBools w ev m.ends) (hg : m.ok = true) (hN : N ≤ 10) :
    Calls Try.prog 93 #[.agg #[.int .i64 m.st, nv, ev], .int .i64 (N : Int)] w fun e w' => ∃ tv, e = .returned (.agg #[.int .i64 m.st, nv, ev, tv]) ∧ IsTab w' tv m N ∧ Below w.heap.size w w' := by
  obtain ⟨st, xs, bs⟩ := m
  obtain rfl : st = (bs.length : Int) := (M.ok_shape hg).2.2.2.symm
  exact implCounts_core xs bs nv ev w h1 h2 hg N hN
end Go.Proofs.Ytaghjddndgpljaa
