/- impl.CountNecklaces. No condition. -/
import Derived.Test.YtpcependeealfaaNeckSpec
namespace Go.Proofs.Ytpcependeealfaa
open Go.RowKit

/-- a row of words, as values -/
def wsV (ws : List (List UInt8)) : List Value := ws.map fun l => .string (txtOf l)
theorem wsV_length (ws : List (List UInt8)) : (wsV ws).length = ws.length := by simp [wsV]
theorem wsV_more (ws : List (List UInt8)) (l : List UInt8) : wsV (ws ++ [l]) = wsV ws ++ [.string (txtOf l)] := by simp [wsV]
theorem wsV_at (ws : List (List UInt8)) (k : Nat) (h : k < ws.length) : (wsV ws)[k]? = some (.string (txtOf ws[k])) := by simp [wsV, h]
/-- words with each letter behind -/
def ext3 (w : List UInt8) : List (List UInt8) := [w ++ [114], w ++ [100], w ++ [110]]
/-- of the first words all, of the next one the first ones -/
def extTo (ws : List (List UInt8)) (j l : Nat) : List (List UInt8) := (ws.take j).flatMap ext3 ++ ((ws.drop j).take 1).flatMap fun w => (ext3 w).take l
theorem extTo_zero (ws : List (List UInt8)) (j : Nat) : extTo ws j 0 = (ws.take j).flatMap ext3 := by simp [extTo]
theorem extTo_next (ws : List (List UInt8)) (j l : Nat) (h : j < ws.length) (hl : l < 3) : extTo ws j (l + 1) = extTo ws j l ++ [ws[j] ++ [lettB l]] := by
  have e : (ws.drop j).take 1 = [ws[j]] := by rw [List.drop_eq_getElem_cons h]; rfl
  rw [extTo, extTo, e, List.append_assoc]
  have : l = 0 ∨ l = 1 ∨ l = 2 := by omega
  rcases this with rfl | rfl | rfl <;> simp [ext3, lettB]
theorem extTo_three (ws : List (List UInt8)) (j : Nat) (h : j < ws.length) : extTo ws j 3 = extTo ws (j + 1) 0 := by
  have e : (ws.drop j).take 1 = [ws[j]] := by rw [List.drop_eq_getElem_cons h]; rfl
  rw [extTo_zero, extTo, e, List.take_succ_eq_append_getElem h, List.flatMap_append]
  simp [ext3]
theorem extTo_all (k : Nat) : extTo (wordsL k) (wordsL k).length 0 = wordsL (k + 1) := by
  rw [extTo_zero, List.take_length]; rfl
theorem extTo_length (ws : List (List UInt8)) (j l : Nat) (h : j ≤ ws.length) (_hl : l ≤ 3) : (extTo ws j l).length ≤ 3 * ws.length + 3 := by
  have h1 : ∀ a : List (List UInt8), (a.flatMap ext3).length = a.length * 3 := by
    intro a
    induction a with
    | nil => rfl
    | cons x xs ih => rw [List.flatMap_cons, List.length_append, ih]; simp [ext3]; omega
  have h2 : ∀ a : List (List UInt8), (a.flatMap fun w => (ext3 w).take l).length ≤ a.length * 3 := by
    intro a
    induction a with
    | nil => simp
    | cons x xs ih =>
      have h9 : ((ext3 x).take l).length ≤ 3 := by rw [List.length_take]; exact Nat.min_le_right _ _
      rw [List.flatMap_cons, List.length_append, List.length_cons]; omega
  have h3 := h2 ((ws.drop j).take 1)
  rw [extTo, List.length_append, h1, List.length_take]
  have : ((ws.drop j).take 1).length ≤ 1 := by rw [List.length_take]; omega
  omega

/-- a row of words in memory -/
def WordRow (w : World) (v : Value) (ws : List (List UInt8)) : Prop := ∃ g cap, v = .slice (some ⟨g, 0, none⟩) ws.length cap ∧ g < w.heap.size ∧ ∀ k (h : k < ws.length), w.cell? ⟨g, k, none⟩ = some (.string (txtOf ws[k]))
theorem WordRow.below {w w' : World} {v : Value} {ws : List (List UInt8)} (h : WordRow w v ws) (hb : Below w.heap.size w w') : WordRow w' v ws := by
  obtain ⟨g, cap, rfl, h1, h2⟩ := h
  exact ⟨g, cap, rfl, Nat.lt_of_lt_of_le h1 hb.size, fun k hk => (hb.cell (p := ⟨g, k, none⟩) h1).trans (h2 k hk)⟩
theorem WordRow.of {w : World} {v : Value} {ws : List (List UInt8)} (h : w.ownsRow 0 9 1 v ws.length (wsV ws)) (hn : 0 < ws.length) : WordRow w v ws := by
  rcases h.2 with ⟨rfl, hz⟩ | ⟨g, cap, cur, rfl, _⟩
  · omega
  · exact ⟨g, cap, rfl, (World.ownsRow.lt h g rfl).2, fun k hk => (World.ownsRow.cellAt h k (by omega)).trans (wsV_at ws k hk)⟩
theorem wordsL_le (k r : Nat) (h : k ≤ r) (hr : r ≤ 6) : 1 ≤ (wordsL k).length ∧ (wordsL k).length ≤ 729 := by
  rw [wordsL_length]
  have := pow3_le r k h hr
  omega

set_option maxHeartbeats 3200000 in
theorem implWords_any (n : Int) (r : Nat) (w : World) (hn : n = (r : Int)) (hr : r ≤ 6) :
    Calls Try.prog 103 #[.int .i64 n] w fun e w' => ∃ v, e = .returned v ∧ WordRow w' v (wordsL r) ∧ Below w.heap.size w w' := by
  obtain ⟨u0, hu, hz0, hz1, hz2⟩ := info_parts infoStrR
  have HU := Lib.hid (And.intro hu (And.intro hz0 (And.intro hz1 hz2)))
  clear hu hz0 hz1 hz2
  have HN := Lib.hid hn
  have hn6 : n ≤ 6 := by omega
  have O0 := Lib.hid ((Own.nil w).lit 9 #[.string ⟨#[]⟩] 1 rfl (by unfold maxLen; omega))
  clear hn
  go_enter Try.func103, Try.ntmps103
  go_wp2_with fail
  go_loopw [3, 4, 6, 7, 10] (fun v _ _ _ iv wr => ∃ (i : Nat) (ii : Int), ii = (i : Int) ∧ i ≤ r ∧ iv = .int .i64 ii ∧ Own w [rowT 9 1 v (wordsL i).length (wsV (wordsL i))] wr) (fun _ _ _ _ iv _ => 7 - (intOf iv).toNat)
  case atStart => exact ⟨0, 0, rfl, Nat.zero_le _, rfl, O0.out⟩
  case round =>
    obtain ⟨i, ii, hii, hir, rfl, hO⟩ := hrel
    have HII := Lib.hid hii
    have O1 := Lib.hid hO
    obtain ⟨wa, wc, rfl⟩ := ownsRow_slice (hO.row 0 (by simp) rfl)
    have hq : IntKind.i64.wrap (ii + 1) = ii + 1 := IntWalk.i64_in _ (by omega)
    clear hO
    by_cases hlt : i < r
    · have hltI : ii < n := by have := HN.out; omega
      obtain ⟨hw1, hw2⟩ := wordsL_le i r hir hr
      have O2 := Lib.hid (O1.out.idle 9)
      have HW := Lib.hid (fun (W : World) (h : W.ownsRow 0 9 1 (.slice wa (wordsL i).length wc) (wordsL i).length (wsV (wordsL i))) => WordRow.of h (by omega))
      generalize hws : wordsL i = ws at *
      have HWS := Lib.hid hws
      have HEX := Lib.hid (extTo_all i)
      rw [hws] at HEX
      clear hii hws
      go_wp2_with fail
      go_loopw [4, 6, 7, 14] (fun lv _ _ jv wr2 => ∃ (j : Nat) (ji : Int), ji = (j : Int) ∧ j ≤ ws.length ∧ jv = .int .i64 ji ∧ Own w [rowT 9 1 lv (extTo ws j 0).length (wsV (extTo ws j 0)), rowT 9 1 (.slice wa ws.length wc) ws.length (wsV ws)] wr2) (fun _ _ _ jv _ => ws.length - (intOf jv).toNat)
      case atStart => exact ⟨0, 0, rfl, Nat.zero_le _, rfl, by rw [show extTo ws 0 0 = [] from by simp [extTo]]; exact O2.out⟩
      case round =>
        obtain ⟨j, ji, hji, hjw, rfl, hO⟩ := hrel
        have HJI := Lib.hid hji
        have O3 := Lib.hid hO
        obtain ⟨la, lc, rfl⟩ := ownsRow_slice (hO.row 0 (by simp) rfl)
        have hq2 : IntKind.i64.wrap (ji + 1) = ji + 1 := IntWalk.i64_in _ (by omega)
        have hrw := HW.out _ (hO.row 1 (by simp) rfl)
        obtain ⟨gw, cw, e1, -, hcw⟩ := hrw
        simp only [Value.slice.injEq, true_and] at e1
        obtain ⟨rfl, rfl⟩ := e1
        clear hO O2
        by_cases hjl : j < ws.length
        · have hjlI : ji < (ws.length : Int) := by omega
          have hj0 : 0 ≤ ji := by omega
          have hjt : ji.toNat = j := by omega
          have c1 := hcw j hjl
          have HST := Lib.hid (fun l hl => extTo_next ws j l hjl hl)
          have HTH := Lib.hid (extTo_three ws j hjl)
          have HLE := Lib.hid (fun l hl => extTo_length ws j l (Nat.le_of_lt hjl) hl)
          have hwd : (txtOf ws[j]).size ≤ 6 := by
            have hm := (wordsL_mem i ws[j] (by rw [HWS.out]; exact List.getElem_mem hjl)).1
            rw [txtOf_size]; omega
          generalize ws[j] = wd at *
          clear hcw hji
          go_wp2_with fail
          clear c1
          go_loopw [4, 7, 18] (fun lv _ kv wr3 => ∃ (l : Nat) (li : Int), li = (l : Int) ∧ l ≤ 3 ∧ kv = .int .i64 li ∧ Own w [rowT 9 1 lv (extTo ws j l).length (wsV (extTo ws j l)), rowT 9 1 (.slice (some ⟨gw, 0, none⟩) ws.length wc) ws.length (wsV ws)] wr3) (fun _ _ kv _ => 3 - (intOf kv).toNat)
          case atStart => exact ⟨0, 0, rfl, by omega, rfl, O3.out⟩
          case round =>
            obtain ⟨l, li, hli, hl3, rfl, hO⟩ := hrel
            have HLI := Lib.hid hli
            have O4 := Lib.hid hO
            obtain ⟨la4, lc4, rfl⟩ := ownsRow_slice (hO.row 0 (by simp) rfl)
            have hq3 : IntKind.i64.wrap (li + 1) = li + 1 := IntWalk.i64_in _ (by omega)
            clear hO O3
            by_cases hll : l < 3
            · have hllI : li < 3 := by omega
              have hL := fun W => letts_run l li hll hli W
              have hl0 : 0 ≤ li := by omega
              have hTM := Lib.hid (txt_more wd (lettB l))
              have HS := Lib.hid (HST.out l hll)
              have hle := HLE.out l (by omega)
              have HMO := Lib.hid (wsV_more (extTo ws j l) (wd ++ [lettB l]))
              rw [← hTM.out] at HMO
              have hex : (extTo ws j l).length ≤ 3000 := by omega
              generalize hel : (extTo ws j l).length = el at *
              have HEL := Lib.hid hel
              have htl : (txtOf [lettB l]).size = 1 := by rw [txtOf_size]; rfl
              generalize txtOf [lettB l] = tl at *
              generalize txtOf wd = td at *
              clear hli hel
              go_wp2_with (at_builtin; refine wpList_append_lies _ rfl _ _ 86 rfl 0 9 u0 (.string ⟨#[]⟩) 1 16 Try.underlying86 HU.out.1 HU.out.2.1 HU.out.2.2.1 HU.out.2.2.2 rfl (by decide) (.slice la4 el lc4) el (wsV (extTo ws j l)) rfl ((O4.out.row 0 (by simp) rfl).alloc _) ⟨wr.heap.size, 0, none⟩ 1 1 [.string (td ++ tl)] rfl rfl (cellR _ _ _) (by simp [Value.oneCell']) (by omega) (by unfold maxLen; omega) (by omega) (Nat.zero_le _) _ rfl ?_; intro g9 cp w6 hown hgrow hat hlt3; have O5 := Lib.hid (O4.out.push (i := 0) (by simp) rfl hgrow hown hat); clear hown hgrow hat hlt3)
              go_roundw
              case rel => exact ⟨l + 1, li + 1, by have := HLI.out; omega, by omega, by first | rfl | rw [hq3], by rw [HS.out, HMO.out, List.length_append, HEL.out]; exact O5.out⟩
              case measure => simp [intOf]; have := HLI.out; omega
            · have hnl : ¬ li < 3 := by omega
              obtain rfl : l = 3 := by omega
              rw [HTH.out] at O4
              rw [HTH.out]
              clear hli
              go_wp2_with fail
              go_roundw
              case rel => exact ⟨j + 1, ji + 1, by have := HJI.out; omega, by omega, by first | rfl | rw [hq2], O4.out⟩
              case measure => simp [intOf]; have := HJI.out; omega
        · have hnl : ¬ ji < (ws.length : Int) := by omega
          obtain rfl : j = ws.length := by omega
          rw [HEX.out] at O3
          rw [HEX.out]
          have O5 := Lib.hid (O3.out.sub (us := [rowT 9 1 (.slice la (wordsL (i + 1)).length lc) (wordsL (i + 1)).length (wsV (wordsL (i + 1)))]) (by simp))
          clear hji hcw
          go_wp2_with fail
          go_roundw
          case rel => exact ⟨i + 1, ii + 1, by have := HII.out; omega, by omega, by first | rfl | rw [hq], O5.out⟩
          case measure => simp [intOf]; have := HII.out; omega
    · have hnlt : ¬ ii < n := by have := HN.out; omega
      obtain rfl : i = r := by omega
      have hpos := (wordsL_le i i (Nat.le_refl _) hr).1
      clear hii
      go_wp2_with fail
      go_ret
      exact ⟨_, rfl, WordRow.of (O1.out.row 0 (by simp) rfl) hpos, O1.out.keep⟩
end Go.Proofs.Ytpcependeealfaa
