/- SwapAt of the program: what it returns, for every argument. No condition. -/
import Derived.Test.YtggohgkjdnnndaaSwapRost
import Derived.Test.YtggohgkjdnnndaaRostEx
import Derived.Test.YtggohgkjdnnndaaStrMark
import Derived.Test.YtggohgkjdnnndaaBack
namespace Go.Proofs.Ytggohgkjdnnndaa
open Go.RowKit

theorem setAt_convert (w : World) (g cap : Nat) (s : ByteArray) (d : Nat) (c : UInt8) (hd : d < s.size) (h : HasBytes w g s.data.toList) :
    (convert 22 9 (.slice (some ⟨g, 0, none⟩) s.size cap)).run Try.prog (w.setCell ⟨g, d, none⟩ (.int .u8 (c.toNat : Int))).drew = .ok (.string (setAt s d c)) (w.setCell ⟨g, d, none⟩ (.int .u8 (c.toNat : Int))).drew := by
  have := run_convert_bytes_back (P := Try.prog) (w.setCell ⟨g, d, none⟩ (.int .u8 (c.toNat : Int))).drew 22 9 5 ⟨g, 0, none⟩ cap (s.data.toList.set d c) Try.underlying22 Try.underlying5 Try.underlying9 (fun j hj => by
    rw [add_zero_at, World.cell?_drew]
    have hj' : j < s.data.toList.length := by rw [List.length_set] at hj; exact hj
    by_cases e : j = d
    · subst e
      rw [World.cell?_setCell_same _ _ _ (h j hj').1]
      simp
    · rw [World.cell?_setCell_other _ _ _ _ (by intro e2; injection e2 with _ e3; exact e e3.symm), (h j hj').1, List.getElem_set_ne (fun e2 => e e2.symm)])
  rw [List.length_set, len_data] at this
  exact this

set_option maxHeartbeats 800000 in
theorem withLetter_any (s : ByteArray) (d : Nat) (c : UInt8) (w : World) (_hs : s.size ≤ 12) (hd : d < s.size) :
    Calls Try.prog 49 #[.string s, .int .i64 (d : Int), .int .u8 (c.toNat : Int)] w fun e w' => e = .returned (.string (setAt s d c)) ∧ Below w.heap.size w w' := by
  have hcv := fun w => run_bytes_of_string (P := Try.prog) w 9 22 5 s Try.underlying9 Try.underlying22 Try.underlying5
  have hn := hasBytes_new w s (grownCap w s.size 0 5) 5
  have HN := Lib.hid hn
  have hdl : d < s.data.toList.length := by rw [len_data]; exact hd
  have hdi : (d : Int) < (s.size : Int) := by omega
  have hc := (hn d hdl).1
  have hf := (hn d hdl).2
  rw [World.cell?_drew] at hc
  rw [World.frozen?_drew] at hf
  have HB : HasBytes (w.alloc (.cells (bytesRow s (grownCap w s.size 0 5)) 5 ((bytesRow s (grownCap w s.size 0 5)).size, (bytesRow s (grownCap w s.size 0 5)).size + 1))) w.heap.size s.data.toList := fun j hj => by
    have := hn j hj
    rw [World.cell?_drew, World.frozen?_drew] at this
    exact this
  have hback := setAt_convert _ w.heap.size (grownCap w s.size 0 5) s d c hd HB
  have BB := Lib.hid ((((Below.refl w.heap.size w).alloc (Nat.le_refl _) (.cells (bytesRow s (grownCap w s.size 0 5)) 5 ((bytesRow s (grownCap w s.size 0 5)).size, (bytesRow s (grownCap w s.size 0 5)).size + 1))).setCell (p := ⟨w.heap.size, d, none⟩) (Nat.le_refl _) (.int .u8 (c.toNat : Int))).drew)
  clear hn HB
  go_enter Try.func49, Try.ntmps49
  go_wp2_with fail
  go_ret
  exact ⟨rfl, BB.out⟩

theorem dayIn_any (g off n c : Nat) (p : Int) (s : ByteArray) (w : World) (hn : 0 < n) (_hs : s.size ≤ 12) (h0 : w.cell? ⟨g, off, none⟩ = some (.string s)) :
    Calls Try.prog 46 #[.slice (some ⟨g, off, none⟩) n c, .int .i64 p] w fun e w' => e = .returned (.bool (decide (0 ≤ p) && decide (p < s.size))) ∧ w = w' := by
  by_cases h : 0 ≤ p
  · have hd : decide (0 ≤ p) = true := decide_eq_true h
    go_enter Try.func46, Try.ntmps46
    go_wp2
    go_ret
    exact ⟨ret_bool (by rw [hd, Bool.true_and]), rfl⟩
  · have hd : decide (0 ≤ p) = false := decide_eq_false h
    go_enter Try.func46, Try.ntmps46
    go_wp2
    go_ret
    exact ⟨ret_bool (by simp), rfl⟩

set_option maxHeartbeats 3200000 in
theorem implSwap_yes (v : Value) (xs : List ByteArray) (hwf : Short xs) (d a b : Nat) (w : World) (h : IsStrs w v xs) (hr : rosterOk xs = true) (hd : d < daysOf xs) (ha : a < xs.length) (hb : b < xs.length) (hab : a ≠ b) :
    Calls Try.prog 14 #[v, .int .i64 (d : Int), .int .i64 (a : Int), .int .i64 (b : Int)] w fun e w' => ∃ u, e = .returned (.tuple #[u, .bool true]) ∧ w'.ownsRow w.heap.size 9 1 u xs.length ((swapTo xs d a b).map Value.string) ∧ Below w.heap.size w w' := by
  have HR := Lib.hid (implRosterOk_any v xs hwf w h)
  rw [hr] at HR
  have hrow := roster_days hr hd
  obtain ⟨hn1, hn4, hd12, hall⟩ := rosterOk_iff.1 hr
  have hda := hrow _ (List.getElem_mem ha)
  have hdb := hrow _ (List.getElem_mem hb)
  have hsa : xs[a].size ≤ 12 := by have := (hall _ (List.getElem_mem ha)).1; omega
  have hsb : xs[b].size ≤ 12 := by have := (hall _ (List.getElem_mem hb)).1; omega
  have h0 : 0 < xs.length := by omega
  have hs0 : xs[0].size ≤ 12 := by have := (hall _ (List.getElem_mem h0)).1; omega
  have hs0d : xs[0].size = daysOf xs := (daysOf_get h0).symm
  have hne : ((a : Int) == (b : Int)) = false := by simp; omega
  obtain ⟨ad, cap, rfl, hcp, hmx⟩ := h.form
  obtain ⟨g, off, rfl, hg, hc⟩ := h.at (by omega)
  have HC := Lib.hid hc
  have HG := Lib.hid hg
  have HIN : Hid (∀ (p : Nat) (W : World), p < xs.length → Calls Try.prog 47 #[.slice (some ⟨g, off, none⟩) xs.length cap, .int .i64 (p : Int)] W fun e w' => e = .returned (.bool true) ∧ W = w') := by
    have : ∀ (p : Nat) (W : World), p < xs.length → Calls Try.prog 47 #[.slice (some ⟨g, off, none⟩) xs.length cap, .int .i64 (p : Int)] W fun e w' => e = .returned (.bool true) ∧ W = w' := fun p W hp => by
      have := rowIn_any (some ⟨g, off, none⟩) xs.length cap (p : Int) W (by omega)
      rw [show (decide ((0 : Int) ≤ p) && decide ((p : Int) < xs.length)) = true by simp; omega] at this
      exact this
    exact Lib.hid this
  have HDAY : Hid (∀ W : World, W.cell? ⟨g, off, none⟩ = some (.string xs[0]) → Calls Try.prog 46 #[.slice (some ⟨g, off, none⟩) xs.length cap, .int .i64 (d : Int)] W fun e w' => e = .returned (.bool true) ∧ W = w') := by
    have : ∀ W : World, W.cell? ⟨g, off, none⟩ = some (.string xs[0]) → Calls Try.prog 46 #[.slice (some ⟨g, off, none⟩) xs.length cap, .int .i64 (d : Int)] W fun e w' => e = .returned (.bool true) ∧ W = w' := fun W hW => by
      have := dayIn_any g off xs.length cap (d : Int) xs[0] W h0 hs0 hW
      rw [show (decide ((0 : Int) ≤ d) && decide ((d : Int) < xs[0].size)) = true by simp; omega] at this
      exact this
    exact Lib.hid this
  have hm := swapTo_map xs d a b ha hb
  rw [← byteAt_eq _ _ hda, ← byteAt_eq _ _ hdb] at hm
  have HM := Lib.hid hm
  have HCL : Hid (∀ W : World, (∀ k (hk : k < xs.length), W.cell? ⟨g, off + k, none⟩ = some (.string xs[k])) → Calls Try.prog 48 #[.slice (some ⟨g, off, none⟩) xs.length cap] W fun e w' => ∃ v', e = .returned v' ∧ w'.ownsRow W.heap.size 9 1 v' xs.length (xs.map Value.string) ∧ Below W.heap.size W w') := by
    have : ∀ W : World, (∀ k (hk : k < xs.length), W.cell? ⟨g, off + k, none⟩ = some (.string xs[k])) → Calls Try.prog 48 #[.slice (some ⟨g, off, none⟩) xs.length cap] W fun e w' => ∃ v', e = .returned v' ∧ w'.ownsRow W.heap.size 9 1 v' xs.length (xs.map Value.string) ∧ Below W.heap.size W w' := fun W hW => by
      refine (Any.slices_Clone_string shCloneS_lays g off xs.length cap xs W (Nat.le_refl _) (by omega) (fun j hj => by rw [hW j hj]; simp [List.getD, hj])).mono ?_
      rintro e w' ⟨v', rfl, ho, -, hb⟩
      exact ⟨v', rfl, by rw [List.take_length] at ho; exact ho, hb⟩
    exact Lib.hid this
  clear hc hg h hwf hr hm hrow hall hs0d
  go_enter Try.func14, Try.ntmps14
  go_wp2_with fail
  refine HR.out.mono ?_
  rintro e w1 ⟨rfl, hb1⟩
  have B1 := Lib.hid hb1
  have HC1 : Hid (∀ k (hk : k < xs.length), w1.cell? ⟨g, off + k, none⟩ = some (.string xs[k])) := Lib.hid (fun k hk => (hb1.cell (p := ⟨g, off + k, none⟩) HG.out).trans (HC.out k hk))
  clear hb1
  go_wp2_with fail
  refine (HDAY.out w1 (HC1.out 0 h0)).mono ?_
  rintro e w' ⟨rfl, rfl⟩
  go_wp2_with fail
  refine (HIN.out a w1 ha).mono ?_
  rintro e w' ⟨rfl, rfl⟩
  go_wp2_with fail
  refine (HIN.out b w1 hb).mono ?_
  rintro e w' ⟨rfl, rfl⟩
  go_wp2_with fail
  refine (HCL.out w1 HC1.out).mono ?_
  rintro e w2 ⟨v2, rfl, ho, hb2⟩
  obtain ⟨g2, c2, rfl, hc21, hc22⟩ : ∃ g2 c2, v2 = .slice (some ⟨g2, 0, none⟩) xs.length c2 ∧ xs.length ≤ c2 ∧ c2 ≤ 9223372036854775807 := by
    rcases ho.2 with ⟨_, hn⟩ | ⟨g', c', cur, rfl, _, _, h1, h2, _⟩
    · omega
    · unfold maxLen at h2
      exact ⟨g', c', rfl, h1, h2⟩
  have hlt := ho.lt g2 rfl
  have HL := Lib.hid hlt
  have HGW : Hid (g < w1.heap.size) := Lib.hid (Nat.lt_of_lt_of_le HG.out B1.out.size)
  have CA := Lib.hid (fun W (hW : Below w1.heap.size w1 W) => (hW.cell (p := ⟨g, off + a, none⟩) HGW.out).trans (HC1.out a ha))
  have CB := Lib.hid (fun W (hW : Below w1.heap.size w1 W) => (hW.cell (p := ⟨g, off + b, none⟩) HGW.out).trans (HC1.out b hb))
  have O2 := Lib.hid ho
  have B2 := Lib.hid hb2
  have HW1 := Lib.hid B1.out.size
  have hgg : g ≠ g2 := by have := Nat.lt_of_lt_of_le HG.out B1.out.size; omega
  have hgg2 : g2 ≠ g := fun e => hgg e.symm
  have HWL := Lib.hid (fun W => withLetter_any xs[a] d xs[b][d] W hsa hda)
  have HWM := Lib.hid (fun W => withLetter_any xs[b] d xs[a][d] W hsb hdb)
  clear ho hb2 hlt HCL HIN HDAY
  generalize hxa : xs[a] = sa at *
  generalize hxb : xs[b] = sb at *
  clear hxa hxb
  have hal : (a : Int) < (xs.length : Int) := by omega
  have hbl : (b : Int) < (xs.length : Int) := by omega
  have hdai : (d : Int) < (sa.size : Int) := by omega
  have hdbi : (d : Int) < (sb.size : Int) := by omega
  have ca := CA.out w2 B2.out
  have cb := CB.out w2 B2.out
  go_wp2_with fail
  have BD := Lib.hid ((Below.refl w2.heap.size w2).drew)
  go_region_held3 (fun w' => w'.cell? ⟨g, off + a, none⟩ = some (.string sa) ∧ w'.cell? ⟨g, off + b, none⟩ = some (.string sb)) (refine ⟨?_, ?_⟩ <;> go_simp) (first | (go_at_call 49; with_reducible refine Calls.mono (HWL.out _) ?_; rintro e w3 ⟨rfl, hb3⟩; have C3 := Lib.hid (BD.out.trans (hb3.mono BD.out.size)); have O3 := Lib.hid (owns_belowS (owns_drewE O2.out) hb3); clear hb3; have B3 := Lib.hid (B2.out.trans (C3.out.mono B2.out.size)); have ca := CA.out w3 B3.out; have cb := CB.out w3 B3.out; have y3 := O3.out.cellAt a (by omega); have fa := O3.out.frozenAt a))
  clear ca cb y3 fa
  have O4 := Lib.hid ((O3.out.stored a (.string (setAt sa d sb[d]))).1)
  have B4 := Lib.hid (B3.out.setCell (p := ⟨g2, a, none⟩) HL.out.1 (.string (setAt sa d sb[d])))
  have HL4 : Hid (w1.heap.size ≤ g2 ∧ g2 < (w3.setCell ⟨g2, a, none⟩ (.string (setAt sa d sb[d]))).heap.size) := Lib.hid (World.ownsRow.lt O4.out g2 rfl)
  generalize hw4 : w3.setCell ⟨g2, a, none⟩ (.string (setAt sa d sb[d])) = w4 at *
  clear hw4 B3 C3 O3 BD
  have ca := CA.out w4 B4.out
  have cb := CB.out w4 B4.out
  have BD := Lib.hid ((Below.refl w4.heap.size w4).drew)
  go_wp2_with fail
  go_region_held3 (fun w' => w'.cell? ⟨g, off + a, none⟩ = some (.string sa) ∧ w'.cell? ⟨g, off + b, none⟩ = some (.string sb)) (refine ⟨?_, ?_⟩ <;> go_simp) (first | (go_at_call 49; with_reducible refine Calls.mono (HWM.out _) ?_; rintro e w5 ⟨rfl, hb3⟩; have C5 := Lib.hid (BD.out.trans (hb3.mono BD.out.size)); have O5 := Lib.hid (owns_belowS (owns_drewE O4.out) hb3); clear hb3; have B5 := Lib.hid (B4.out.trans (C5.out.mono B4.out.size)); have ca := CA.out w5 B5.out; have cb := CB.out w5 B5.out; have y5 := O5.out.cellAt b (by simp; omega); have fb := O5.out.frozenAt b))
  clear ca cb y5 fb
  have O6 := Lib.hid ((O5.out.stored b (.string (setAt sb d sa[d]))).1)
  have B6 := Lib.hid (B5.out.setCell (p := ⟨g2, b, none⟩) HL.out.1 (.string (setAt sb d sa[d])))
  rw [← HM.out] at O6
  go_wp2_with fail
  go_ret2
  exact ⟨_, rfl, ownsRow_base O6.out (fun k e => by cases e; exact Nat.le_trans HW1.out HL.out.1), B1.out.trans (B6.out.mono B1.out.size)⟩

theorem ExP.none {w w' : World} (hb : Below w.heap.size w w') : ExP [] false w (.returned (.tuple #[.slice none 0 0, .bool false])) w' := ⟨_, rfl, World.ownsRow_nil _ _ _ _, hb⟩
theorem swapOk_no {xs : List ByteArray} {d a b : Int} (h : swapOk xs d a b = false) (h1 : rosterOk xs = true) (h2 : (decide (0 ≤ d) && decide (d < daysOf xs)) = true) (h3 : (a == b) = false) (h4 : (decide (0 ≤ a) && decide (a < xs.length)) = true) : (decide (0 ≤ b) && decide (b < xs.length)) = false := by
  have h3' : decide (a ≠ b) = true := by simpa using h3
  rw [swapOk, h1, h2, h3', h4] at h
  simpa using h

set_option maxHeartbeats 1600000 in
theorem implSwap_any (v : Value) (xs : List ByteArray) (hwf : Short xs) (d a b : Int) (w : World) (h : IsStrs w v xs) :
    Calls Try.prog 14 #[v, .int .i64 d, .int .i64 a, .int .i64 b] w (ExP (swapd xs d a b) (swapOk xs d a b) w) := by
  cases hx : swapOk xs d a b with
  | true =>
    obtain ⟨h1, h2, h3, h4, h5⟩ := swapOk_iff.1 hx
    obtain ⟨nd, rfl⟩ := Int.eq_ofNat_of_zero_le h2.1
    obtain ⟨na, rfl⟩ := Int.eq_ofNat_of_zero_le h4.1
    obtain ⟨nb, rfl⟩ := Int.eq_ofNat_of_zero_le h5.1
    refine (implSwap_yes v xs hwf nd na nb w h h1 (by omega) (by omega) (by omega) (by omega)).mono ?_
    rintro e w' ⟨u, rfl, ho, hb⟩
    rw [swapd_yes hx]
    exact ⟨u, rfl, by rw [swapTo_length]; exact ho, hb⟩
  | false =>
    rw [swapd_no hx]
    have HE : Hid (∀ w', Below w.heap.size w w' → ExP [] false w (.returned (.tuple #[.slice none 0 0, .bool false])) w') := Lib.hid (fun w' hb => ExP.none hb)
    have HR := Lib.hid (implRosterOk_any v xs hwf w h)
    obtain ⟨ad, cap, rfl, hcp, hmx⟩ := h.form
    cases hr : rosterOk xs with
    | false =>
      rw [hr] at HR
      clear hx h hwf
      go_enter Try.func14, Try.ntmps14
      go_wp2_with (go_at_call 21; refine HR.out.mono ?_; rintro e w1 ⟨rfl, hb1⟩)
      go_ret2
      exact HE.out _ hb1
    | true =>
      rw [hr] at HR
      obtain ⟨hn1, hn4, hd12, hall⟩ := rosterOk_iff.1 hr
      have h0 : 0 < xs.length := by omega
      have hs0d : xs[0].size = daysOf xs := (daysOf_get h0).symm
      obtain ⟨g, off, rfl, hg, hc⟩ := h.at (by omega)
      have hc0 := hc 0 h0
      have HC := Lib.hid (fun W (hb : Below w.heap.size w W) => (hb.cell (p := ⟨g, off, none⟩) hg).trans hc0)
      have hs12 : xs[0].size ≤ 12 := by omega
      have HDAY := Lib.hid (fun W (hW : W.cell? ⟨g, off, none⟩ = some (.string xs[0])) => dayIn_any g off xs.length cap d xs[0] W h0 hs12 hW)
      have HIN := Lib.hid (fun p W => rowIn_any (some ⟨g, off, none⟩) xs.length cap p W (by omega))
      have HX := Lib.hid (fun h2 h3 h4 => swapOk_no hx hr h2 h3 h4)
      rw [hs0d] at HDAY
      clear h hwf hc hc0 hx hall hr hs12
      generalize xs[0] = s0 at *
      clear hs0d
      generalize (decide (0 ≤ d) && decide (d < daysOf xs)) = bd at HDAY HX
      cases bd with
      | false =>
        clear HX
        go_enter Try.func14, Try.ntmps14
        go_wp2_with fail
        refine HR.out.mono ?_
        rintro e w1 ⟨rfl, hb1⟩
        go_wp2_with fail
        refine (HDAY.out w1 (HC.out _ hb1)).mono ?_
        rintro e w' ⟨rfl, rfl⟩
        go_wp2_with fail
        go_ret2
        exact HE.out _ hb1
      | true =>
        cases hab : (a == b) with
        | true =>
          clear HX
          go_enter Try.func14, Try.ntmps14
          go_wp2_with fail
          refine HR.out.mono ?_
          rintro e w1 ⟨rfl, hb1⟩
          go_wp2_with fail
          refine (HDAY.out w1 (HC.out _ hb1)).mono ?_
          rintro e w' ⟨rfl, rfl⟩
          go_wp2_with fail
          go_ret2
          exact HE.out _ hb1
        | false =>
          have HA := Lib.hid (HIN.out a)
          have HB := Lib.hid (HIN.out b)
          cases ha : (decide (0 ≤ a) && decide (a < xs.length)) with
          | false =>
            rw [ha] at HA
            clear HX HB ha
            go_enter Try.func14, Try.ntmps14
            go_wp2_with fail
            refine HR.out.mono ?_
            rintro e w1 ⟨rfl, hb1⟩
            go_wp2_with fail
            refine (HDAY.out w1 (HC.out _ hb1)).mono ?_
            rintro e w' ⟨rfl, rfl⟩
            go_wp2_with fail
            refine (HA.out w1).mono ?_
            rintro e w' ⟨rfl, rfl⟩
            go_wp2_with fail
            go_ret2
            exact HE.out _ hb1
          | true =>
            have hbf := HX.out rfl hab ha
            rw [ha] at HA
            rw [hbf] at HB
            clear HX ha hbf
            go_enter Try.func14, Try.ntmps14
            go_wp2_with fail
            refine HR.out.mono ?_
            rintro e w1 ⟨rfl, hb1⟩
            go_wp2_with fail
            refine (HDAY.out w1 (HC.out _ hb1)).mono ?_
            rintro e w' ⟨rfl, rfl⟩
            go_wp2_with fail
            refine (HA.out w1).mono ?_
            rintro e w' ⟨rfl, rfl⟩
            go_wp2_with fail
            refine (HB.out w1).mono ?_
            rintro e w' ⟨rfl, rfl⟩
            go_wp2_with fail
            go_ret2
            exact HE.out _ hb1
end Go.Proofs.Ytggohgkjdnnndaa
