/- What the laws of chapter 9 draw: rows of loads. No condition. -/
import Derived.Test.YthdpeholeelhdaaOwRD
import Derived.Test.YthdpeholeelhdaaAppOwn
import Derived.Test.YthdpeholeelhdaaLoadSpec2
namespace Go.Proofs.Ythdpeholeelhdaa
open Go.RowKit

theorem owns_cap {w : World} {base g n c : Nat} {xs : List Value} (h : w.ownsRow base 3 1 (.slice (some ⟨g, 0, none⟩) n c) n xs) : n ≤ c ∧ c ≤ 9223372036854775807 := by
  rcases h.2 with ⟨h0, _⟩ | ⟨g'', cap'', cur, hv, _, _, h1, h2, _⟩
  · cases h0
  · cases hv
    unfold maxLen at h2
    exact ⟨h1, h2⟩
/-- numbers as they are drawn: small ones -/
def SmallL (xs : List Int) : Prop := xs.length ≤ 7 ∧ ∀ x ∈ xs, -1 ≤ x ∧ x ≤ 31
/-- what drawing a row leaves -/
def LoadsDrawn (B R : Nat) (a : Option Addr) (len cap k : Nat) (w : World) (e : Ending) (w' : World) : Prop :=
  ∃ (xs : List Int) (v : Value), e = .returned v ∧ SmallL xs ∧ w'.ownsRow w.heap.size 3 1 v xs.length (xs.map (Value.int .i64)) ∧ ∃ k', k ≤ k' ∧ k' ≤ k + 20 ∧ RdAt B R a len cap k' w' ∧ KeepsBut R w w'
theorem owns_keeps {w w' : World} {base R : Nat} {v : Value} {xs : List Int} (h : w.ownsRow base 3 1 v xs.length (xs.map (Value.int .i64))) (hk : KeepsBut R w w') (hR : R < base) : w'.ownsRow base 3 1 v xs.length (xs.map (Value.int .i64)) := by
  refine ⟨h.1, h.2.imp id ?_⟩
  rintro ⟨g, cap, cur, rfl, h1, h2, h3⟩
  exact ⟨g, cap, cur, rfl, h1, (hk.block g (World.ownsRow.lt h g rfl).2 (by omega)).trans h2, h3⟩
theorem owns_lit {w' : World} {base b : Nat} {xs : List Int} (hb : w'.heap[b]? = some (.cells (xs.map (Value.int .i64)).toArray 3 (0, 0))) (hbase : base ≤ b) (hl : xs.length ≤ 1000) : w'.ownsRow base 3 1 (.slice (some ⟨b, 0, none⟩) xs.length xs.length) xs.length (xs.map (Value.int .i64)) :=
  ⟨by simp, .inr ⟨b, xs.length, _, rfl, hbase, hb, Nat.le_refl _, by unfold maxLen; omega, by simp, by rw [List.take_of_length_le (by simp)]⟩⟩

theorem alloc_old {w : World} {k : Nat} {o o' : Obj} (h : w.heap[k]? = some o') : (w.alloc o).heap[k]? = some o' := by
  have hk : k < w.heap.size := by
    rcases Nat.lt_or_ge k w.heap.size with h' | h'
    · exact h'
    · rw [Array.getElem?_eq_none h'] at h; cases h
  exact (((Below.refl w.heap.size w).alloc (Nat.le_refl _) o).block k hk).trans h
theorem alloc_at {w : World} {k : Nat} (o : Obj) (h : w.heap.size = k) : (w.alloc o).heap[k]? = some o := by
  subst h
  exact heap_alloc_new w o
theorem drawn_lit {B R : Nat} {a : Option Addr} {len cap k k' : Nat} {w w7 : World} {b : Nat} (xs : List Int) (hb : w7.heap[b]? = some (.cells (xs.map (Value.int .i64)).toArray 3 (0, 0))) (hbase : w.heap.size ≤ b) (hs : SmallL xs) (h1 : k ≤ k') (h2 : k' ≤ k + 20) (hR : RdAt B R a len cap k' w7) (hK : KeepsBut R w w7) :
    LoadsDrawn B R a len cap k w (.returned (.slice (some ⟨b, 0, none⟩) xs.length xs.length)) w7 :=
  ⟨xs, _, rfl, hs, owns_lit hb hbase (by have := hs.1; omega), k', h1, h2, hR, hK⟩

set_option maxHeartbeats 3200000 in
theorem l20Loads_any (B R : Nat) (a : Option Addr) (len cap k : Nat) (n : Int) (w : World) (H : RdAt B R a len cap k w) (hk : k ≤ 900000) (hn : 1 ≤ n) (hn2 : n ≤ 1000) :
    Calls Try.prog 49 #[.pointer (some ⟨R, 0, none⟩), .int .i64 n] w (LoadsDrawn B R a len cap k w) := by
  have HRR := Lib.hid H.hR
  have O0 := Lib.hid ((OwR.start H).lit #[] 3 0 1 rfl (Nat.zero_le _))
  clear H
  have HII := Lib.hid (info_parts infoIntA)
  go_enter Try.func49, Try.ntmps49
  go_wp2_with fail
  refine (pick_any B R a len cap k 5 _ O0.out.rd (by omega) (by omega) (by omega)).mono ?_
  rintro e w1 ⟨v1, rfl, h10, h11, hR1, hK1⟩
  have h11' := h11 (by omega)
  have O1 := Lib.hid (O0.out.picked hR1 hK1)
  clear hR1 hK1 h11 O0
  obtain ⟨m0, rfl⟩ := Int.eq_ofNat_of_zero_le h10
  go_wp2_with fail
  go_loopw [5, 6] (fun s i wr => ∃ (m : Nat) (ys : List Int) (g cn cp k' : Nat), i = .int .i64 m ∧ s = .slice (some ⟨g, 0, none⟩) cn cp ∧ cn ≤ cp ∧ cp ≤ 9223372036854775807 ∧ cn + m ≤ 5 ∧ Hid (ys.length = cn) ∧ Hid (SmallL ys) ∧ k + 1 ≤ k' ∧ k' + m ≤ k + 6 ∧ Hid (OwR B R a len cap w k' [rowT 3 1 (.slice (some ⟨g, 0, none⟩) cn cp) cn (ys.map (Value.int .i64))] wr)) (fun _ i _ => (intOf i).toNat)
  case atStart => exact ⟨1 + m0, [], w.heap.size, 0, 0, k + 1, by go_num, rfl, Nat.le_refl _, by omega, by omega, Lib.hid rfl, Lib.hid ⟨Nat.zero_le _, fun x h => by cases h⟩, Nat.le_refl _, by omega, O1⟩
  case round =>
    obtain ⟨m, ys, g, cn, cp, k', rfl, rfl, hcp1, hcp2, hm, HY, HSM, hk1, hk2, HO⟩ := hrel
    clear O1
    by_cases hm0 : 0 < m
    · go_wp2_with fail
      refine (pick_any B R a len cap k' 8 _ HO.out.rd (by omega) (by omega) (by omega)).mono ?_
      rintro e w2 ⟨v2, rfl, h20, h21, hR2, hK2⟩
      have h21' := h21 (by omega)
      have O2 := Lib.hid (HO.out.picked hR2 hK2)
      clear hR2 hK2 h21
      obtain ⟨i0, hi0, hz0, hz1, hz2⟩ := HII.out
      have HI0 := Lib.hid hi0
      have HZ := Lib.hid (And.intro hz0 (And.intro hz1 hz2))
      clear hi0 hz0 hz1 hz2
      go_wp2_with (at_builtin; refine wpList_append_lies _ rfl _ _ 23 rfl 0 3 i0 (.int .i64 0) 1 8 Try.underlying23 HI0.out HZ.out.1 HZ.out.2.1 HZ.out.2.2 rfl (by decide) (.slice (some ⟨g, 0, none⟩) cn cp) cn (ys.map (Value.int .i64)) rfl ((O2.out.alloc _).row 0 (by simp) rfl) ⟨w2.heap.size, 0, none⟩ 1 1 [.int .i64 v2] rfl rfl (World.news_of_block (heap_alloc_new w2 _)) (by simp [Value.oneCell']) (by omega) (by unfold maxLen; omega) (by omega) (Nat.zero_le _) _ rfl ?_; intro g3 c3 w3 hown hgrow hat hlt; have O3 := Lib.hid ((O2.out.alloc (.cells #[.int .i64 v2] 3)).turn (i := 0) (by simp) rfl hgrow hown hat); have hcb := Lib.hid (owns_cap hown); clear hown hgrow hat hlt)
      go_roundw
      case rel =>
        refine ⟨m - 1, ys ++ [v2], g3, cn + 1, c3, k' + 1, by go_num, rfl, hcb.out.1, hcb.out.2, by omega, Lib.hid (by rw [List.length_append, HY.out]; rfl), Lib.hid ⟨?_, fun x hx => ?_⟩, by omega, by omega, Lib.hid ?_⟩
        · rw [List.length_append, HY.out]; simp; omega
        · rcases List.mem_append.1 hx with hx | hx
          · exact HSM.out.2 x hx
          · rw [List.mem_singleton.1 hx]; omega
        · have := O3.out
          simpa using this
      case measure => simp [intOf]; omega
    · have hm0' : m = 0 := by omega
      subst hm0'
      go_wp2_with fail
      refine (odd_any B R a len cap k' n _ HO.out.rd (by omega) hn (by omega)).mono ?_
      rintro e w2 ⟨b, rfl, hR2, hK2⟩
      have O2 := Lib.hid (HO.out.picked hR2 hK2)
      clear hR2 hK2 HO
      cases b with
      | false =>
        go_wp2
        go_ret
        refine ⟨ys, _, rfl, HSM.out, ?_, k' + 1, by omega, by omega, O2.out.rd, O2.out.keep⟩
        rw [HY.out]
        exact ownsRow_base (O2.out.row 0 (by simp) rfl) (fun j e => ((O2.out.ap.ltAt 0 (by simp)) j e).1)
      | true =>
        go_wp2_with fail
        have O5 := Lib.hid (((((O2.out.alloc (.cells #[] 3)).alloc (.cells #[.int .i64 31] 3)).alloc (.cells #[.int .i64 (-1), .int .i64 2] 3)).alloc (.cells #[.int .i64 0, .int .i64 0, .int .i64 0, .int .i64 0, .int .i64 0, .int .i64 0, .int .i64 0] 3)).alloc (.cells #[.slice (some ⟨w2.heap.size, 0, none⟩) 0 0, .slice (some ⟨w2.heap.size + 1, 0, none⟩) 1 1, .slice (some ⟨w2.heap.size + 1 + 1, 0, none⟩) 2 2, .slice (some ⟨w2.heap.size + 1 + 1 + 1, 0, none⟩) 7 7] 23))
        refine (pick_any B R a len cap (k' + 1) 4 _ O5.out.rd (by omega) (by omega) (by omega)).mono ?_
        rintro e w7 ⟨v7, rfl, h70, h71, hR7, hK7⟩
        have h71' := h71 (by omega)
        have hw2 : R < w2.heap.size := Nat.lt_of_lt_of_le HRR.out O2.out.size
        have hsz : w.heap.size ≤ w2.heap.size := O2.out.size
        have g0 : w7.heap[w2.heap.size]? = some (.cells #[] 3) := (hK7.block _ (by simp; omega) (by omega)).trans (alloc_old (alloc_old (alloc_old (alloc_old (alloc_at _ rfl)))))
        have g1 : w7.heap[w2.heap.size + 1]? = some (.cells #[.int .i64 31] 3) := (hK7.block _ (by simp) (by omega)).trans (alloc_old (alloc_old (alloc_old (alloc_at _ (by simp)))))
        have g2 : w7.heap[w2.heap.size + 1 + 1]? = some (.cells #[.int .i64 (-1), .int .i64 2] 3) := (hK7.block _ (by simp) (by omega)).trans (alloc_old (alloc_old (alloc_at _ (by simp))))
        have g3 : w7.heap[w2.heap.size + 1 + 1 + 1]? = some (.cells #[.int .i64 0, .int .i64 0, .int .i64 0, .int .i64 0, .int .i64 0, .int .i64 0, .int .i64 0] 3) := (hK7.block _ (by simp) (by omega)).trans (alloc_old (alloc_at _ (by simp)))
        have g4 : w7.heap[w2.heap.size + 1 + 1 + 1 + 1]? = some (.cells #[.slice (some ⟨w2.heap.size, 0, none⟩) 0 0, .slice (some ⟨w2.heap.size + 1, 0, none⟩) 1 1, .slice (some ⟨w2.heap.size + 1 + 1, 0, none⟩) 2 2, .slice (some ⟨w2.heap.size + 1 + 1 + 1, 0, none⟩) 7 7] 23) := (hK7.block _ (by simp) (by omega)).trans (alloc_at _ (by simp))
        have HKK := Lib.hid (O5.out.keep.trans hK7)
        have HRD := Lib.hid hR7
        have G := Lib.hid (And.intro g0 (And.intro g1 (And.intro g2 g3)))
        have c4 : ∀ j, w7.cell? ⟨w2.heap.size + 1 + 1 + 1 + 1, j, none⟩ = _ := fun j => cell_of_row w7 _ j _ _ (0, 0) g4
        have x0 := c4 0
        have x1 := c4 1
        have x2 := c4 2
        have x3 := c4 3
        simp only [List.getElem?_toArray, List.getElem?_cons_zero, List.getElem?_cons_succ] at x0 x1 x2 x3
        clear g0 g1 g2 g3 g4 c4 hK7 hR7 h71 O5
        have hv : v7 = 0 ∨ v7 = 1 ∨ v7 = 2 ∨ v7 = 3 := by omega
        rcases hv with rfl | rfl | rfl | rfl
        · go_wp2
          go_ret
          exact drawn_lit [] G.out.1 hsz ⟨by simp, fun x h => by cases h⟩ (by omega) (by omega) HRD.out HKK.out
        · go_wp2
          go_ret
          exact drawn_lit [31] G.out.2.1 (by omega) ⟨by simp, fun x h => by simp at h; omega⟩ (by omega) (by omega) HRD.out HKK.out
        · go_wp2
          go_ret
          exact drawn_lit [-1, 2] G.out.2.2.1 (by omega) ⟨by simp, fun x h => by simp at h; omega⟩ (by omega) (by omega) HRD.out HKK.out
        · go_wp2
          go_ret
          exact drawn_lit [0, 0, 0, 0, 0, 0, 0] G.out.2.2.2 (by omega) ⟨by simp, fun x h => by simp at h; omega⟩ (by omega) (by omega) HRD.out HKK.out

/-- a drawn row -/
def LoadsGot (w : World) (e : Ending) (w' : World) : Prop := ∃ (xs : List Int) (v : Value), e = .returned v ∧ SmallL xs ∧ w'.ownsRow w.heap.size 3 1 v xs.length (xs.map (Value.int .i64)) ∧ Below w.heap.size w w'

set_option maxHeartbeats 800000 in
theorem drawLoadsOk_any (a : Option Addr) (len cap : Nat) (zs : List Int) (w : World) (h : IsRow .u8 w a len cap zs) :
    Calls Try.prog 19 #[.slice a len cap] w (LoadsGot w) := by
  have HO := Lib.hid (l20Open_any a len cap zs _ h)
  clear h
  go_enter Try.func19, Try.ntmps19
  go_wp2_with fail
  refine HO.out.mono ?_
  clear HO
  rintro e w1 ⟨a1, len1, cap1, rfl, hR, hb1⟩
  go_wp2_with fail
  refine (l20Loads_any _ _ a1 len1 cap1 0 2 w1 hR (by omega) (by omega) (by omega)).mono ?_
  rintro e w2 ⟨xs, v, rfl, hs, ho, k', -, -, -, hK⟩
  have HQ := Lib.hid (hb1.trans (hK.below (Nat.le_refl _) hb1.size))
  have HW := Lib.hid (ownsRow_base ho (fun k e => Nat.le_trans hb1.size (World.ownsRow.lt ho k e).1))
  clear ho hK hR hb1
  go_wp2
  go_ret
  exact ⟨xs, v, rfl, hs, HW.out, HQ.out⟩

set_option maxHeartbeats 800000 in
theorem drawSortedLoads_any (a : Option Addr) (len cap : Nat) (zs : List Int) (w : World) (h : IsRow .u8 w a len cap zs) :
    Calls Try.prog 23 #[.slice a len cap] w (LoadsGot w) := by
  have HO := Lib.hid (l20Open_any a len cap zs _ h)
  clear h
  go_enter Try.func23, Try.ntmps23
  go_wp2_with fail
  refine HO.out.mono ?_
  clear HO
  rintro e w1 ⟨a1, len1, cap1, rfl, hR, hb1⟩
  go_wp2_with fail
  refine (l20Loads_any _ _ a1 len1 cap1 0 9 w1 hR (by omega) (by omega) (by omega)).mono ?_
  rintro e w2 ⟨xs, v, rfl, hs, ho, k', -, -, -, hK⟩
  have HQ := Lib.hid (hb1.trans (hK.below (Nat.le_refl _) hb1.size))
  have HW := Lib.hid (ownsRow_base ho (fun k e => Nat.le_trans hb1.size (World.ownsRow.lt ho k e).1))
  clear ho hK hR hb1
  go_wp2
  go_ret
  exact ⟨xs, v, rfl, hs, HW.out, HQ.out⟩

set_option maxHeartbeats 800000 in
theorem drawSpreadOf_any (a : Option Addr) (len cap : Nat) (zs : List Int) (w : World) (h : IsRow .u8 w a len cap zs) :
    Calls Try.prog 28 #[.slice a len cap] w (LoadsGot w) := by
  have HO := Lib.hid (l20Open_any a len cap zs _ h)
  clear h
  go_enter Try.func28, Try.ntmps28
  go_wp2_with fail
  refine HO.out.mono ?_
  clear HO
  rintro e w1 ⟨a1, len1, cap1, rfl, hR, hb1⟩
  go_wp2_with fail
  refine (l20Loads_any _ _ a1 len1 cap1 0 9 w1 hR (by omega) (by omega) (by omega)).mono ?_
  rintro e w2 ⟨xs, v, rfl, hs, ho, k', -, -, -, hK⟩
  have HQ := Lib.hid (hb1.trans (hK.below (Nat.le_refl _) hb1.size))
  have HW := Lib.hid (ownsRow_base ho (fun k e => Nat.le_trans hb1.size (World.ownsRow.lt ho k e).1))
  clear ho hK hR hb1
  go_wp2
  go_ret
  exact ⟨xs, v, rfl, hs, HW.out, HQ.out⟩

set_option maxHeartbeats 800000 in
theorem drawSquaresOf_any (a : Option Addr) (len cap : Nat) (zs : List Int) (w : World) (h : IsRow .u8 w a len cap zs) :
    Calls Try.prog 32 #[.slice a len cap] w (LoadsGot w) := by
  have HO := Lib.hid (l20Open_any a len cap zs _ h)
  clear h
  go_enter Try.func32, Try.ntmps32
  go_wp2_with fail
  refine HO.out.mono ?_
  clear HO
  rintro e w1 ⟨a1, len1, cap1, rfl, hR, hb1⟩
  go_wp2_with fail
  refine (l20Loads_any _ _ a1 len1 cap1 0 9 w1 hR (by omega) (by omega) (by omega)).mono ?_
  rintro e w2 ⟨xs, v, rfl, hs, ho, k', -, -, -, hK⟩
  have HQ := Lib.hid (hb1.trans (hK.below (Nat.le_refl _) hb1.size))
  have HW := Lib.hid (ownsRow_base ho (fun k e => Nat.le_trans hb1.size (World.ownsRow.lt ho k e).1))
  clear ho hK hR hb1
  go_wp2
  go_ret
  exact ⟨xs, v, rfl, hs, HW.out, HQ.out⟩

set_option maxHeartbeats 800000 in
theorem drawStepsToFair_any (a : Option Addr) (len cap : Nat) (zs : List Int) (w : World) (h : IsRow .u8 w a len cap zs) :
    Calls Try.prog 43 #[.slice a len cap] w (LoadsGot w) := by
  have HO := Lib.hid (l20Open_any a len cap zs _ h)
  clear h
  go_enter Try.func43, Try.ntmps43
  go_wp2_with fail
  refine HO.out.mono ?_
  clear HO
  rintro e w1 ⟨a1, len1, cap1, rfl, hR, hb1⟩
  go_wp2_with fail
  refine (l20Loads_any _ _ a1 len1 cap1 0 9 w1 hR (by omega) (by omega) (by omega)).mono ?_
  rintro e w2 ⟨xs, v, rfl, hs, ho, k', -, -, -, hK⟩
  have HQ := Lib.hid (hb1.trans (hK.below (Nat.le_refl _) hb1.size))
  have HW := Lib.hid (ownsRow_base ho (fun k e => Nat.le_trans hb1.size (World.ownsRow.lt ho k e).1))
  clear ho hK hR hb1
  go_wp2
  go_ret
  exact ⟨xs, v, rfl, hs, HW.out, HQ.out⟩
end Go.Proofs.Ythdpeholeelhdaa
