/- GivenOn of the program: the loads after a giving, in memory of the call's own. No condition. -/
import Derived.Test.YthdpeholeelhdaaLoadGivI
namespace Go.Proofs.Ythdpeholeelhdaa
open Go.RowKit

theorem cloneI_any (v : Value) (xs : List Int) (w : World) (h : IsInts w v xs) (h0 : 0 < xs.length) (hx : xs.length ≤ 6) :
    Calls Try.prog 66 #[v] w fun e w' => ∃ g cp, e = .returned (.slice (some ⟨g, 0, none⟩) xs.length cp) ∧ xs.length ≤ cp ∧ cp ≤ maxLen ∧ w'.ownsRow w.heap.size 3 1 (.slice (some ⟨g, 0, none⟩) xs.length cp) xs.length (xs.map (Value.int .i64)) ∧ Below w.heap.size w w' := by
  obtain ⟨a, cap, rfl, ha1, ha2, ha⟩ := h
  obtain ⟨g, off, rfl, hg, hc⟩ := ha.resolve_left (fun h => by rw [h] at h0; exact absurd h0 (Nat.not_lt_zero 0))
  refine (Any.slices_Clone_int shClone_lays g off xs.length cap xs w (Nat.le_refl _) (by omega) (fun j hj => by rw [hc j hj]; simp [List.getD, hj])).mono ?_
  rintro e w' ⟨v', rfl, ho, hn, hb⟩
  rw [List.take_length] at ho
  rcases ho.2 with ⟨rfl, _⟩ | ⟨g', cap', cur, rfl, _, _, h1, h2, _⟩
  · exact absurd rfl hn
  · exact ⟨g', cap', rfl, h1, h2, ho, hb⟩

theorem placeIn_any (v : Value) (xs : List Int) (p : Int) (w : World) (h : IsInts w v xs) :
    Calls Try.prog 65 #[v, .int .i64 p] w fun e w' => e = .returned (.bool (decide (0 ≤ p) && decide (p < xs.length))) ∧ w = w' := by
  obtain ⟨a, cap, rfl, ha1, ha2, ha⟩ := h
  unfold maxLen at ha2
  clear ha
  by_cases h0 : 0 ≤ p
  · by_cases h1 : p < xs.length
    · go_enter Try.func65, Try.ntmps65
      go_wp2
      go_ret
      exact ⟨by simp [h0, h1], rfl⟩
    · go_enter Try.func65, Try.ntmps65
      go_wp2
      go_ret
      exact ⟨by simp [h1], rfl⟩
  · go_enter Try.func65, Try.ntmps65
    go_wp2
    go_ret
    exact ⟨by simp; omega, rfl⟩

/-- what GivenOn leaves: the loads after the giving, or none -/
def GivPost (xs : List Int) (f t : Int) (w : World) (e : Ending) (w' : World) : Prop :=
  ∃ v, e = .returned (.tuple #[v, .bool (givOk xs f t)]) ∧ w'.ownsRow w.heap.size 3 1 v (givList xs f t).length ((givList xs f t).map (Value.int .i64)) ∧ Below w.heap.size w w'
theorem GivPost.no {xs : List Int} {f t : Int} {w w' : World} (h : givOk xs f t = false) (hb : Below w.heap.size w w') : GivPost xs f t w (.returned (.tuple #[.slice none 0 0, .bool false])) w' := by
  refine ⟨_, by rw [h], ?_, hb⟩
  have : givList xs f t = [] := by simp [givList, h]
  rw [this]
  exact World.ownsRow_nil _ _ _ _
theorem GivPost.empty {xs : List Int} {f t : Int} {w W : World} (h : givOk xs f t = false) (hb : Below w.heap.size w W) : GivPost xs f t w (.returned (.tuple #[.slice (some ⟨W.heap.size, 0, none⟩) 0 0, .bool false])) (W.alloc (.cells #[] 3)) := by
  refine ⟨_, by rw [h], ?_, hb.alloc hb.size _⟩
  have : givList xs f t = [] := by simp [givList, h]
  rw [this]
  exact World.ownsRow_lit (base := w.heap.size) W #[] 0 hb.size (Nat.zero_le _) rfl
theorem givOk_a {xs : List Int} {f t : Int} (h : loadsOk xs = false) : givOk xs f t = false := by simp [givOk, h]
theorem givOk_b {xs : List Int} {f t : Int} (h : f = t) : givOk xs f t = false := by simp [givOk, h]
theorem givOk_c {xs : List Int} {f t : Int} (h : (decide (0 ≤ f) && decide (f < xs.length)) = false) : givOk xs f t = false := by simp [givOk, h]
theorem givOk_d {xs : List Int} {f t : Int} (h : (decide (0 ≤ t) && decide (t < xs.length)) = false) : givOk xs f t = false := by simp [givOk, h]
theorem givOk_e {xs : List Int} {f t : Nat} (h : loadsOk xs = true) (hf : f < xs.length) (ht : t < xs.length) (hne : f ≠ t) : givOk xs f t = loadsOk (givRow xs f t) := by
  have hne' : ¬ (f : Int) = t := by omega
  simp [givOk, h, hf, ht, hne']
/-- the two stores, one after the other -/
theorem giv_set (xs : List Int) (f t : Nat) (hf : f < xs.length) (ht : t < xs.length) (hne : f ≠ t) : (xs.set f (xs[f] - 1)).set t (xs[t] + 1) = givRow xs f t := by
  have e1 : xs.getD f 0 = xs[f] := by simp [List.getD, hf]
  have e2 : (xs.set f (xs[f] - 1)).getD t 0 = xs[t] := by simp [List.getD, ht, hne]
  unfold givRow
  rw [e1, e2]

set_option maxHeartbeats 3200000 in
theorem implGivenOn_any (v : Value) (xs : List Int) (f t : Int) (w : World) (h : IsInts w v xs) :
    Calls Try.prog 39 #[v, .int .i64 f, .int .i64 t] w (GivPost xs f t w) := by
  have HOK := Lib.hid (implLoadsOk_any v xs w h)
  have H := Lib.hid h
  obtain ⟨a, cap, rfl⟩ : ∃ a cap, v = .slice a xs.length cap := by obtain ⟨a, cap, rfl, _⟩ := h; exact ⟨a, cap, rfl⟩
  clear h
  cases hb : loadsOk xs with
  | false =>
    have HN := Lib.hid (givOk_a (f := f) (t := t) hb)
    rw [hb] at HOK
    clear hb
    go_enter Try.func39, Try.ntmps39
    go_wp2_with (go_at_call 20; refine HOK.out.mono ?_; rintro e w' ⟨rfl, n, rfl⟩)
    go_ret2
    exact GivPost.no HN.out (below_drewN (Below.refl _ _) n)
  | true =>
    rw [hb] at HOK
    have HL := Lib.hid (loadsOk_iff.1 hb)
    by_cases hft : f = t
    · have HN := Lib.hid (givOk_b (xs := xs) hft)
      have hft' : (f == t) = true := by simp [hft]
      clear hft hb
      go_enter Try.func39, Try.ntmps39
      go_wp2_with (go_at_call 20; refine HOK.out.mono ?_; rintro e w' ⟨rfl, n, rfl⟩)
      go_ret2
      exact GivPost.no HN.out (below_drewN (Below.refl _ _) n)
    · have hft' : (f == t) = false := by simp [hft]
      have HNE := Lib.hid hft
      clear hft
      go_enter Try.func39, Try.ntmps39
      go_wp2_with fail
      refine HOK.out.mono ?_
      rintro e w1 ⟨rfl, n, rfl⟩
      have HB := Lib.hid (below_drewN (Below.refl w.heap.size w) n)
      generalize w.drewN n = w1 at HB ⊢
      have HP1 := Lib.hid (placeIn_any _ xs f w1 (H.out.below HB.out))
      have HP2 := Lib.hid (placeIn_any _ xs t w1 (H.out.below HB.out))
      go_wp2_with fail
      refine HP1.out.mono ?_
      clear HP1 HOK
      rintro e w2 ⟨rfl, rfl⟩
      cases hc : (decide (0 ≤ f) && decide (f < xs.length)) with
      | false =>
        have HN := Lib.hid (givOk_c (t := t) hc)
        clear hc hb
        go_wp2
        go_ret2
        exact GivPost.no HN.out HB.out
      | true =>
        have hf : 0 ≤ f ∧ f < xs.length := by simpa using hc
        clear hc
        go_wp2_with fail
        refine HP2.out.mono ?_
        clear HP2
        rintro e w2 ⟨rfl, rfl⟩
        cases hd : (decide (0 ≤ t) && decide (t < xs.length)) with
        | false =>
          have HN := Lib.hid (givOk_d (f := f) hd)
          clear hd hb
          go_wp2
          go_ret2
          exact GivPost.no HN.out HB.out
        | true =>
          have ht : 0 ≤ t ∧ t < xs.length := by simpa using hd
          clear hd
          obtain ⟨F, rfl⟩ : ∃ F : Nat, f = F := ⟨f.toNat, by omega⟩
          obtain ⟨T, rfl⟩ : ∃ T : Nat, t = T := ⟨t.toNat, by omega⟩
          have hF : F < xs.length := by omega
          have hT : T < xs.length := by omega
          have hne : F ≠ T := fun e => HNE.out (by rw [e])
          have HG := Lib.hid (givOk_e hb hF hT hne)
          have HC := Lib.hid (cloneI_any _ xs w1 (H.out.below HB.out) (by omega) HL.out.2.1)
          clear hb
          go_wp2_with fail
          refine HC.out.mono ?_
          clear HC
          rintro e w2 ⟨g, cp, rfl, hcp1, hcp2, ho, hbl⟩
          have h6 := HL.out.2.1
          have c1 : w2.cell? ⟨g, F, none⟩ = some (.int .i64 xs[F]) := by rw [ho.cellAt F (by omega)]; simp [hF]
          have c2 : w2.cell? ⟨g, T, none⟩ = some (.int .i64 xs[T]) := by rw [ho.cellAt T (by omega)]; simp [hT]
          have f1 := ho.frozenAt F
          have f2 := ho.frozenAt T
          have d1 := HL.out.2.2 xs[F] (List.getElem_mem hF)
          have d2 := HL.out.2.2 xs[T] (List.getElem_mem hT)
          have hg := (World.ownsRow.lt ho g rfl)
          have s1 := ho.stored F (.int .i64 (xs[F] - 1))
          have s2 := s1.1.stored T (.int .i64 (xs[T] + 1))
          rw [← List.map_set, ← List.map_set, giv_set xs F T hF hT hne] at s2
          have HO := Lib.hid s2.1
          have HB2 := Lib.hid (((HB.out.trans (hbl.mono HB.out.size)).setCell (p := ⟨g, F, none⟩) (Nat.le_trans HB.out.size hg.1) (.int .i64 (xs[F] - 1))).setCell (p := ⟨g, T, none⟩) (Nat.le_trans HB.out.size hg.1) (.int .i64 (xs[T] + 1)))
          have HGL : Hid (givList xs F T = if loadsOk (givRow xs F T) = true then givRow xs F T else []) := by
            have : givList xs F T = if loadsOk (givRow xs F T) = true then givRow xs F T else [] := by unfold givList; rw [HG.out]; simp
            exact Lib.hid this
          have HRL := Lib.hid (givRow_length xs F T)
          have hn2 : g ≠ g ∨ F ≠ T := .inr hne
          have hmx : xs.length ≤ 9223372036854775807 := by omega
          unfold maxLen at hcp2
          generalize xs[F] = x1 at *
          generalize xs[T] = x2 at *
          have HI : Hid (IsInts ((w2.setCell ⟨g, F, none⟩ (.int .i64 (x1 - 1))).setCell ⟨g, T, none⟩ (.int .i64 (x2 + 1))) (.slice (some ⟨g, 0, none⟩) xs.length cp) (givRow xs F T)) := by
            have : IsInts ((w2.setCell ⟨g, F, none⟩ (.int .i64 (x1 - 1))).setCell ⟨g, T, none⟩ (.int .i64 (x2 + 1))) (.slice (some ⟨g, 0, none⟩) xs.length cp) (givRow xs F T) := by
              refine IsInts.of_owns (base := w1.heap.size) (e := 3) ?_
              rw [HRL.out]
              exact HO.out
            exact Lib.hid this
          have HK := Lib.hid (implLoadsOk_any _ _ _ HI.out)
          clear ho hbl s1 s2
          cases hlo : loadsOk (givRow xs F T) with
          | false =>
            have HN : Hid (givOk xs F T = false) := by
              have : givOk xs F T = false := HG.out.trans hlo
              exact Lib.hid this
            rw [hlo] at HK
            clear hlo
            go_wp2_with (go_at_call 20; refine HK.out.mono ?_; rintro e w' ⟨rfl, n, rfl⟩)
            go_ret2
            exact GivPost.no HN.out (below_drewN HB2.out n)
          | true =>
            have HN : Hid (givOk xs F T = true) := by
              have : givOk xs F T = true := HG.out.trans hlo
              exact Lib.hid this
            rw [hlo] at HK HGL
            clear hlo
            go_wp2_with (go_at_call 20; refine HK.out.mono ?_; rintro e w' ⟨rfl, n, rfl⟩)
            go_ret2
            refine ⟨_, by rw [HN.out]; rfl, ?_, below_drewN HB2.out n⟩
            have e1 : givList xs F T = givRow xs F T := by rw [HGL.out]; rfl
            rw [e1, HRL.out]
            exact ownsRow_base HO.out (fun k e => Nat.le_trans HB.out.size (by
              cases e; exact hg.1))
end Go.Proofs.Ythdpeholeelhdaa
