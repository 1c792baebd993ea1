/- What FnFairerOk draws: two rows. No condition. -/
import Derived.Test.YthdpeholeelhdaaLawLoad
import Derived.Test.YthdpeholeelhdaaLoadSpec2
namespace Go.Proofs.Ythdpeholeelhdaa
open Go.RowKit

theorem GivPost.yes2 {xs : List Int} {f t : Int} {w w' : World} {e : Ending} (h : GivPost xs f t w e w') (hg : givOk xs f t = true) : ∃ v, e = .returned (.tuple #[v, .bool true]) ∧ w'.ownsRow w.heap.size 3 1 v (givRow xs f.toNat t.toNat).length ((givRow xs f.toNat t.toNat).map (Value.int .i64)) ∧ Below w.heap.size w w' := by
  obtain ⟨v, he, ho, hb⟩ := h
  have e1 : givList xs f t = givRow xs f.toNat t.toNat := by simp [givList, hg]
  rw [hg] at he
  rw [e1] at ho
  exact ⟨v, he, ho, hb⟩
theorem GivPost.none2 {xs : List Int} {f t : Int} {w w' : World} {e : Ending} (h : GivPost xs f t w e w') (hg : givOk xs f t = false) : ∃ v, e = .returned (.tuple #[v, .bool false]) ∧ Below w.heap.size w w' := by
  obtain ⟨v, he, ho, hb⟩ := h
  rw [hg] at he
  exact ⟨v, he, hb⟩
theorem owns_far {w w' : World} {base : Nat} {v : Value} {xs : List Int} (h : w.ownsRow base 3 1 v xs.length (xs.map (Value.int .i64))) (hb : Below w.heap.size w w') : w'.ownsRow base 3 1 v xs.length (xs.map (Value.int .i64)) := by
  refine ⟨h.1, h.2.imp id ?_⟩
  rintro ⟨g, cap, cur, rfl, h1, h2, h3⟩
  exact ⟨g, cap, cur, rfl, h1, (hb.block g (World.ownsRow.lt h g rfl).2).trans h2, h3⟩
theorem owns_from {w : World} {base base' : Nat} {v : Value} {xs : List Int} (h : w.ownsRow base 3 1 v xs.length (xs.map (Value.int .i64))) (hb : base' ≤ base) : w.ownsRow base' 3 1 v xs.length (xs.map (Value.int .i64)) :=
  ownsRow_base h (fun k e => Nat.le_trans hb (World.ownsRow.lt h k e).1)
/-- two drawn rows -/
def RowsGot (w : World) (e : Ending) (w' : World) : Prop := ∃ (xs ys : List Int) (v u : Value), e = .returned (.tuple #[v, u]) ∧ SmallL xs ∧ SmallL ys ∧ w'.ownsRow w.heap.size 3 1 v xs.length (xs.map (Value.int .i64)) ∧ w'.ownsRow w.heap.size 3 1 u ys.length (ys.map (Value.int .i64)) ∧ Below w.heap.size w w'
/-- what the loop keeps: the reader, the first row, the second row -/
structure TwoRows (R0 : Nat) (a : Option Addr) (len cap k : Nat) (w1 : World) (v : Value) (xs : List Int) (u : Value) (ys : List Int) (W : World) : Prop where
  rd : RdAt R0 R0 a len cap k W
  keep : KeepsBut R0 w1 W
  one : W.ownsRow w1.heap.size 3 1 v xs.length (xs.map (Value.int .i64))
  two : W.ownsRow w1.heap.size 3 1 u ys.length (ys.map (Value.int .i64))
section
variable {R0 : Nat} {a : Option Addr} {len cap k : Nat} {w1 : World} {v : Value} {xs : List Int} {u : Value} {ys : List Int} {W W' : World}
theorem TwoRows.below (h : TwoRows R0 a len cap k w1 v xs u ys W) (hb : Below W.heap.size W W') : TwoRows R0 a len cap k w1 v xs u ys W' :=
  ⟨h.rd.keeps hb, h.keep.trans (KeepsBut.of_below hb), owns_far h.one hb, owns_far h.two hb⟩
theorem TwoRows.picked {k' : Nat} (h : TwoRows R0 a len cap k w1 v xs u ys W) (hR : R0 < w1.heap.size) (hr : RdAt R0 R0 a len cap k' W') (hk : KeepsBut R0 W W') : TwoRows R0 a len cap k' w1 v xs u ys W' :=
  ⟨hr, h.keep.trans hk, owns_keeps h.one hk hR, owns_keeps h.two hk hR⟩
theorem TwoRows.next {u' : Value} {ys' : List Int} (h : TwoRows R0 a len cap k w1 v xs u ys W) (hb : Below W.heap.size W W') (ho : W'.ownsRow W.heap.size 3 1 u' ys'.length (ys'.map (Value.int .i64))) : TwoRows R0 a len cap k w1 v xs u' ys' W' :=
  ⟨(h.below hb).rd, (h.below hb).keep, (h.below hb).one, owns_from ho h.keep.size⟩
end

set_option maxHeartbeats 6400000 in
theorem drawFairerOk_any (a : Option Addr) (len cap : Nat) (zs : List Int) (w : World) (h : IsRow .u8 w a len cap zs) :
    Calls Try.prog 35 #[.slice a len cap] w (RowsGot w) := by
  have HO := Lib.hid (l20Open_any a len cap zs _ h)
  clear h
  go_enter Try.func35, Try.ntmps35
  go_wp2_with fail
  refine HO.out.mono ?_
  clear HO
  rintro e w1 ⟨a1, len1, cap1, rfl, hR, hb1⟩
  have hRR := hR.hR
  have HB1 := Lib.hid hb1
  go_wp2_with fail
  refine (l20Loads_any _ _ a1 len1 cap1 0 12 w1 hR (by omega) (by omega) (by omega)).mono ?_
  rintro e w2 ⟨xs, v, rfl, hs, ho, k', hk0, hk1, hR2, hK2⟩
  obtain ⟨b, c, rfl, hc1, hc2, hI2⟩ := drawn_form ho
  have hx7 := hs.1
  have HS := Lib.hid hs
  have HIS : Hid (IsInts w2 (.slice b xs.length c) xs) := Lib.hid hI2
  have O1 := Lib.hid ((Own.nil w2).lit 3 #[] 0 rfl (Nat.zero_le _))
  have HSRC : Hid (SrcI (w2.alloc (.cells #[] 3)) b xs) := by
    have : SrcI (w2.alloc (.cells #[] 3)) b xs := by
      obtain ⟨a', c', e, _, _, hc⟩ := hI2
      simp only [Value.slice.injEq] at e
      obtain ⟨rfl, _, rfl⟩ := e
      rcases hc with rfl | ⟨g, off, rfl, hg, hc⟩
      · exact .inl rfl
      · exact SrcI.below hc hg ((Below.refl _ _).alloc (Nat.le_refl _) _)
    exact Lib.hid this
  have HPK := Lib.hid (And.intro ho (And.intro hR2 hK2))
  clear hs hI2 ho hR2 hK2 hR hb1
  go_wp2_with (at_builtin; refine wpList_append_I rfl _ _ rfl O1.out 0 (by simp) w2.heap.size 0 0 [] rfl rfl xs xs.length rfl b c rfl HSRC.out (by omega) (by omega) xs.length (Nat.zero_add _) ?_; intro g c1 w3 O2' hc31 hm1; have O2 := Lib.hid O2'; clear O2')
  have T3 : Hid (TwoRows w.heap.size a1 len1 cap1 k' w1 (.slice b xs.length c) xs (.slice (some ⟨g, 0, none⟩) xs.length c1) xs w3) := by
    have hb := O2.out.keep
    exact Lib.hid ⟨HPK.out.2.1.keeps hb, HPK.out.2.2.trans (KeepsBut.of_below hb), owns_far (owns_from HPK.out.1 (Nat.le_refl _)) hb, owns_from (ownsRow_base (O2.out.row 0 (by simp) rfl) (fun j e => ((O2.out.ap.ltAt 0 (by simp)) j e).1)) HPK.out.2.2.size⟩
  clear O1 O2 HSRC HPK
  refine (pick_any _ _ a1 len1 cap1 k' 4 w3 T3.out.rd (by omega) (by omega) (by omega)).mono ?_
  rintro e w4 ⟨v4, rfl, h40, h41, hR4, hK4⟩
  have h41' := h41 (by omega)
  have T4 := Lib.hid (T3.out.picked hRR hR4 hK4)
  clear hR4 hK4 h41 T3
  obtain ⟨m0, rfl⟩ := Int.eq_ofNat_of_zero_le h40
  go_wp2_with fail
  go_loopw [6, 7, 8, 9] (fun s i _ _ wr => ∃ (m k2 : Nat) (ys : List Int) (ba : Option Addr) (bc : Nat), i = .int .i64 m ∧ s = .slice ba ys.length bc ∧ m ≤ 3 ∧ k2 + 2 * m ≤ k' + 8 ∧ ys.length ≤ bc ∧ bc ≤ 9223372036854775807 ∧ Hid (SmallL ys) ∧ Hid (TwoRows w.heap.size a1 len1 cap1 k2 w1 (.slice b xs.length c) xs (.slice ba ys.length bc) ys wr)) (fun _ i _ _ _ => (intOf i).toNat)
  case atStart => exact ⟨m0, k' + 1, xs, _, _, rfl, rfl, by omega, by omega, by omega, by omega, HS, T4⟩
  case round =>
    obtain ⟨m, k2, ys, ba, bc, rfl, rfl, hm, hk2, hbc1, hbc2, HSY, HT⟩ := hrel
    clear T4
    have hy7 := HSY.out.1
    have HDONE : Hid (∀ (k3 : Nat) (W : World), k3 ≤ 100000 → TwoRows w.heap.size a1 len1 cap1 k3 w1 (.slice b xs.length c) xs (.slice ba ys.length bc) ys W → RowsGot w (.returned (.tuple #[.slice b xs.length c, .slice ba ys.length bc])) W) := by
      have : ∀ (k3 : Nat) (W : World), k3 ≤ 100000 → TwoRows w.heap.size a1 len1 cap1 k3 w1 (.slice b xs.length c) xs (.slice ba ys.length bc) ys W → RowsGot w (.returned (.tuple #[.slice b xs.length c, .slice ba ys.length bc])) W := fun k3 W _ hT =>
        ⟨xs, ys, _, _, rfl, HS.out, HSY.out, owns_from hT.one HB1.out.size, owns_from hT.two HB1.out.size, HB1.out.trans (hT.keep.below (Nat.le_refl _) HB1.out.size)⟩
      exact Lib.hid this
    by_cases hm0 : 0 < m
    · go_wp2_with fail
      refine (specLoadsOk_c _ ys wr (IsInts.of_owns HT.out.two)).mono ?_
      rintro e w5 ⟨rfl, hb5⟩
      have T5 := Lib.hid (HT.out.below hb5)
      clear hb5 HT
      cases hok : loadsOk ys with
      | false =>
        clear hok
        go_wp2_with fail
        refine (odd_any _ _ a1 len1 cap1 k2 9 w5 T5.out.rd (by omega) (by omega) (by omega)).mono ?_
        rintro e w10 ⟨bb, rfl, hR8, hK8⟩
        have T10 := Lib.hid (T5.out.picked hRR hR8 hK8)
        clear hR8 hK8
        cases bb with
        | false =>
          go_wp2
          go_ret2
          exact HDONE.out (k2 + 1) _ (by omega) T10.out
        | true =>
          go_wp2_with fail
          refine (l20Loads_any _ _ a1 len1 cap1 (k2 + 1) 9 w10 T10.out.rd (by omega) (by omega) (by omega)).mono ?_
          rintro e w11 ⟨us, uv, rfl, hus, hou, k9, -, -, -, hK9⟩
          have HB9 := Lib.hid (HB1.out.trans ((T10.out.keep.trans hK9).below (Nat.le_refl _) HB1.out.size))
          have HO9 := Lib.hid (owns_from (owns_keeps T10.out.one hK9 hRR) HB1.out.size)
          have HU9 := Lib.hid (owns_from hou (Nat.le_trans HB1.out.size T10.out.keep.size))
          have HUS := Lib.hid hus
          clear hou hK9 hus
          go_wp2
          go_ret2
          exact ⟨xs, us, _, uv, rfl, HS.out, HUS.out, HO9.out, HU9.out, HB9.out⟩
      | true =>
        have h1 := (loadsOk_iff.1 hok).1
        clear hok
        go_wp2_with fail
        refine (pick_any _ _ a1 len1 cap1 k2 _ w5 T5.out.rd (by omega) (by omega) (by omega)).mono ?_
        rintro e w6 ⟨p1, rfl, h60, h61, hR6, hK6⟩
        have T6 := Lib.hid (T5.out.picked hRR hR6 hK6)
        clear hR6 hK6 T5
        go_wp2_with fail
        refine (pick_any _ _ a1 len1 cap1 (k2 + 1) _ w6 T6.out.rd (by omega) (by omega) (by omega)).mono ?_
        rintro e w7 ⟨p2, rfl, h70, h71, hR7, hK7⟩
        have T7 := Lib.hid (T6.out.picked hRR hR7 hK7)
        clear hR7 hK7 T6 h61 h71
        go_wp2_with fail
        refine (specGivenOn_any _ ys p1 p2 w7 (IsInts.of_owns T7.out.two)).mono ?_
        rintro e w8 hgp
        cases hg : givOk ys p1 p2 with
        | true =>
          obtain ⟨v8, rfl, ho8, hb8⟩ := hgp.yes2 hg
          obtain ⟨b8, c8, rfl, h81, h82, -⟩ := drawn_form ho8
          have T8 := Lib.hid (T7.out.next hb8 ho8)
          have hgg := (givOk_iff.1 hg).2.2.2.2
          have HSG : Hid (SmallL (givRow ys p1.toNat p2.toNat)) := by
            have h3 := loadsOk_iff.1 hgg
            exact Lib.hid ⟨by omega, fun x hx => by have := h3.2.2 x hx; omega⟩
          clear ho8 hb8 hgp hg hgg T7
          generalize givRow ys p1.toNat p2.toNat = us at *
          go_wp2
          go_roundw
          case rel => exact ⟨m - 1, k2 + 2, us, b8, c8, by go_num, rfl, by omega, by omega, h81, h82, HSG, T8⟩
          case measure => simp [intOf]; omega
        | false =>
          obtain ⟨v8, rfl, hb8⟩ := hgp.none2 hg
          have T8 := Lib.hid (T7.out.below hb8)
          clear hb8 hgp hg T7
          go_wp2
          go_roundw
          case rel => exact ⟨m - 1, k2 + 2, ys, ba, bc, by go_num, rfl, by omega, by omega, hbc1, hbc2, HSY, T8⟩
          case measure => simp [intOf]; omega
    · have hm00 : m = 0 := by omega
      subst hm00
      go_wp2_with fail
      refine (odd_any _ _ a1 len1 cap1 k2 9 wr HT.out.rd (by omega) (by omega) (by omega)).mono ?_
      rintro e w10 ⟨bb, rfl, hR8, hK8⟩
      have T10 := Lib.hid (HT.out.picked hRR hR8 hK8)
      clear hR8 hK8
      cases bb with
      | false =>
        go_wp2
        go_ret2
        exact HDONE.out (k2 + 1) _ (by omega) T10.out
      | true =>
        go_wp2_with fail
        refine (l20Loads_any _ _ a1 len1 cap1 (k2 + 1) 9 w10 T10.out.rd (by omega) (by omega) (by omega)).mono ?_
        rintro e w11 ⟨us, uv, rfl, hus, hou, k9, -, -, -, hK9⟩
        have HB9 := Lib.hid (HB1.out.trans ((T10.out.keep.trans hK9).below (Nat.le_refl _) HB1.out.size))
        have HO9 := Lib.hid (owns_from (owns_keeps T10.out.one hK9 hRR) HB1.out.size)
        have HU9 := Lib.hid (owns_from hou (Nat.le_trans HB1.out.size T10.out.keep.size))
        have HUS := Lib.hid hus
        clear hou hK9 hus
        go_wp2
        go_ret2
        exact ⟨xs, us, _, uv, rfl, HS.out, HUS.out, HO9.out, HU9.out, HB9.out⟩
end Go.Proofs.Ythdpeholeelhdaa
