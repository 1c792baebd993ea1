/- What the laws of chapter 10 draw, behind the code's opening: DrawRosterOk, DrawNeedsOk, DrawDayOf, DrawRowsExchanged. No condition. -/
import Derived.Test.YtlbblfbiiceofaaRostDraw
namespace Go.Proofs.Ytlbblfbiiceofaa
open Go.RowKit

theorem drawnR_form {w : World} {base : Nat} {v : Value} {xs : List ByteArray} (h : w.ownsRow base 9 1 v xs.length (xs.map Value.string)) : ∃ a c, v = .slice a xs.length c ∧ xs.length ≤ c ∧ c ≤ 9223372036854775807 ∧ IsStrs w (.slice a xs.length c) xs := by
  have hI := IsStrs.of_owns h
  obtain ⟨a, c, rfl, h1, h2⟩ := hI.form
  exact ⟨a, c, rfl, h1, h2, hI⟩
/-- a drawn roster -/
def RostGot (w : World) (e : Ending) (w' : World) : Prop := ∃ (xs : List ByteArray) (v : Value), e = .returned v ∧ SmallR xs ∧ w'.ownsRow w.heap.size 9 1 v xs.length (xs.map Value.string) ∧ Below w.heap.size w w'

set_option maxHeartbeats 800000 in
theorem drawRosterOk_any (a : Option Addr) (len cap : Nat) (zs : List Int) (w : World) (h : IsRow .u8 w a len cap zs) :
    Calls Try.prog 17 #[.slice a len cap] w (RostGot w) := by
  have HO := Lib.hid (l20Open_any a len cap zs _ h)
  clear h
  go_enter Try.func17, Try.ntmps17
  go_wp2_with fail
  refine HO.out.mono ?_
  clear HO
  rintro e w1 ⟨a1, len1, cap1, rfl, hR, hb1⟩
  go_wp2_with fail
  refine (l20Roster_any _ _ a1 len1 cap1 0 2 w1 hR (by omega) (by omega) (by omega)).mono ?_
  rintro e w2 ⟨xs, v, rfl, hs, ho, k', -, -, -, hK⟩
  have HQ := Lib.hid (hb1.trans (hK.below (Nat.le_refl _) hb1.size))
  have HW := Lib.hid (ownsRow_base ho (fun k e => Nat.le_trans hb1.size (World.ownsRow.lt ho k e).1))
  clear ho hK hR hb1
  go_wp2
  go_ret
  exact ⟨xs, v, rfl, hs, HW.out, HQ.out⟩

/-- a drawn roster and a day -/
def DayGotR (w : World) (e : Ending) (w' : World) : Prop := ∃ (xs : List ByteArray) (v : Value) (d : Int), e = .returned (.tuple #[v, .int .i64 d]) ∧ SmallR xs ∧ -1 ≤ d ∧ d ≤ 7 ∧ w'.ownsRow w.heap.size 9 1 v xs.length (xs.map Value.string) ∧ Below w.heap.size w w'

set_option maxHeartbeats 1600000 in
theorem drawDayOf_any (a : Option Addr) (len cap : Nat) (zs : List Int) (w : World) (h : IsRow .u8 w a len cap zs) :
    Calls Try.prog 24 #[.slice a len cap] w (DayGotR w) := by
  have HO := Lib.hid (l20Open_any a len cap zs _ h)
  clear h
  go_enter Try.func24, Try.ntmps24
  go_wp2_with fail
  refine HO.out.mono ?_
  clear HO
  rintro e w1 ⟨a1, len1, cap1, rfl, hR, hb1⟩
  have B1 := Lib.hid hb1
  have HRL := Lib.hid hR.hR
  clear hb1
  go_wp2_with fail
  refine (l20Roster_any _ _ a1 len1 cap1 0 9 w1 hR (by omega) (by omega) (by omega)).mono ?_
  rintro e w2 ⟨xs, v, rfl, hs, ho, k', hk1, hk2, hR2, hK2⟩
  obtain ⟨av, cv, rfl, hc1, hc2, -⟩ := drawnR_form ho
  have O2 := Lib.hid ho
  have K2 := Lib.hid hK2
  clear ho hK2 hR
  go_wp2_with fail
  refine (pick_any _ _ a1 len1 cap1 k' 8 w2 hR2 (by omega) (by omega) (by omega)).mono ?_
  rintro e w3 ⟨p, rfl, hp0, hp1, hR3, hK3⟩
  have hp8 := hp1 (by omega)
  have O3 := Lib.hid (owns_keepsR O2.out hK3 HRL.out)
  have K3 := Lib.hid (K2.out.trans hK3)
  clear hp1 hK3 hR2
  go_wp2_with fail
  refine (pick_any _ _ a1 len1 cap1 (k' + 1) 20 w3 hR3 (by omega) (by omega) (by omega)).mono ?_
  rintro e w4 ⟨q, rfl, hq0, hq1, hR4, hK4⟩
  have hq20 := hq1 (by omega)
  have O4 := Lib.hid (owns_keepsR O3.out hK4 HRL.out)
  have K4 := Lib.hid (K3.out.trans hK4)
  have hr1 : q.tdiv 19 = q / 19 := Int.tdiv_eq_ediv_of_nonneg hq0
  clear hq1 hK4 hR4 hR3
  have HW := Lib.hid (ownsRow_base (B := w.heap.size) O4.out (fun k e => Nat.le_trans B1.out.size (World.ownsRow.lt O4.out k e).1))
  have HQ := Lib.hid (B1.out.trans (K4.out.below (Nat.le_refl _) B1.out.size))
  go_wp2_with fail
  go_ret2
  exact ⟨xs, _, p - q / 19, rfl, hs, by omega, by omega, HW.out, HQ.out⟩

/-- a drawn roster and two places -/
def ExGot (w : World) (e : Ending) (w' : World) : Prop := ∃ (xs : List ByteArray) (v : Value) (f t : Int), e = .returned (.tuple #[v, .int .i64 f, .int .i64 t]) ∧ SmallR xs ∧ -1 ≤ f ∧ f ≤ 7 ∧ -1 ≤ t ∧ t ≤ 7 ∧ w'.ownsRow w.heap.size 9 1 v xs.length (xs.map Value.string) ∧ Below w.heap.size w w'

set_option maxHeartbeats 1600000 in
theorem drawRowsExchanged_any (a : Option Addr) (len cap : Nat) (zs : List Int) (w : World) (h : IsRow .u8 w a len cap zs) :
    Calls Try.prog 40 #[.slice a len cap] w (ExGot w) := by
  have HO := Lib.hid (l20Open_any a len cap zs _ h)
  clear h
  go_enter Try.func40, Try.ntmps40
  go_wp2_with fail
  refine HO.out.mono ?_
  clear HO
  rintro e w1 ⟨a1, len1, cap1, rfl, hR, hb1⟩
  have B1 := Lib.hid hb1
  have HRL := Lib.hid hR.hR
  clear hb1
  go_wp2_with fail
  refine (l20Roster_any _ _ a1 len1 cap1 0 9 w1 hR (by omega) (by omega) (by omega)).mono ?_
  rintro e w2 ⟨xs, v, rfl, hs, ho, k', hk1, hk2, hR2, hK2⟩
  obtain ⟨av, cv, rfl, hc1, hc2, -⟩ := drawnR_form ho
  have O2 := Lib.hid ho
  have K2 := Lib.hid hK2
  have hl5 := hs.1
  have hmax : max (xs.length : Int) 1 = ((max xs.length 1 : Nat) : Int) := by omega
  have HM : Hid (1 ≤ max xs.length 1 ∧ max xs.length 1 ≤ 5) := by
    have : 1 ≤ max xs.length 1 ∧ max xs.length 1 ≤ 5 := by omega
    exact Lib.hid this
  clear ho hK2 hR
  go_wp2_with fail
  refine (pick_any _ _ a1 len1 cap1 k' ((xs.length : Int) + 1) w2 hR2 (by omega) (by omega) (by omega)).mono ?_
  rintro e w3 ⟨p, rfl, hp0, hp1, hR3, hK3⟩
  have hp8 := hp1 (by omega)
  have O3 := Lib.hid (owns_keepsR O2.out hK3 HRL.out)
  have K3 := Lib.hid (K2.out.trans hK3)
  clear hp1 hK3 hR2
  go_wp2_with fail
  refine (pick_any _ _ a1 len1 cap1 (k' + 1) _ w3 hR3 (by omega) (by omega) (by omega)).mono ?_
  rintro e w4 ⟨q, rfl, hq0, hq1, hR4, hK4⟩
  have hq20 := hq1 (by omega)
  have O4 := Lib.hid (owns_keepsR O3.out hK4 HRL.out)
  have K4 := Lib.hid (K3.out.trans hK4)
  clear hq1 hK4 hR3
  go_wp2_with fail
  refine (pick_any _ _ a1 len1 cap1 (k' + 1 + 1) 40 w4 hR4 (by omega) (by omega) (by omega)).mono ?_
  rintro e w5 ⟨r, rfl, hr0, hr1, hR5, hK5⟩
  have hr40 := hr1 (by omega)
  have O5 := Lib.hid (owns_keepsR O4.out hK5 HRL.out)
  have K5 := Lib.hid (K4.out.trans hK5)
  have hrd : r.tdiv 39 = r / 39 := Int.tdiv_eq_ediv_of_nonneg hr0
  clear hr1 hK5 hR5 hR4
  have HW := Lib.hid (ownsRow_base (B := w.heap.size) O5.out (fun k e => Nat.le_trans B1.out.size (World.ownsRow.lt O5.out k e).1))
  have HQ := Lib.hid (B1.out.trans (K5.out.below (Nat.le_refl _) B1.out.size))
  have hqm : q ≤ 5 := by have := HM.out; omega
  go_wp2_with fail
  go_ret3
  exact ⟨xs, _, p, q - r / 39, rfl, hs, by omega, by omega, by omega, by omega, HW.out, HQ.out⟩

/-- drawn needs -/
def NeedsGot (w : World) (e : Ending) (w' : World) : Prop := ∃ l d : Int, e = .returned (.agg #[.int .i64 l, .int .i64 d]) ∧ -2 ≤ l ∧ l ≤ 6 ∧ -2 ≤ d ∧ d ≤ 6 ∧ Below w.heap.size w w'

theorem IsRow.belowN {k : IntKind} {w w' : World} {a : Option Addr} {len cap : Nat} {zs : List Int} (h : IsRow k w a len cap zs) (hb : Below w.heap.size w w') : IsRow k w' a len cap zs := by
  rcases h with h | ⟨x, h1, h2, h3, h4, h5, h6⟩
  · exact .inl h
  · exact .inr ⟨x, h1, h2, h3, h4, fun i hi => (hb.cell (World.block_lt_of_cell? w _ (h5 i hi))).trans (h5 i hi), h6⟩

set_option maxHeartbeats 1600000 in
theorem drawNeedsOk_any (a : Option Addr) (len cap : Nat) (zs : List Int) (w : World) (h : IsRow .u8 w a len cap zs) :
    Calls Try.prog 21 #[.slice a len cap] w (NeedsGot w) := by
  have H0 := h.belowN ((Below.refl w.heap.size w).alloc (Nat.le_refl _) (.cells #[.int .i64 0, .int .i64 0] 29))
  have HO := Lib.hid (l20Open_any a len cap zs _ H0)
  clear H0 h
  go_enter Try.func21, Try.ntmps21
  go_wp2_with fail
  refine HO.out.mono ?_
  clear HO
  rintro e w1 ⟨a1, len1, cap1, rfl, hR, hb1⟩
  simp only [World.size_alloc] at hR hb1
  have hRR := hR.hR
  have c0 : w1.cell? ⟨w.heap.size, 0, none⟩ = some (.int .i64 0) := (hb1.cell (p := ⟨w.heap.size, 0, none⟩) (Nat.lt_succ_self _)).trans (World.cell?_alloc_new w _ _ 0)
  have c1 : w1.cell? ⟨w.heap.size, 1, none⟩ = some (.int .i64 0) := (hb1.cell (p := ⟨w.heap.size, 1, none⟩) (Nat.lt_succ_self _)).trans (World.cell?_alloc_new w _ _ 1)
  have f0 : ∀ i, w1.frozen? ⟨w.heap.size, i, none⟩ = false := fun i => (hb1.frozen (p := ⟨w.heap.size, i, none⟩) (Nat.lt_succ_self _)).trans (World.frozen?_alloc_new w _ _ i)
  have hbw : Below w.heap.size w w1 := ((Below.refl w.heap.size w).alloc (Nat.le_refl _) _).trans (hb1.mono (Nat.le_succ _))
  have HL := Lib.hid (show w.heap.size < w1.heap.size by have := hb1.size; simp only [World.size_alloc] at this; omega)
  have HBX := Lib.hid hbw
  clear hb1 hbw
  go_wp2_with fail
  refine (pick_any _ _ a1 len1 cap1 0 7 w1 hR (by omega) (by omega) (by omega)).mono ?_
  rintro e w2 ⟨p, rfl, hp0, hp1, hR2, hK2⟩
  have hp7 := hp1 (by omega)
  have K2 := Lib.hid hK2
  clear hp1 hK2 hR
  go_wp2_with fail
  refine (pick_any _ _ a1 len1 cap1 1 7 w2 hR2 (by omega) (by omega) (by omega)).mono ?_
  rintro e w3 ⟨q, rfl, hq0, hq1, hR3, hK3⟩
  have hq7 := hq1 (by omega)
  have hK := K2.out.trans hK3
  have d0 := (hK.cell (p := ⟨w.heap.size, 0, none⟩) HL.out (by show w.heap.size ≠ _; omega)).trans c0
  have d1 := (hK.cell (p := ⟨w.heap.size, 1, none⟩) HL.out (by show w.heap.size ≠ _; omega)).trans c1
  have g0 := (hK.frozen (p := ⟨w.heap.size, 0, none⟩) HL.out (by show w.heap.size ≠ _; omega)).trans (f0 0)
  have g1 := (hK.frozen (p := ⟨w.heap.size, 1, none⟩) HL.out (by show w.heap.size ≠ _; omega)).trans (f0 1)
  have HQ := Lib.hid (HBX.out.trans (hK.below (by omega) (by have := HL.out; omega)))
  clear c0 c1 f0 hK hK3 hR3 hq1
  go_wp2_with fail
  refine bodyPost_ret (v := .agg #[.int .i64 (p - 1), .int .i64 (q - 1)]) ?_ rfl ⟨p - 1, q - 1, rfl, by omega, by omega, by omega, by omega, (HQ.out.setCell (p := ⟨w.heap.size, 0, none⟩) (Nat.le_refl _) _).setCell (p := ⟨w.heap.size, 1, none⟩) (Nat.le_refl _) _⟩
  have r0 : ((w3.setCell ⟨w.heap.size, 0, none⟩ (.int .i64 (p - 1))).setCell ⟨w.heap.size, 1, none⟩ (.int .i64 (q - 1))).cell? ⟨w.heap.size, 0, none⟩ = some (.int .i64 (p - 1)) := by go_simp
  have r1 : ((w3.setCell ⟨w.heap.size, 0, none⟩ (.int .i64 (p - 1))).setCell ⟨w.heap.size, 1, none⟩ (.int .i64 (q - 1))).cell? ⟨w.heap.size, 1, none⟩ = some (.int .i64 (q - 1)) := by go_simp
  simp [results, Try.results21, go_sem, r0, r1]
end Go.Proofs.Ytlbblfbiiceofaa
