/- What FnGivenOn, FnFairestOf, FnFairerOk draw. No condition. -/
import Derived.Test.YthdpeholeelhdaaLawLoad
namespace Go.Proofs.Ythdpeholeelhdaa
open Go.RowKit

def PairGot (w : World) (e : Ending) (w' : World) : Prop := ∃ p d : Int, e = .returned (.tuple #[.int .i64 p, .int .i64 d]) ∧ -100 ≤ p ∧ p ≤ 100 ∧ -100 ≤ d ∧ d ≤ 100 ∧ Below w.heap.size w w'

set_option maxHeartbeats 1600000 in
theorem drawFairestOf_any (a : Option Addr) (len cap : Nat) (zs : List Int) (w : World) (h : IsRow .u8 w a len cap zs) :
    Calls Try.prog 41 #[.slice a len cap] w (PairGot w) := by
  have HO := Lib.hid (l20Open_any a len cap zs _ h)
  clear h
  go_enter Try.func41, Try.ntmps41
  go_wp2_with fail
  refine HO.out.mono ?_
  clear HO
  rintro e w1 ⟨a1, len1, cap1, rfl, hR, hb1⟩
  go_wp2_with fail
  refine (pick_any _ _ a1 len1 cap1 0 8 w1 hR (by omega) (by omega) (by omega)).mono ?_
  rintro e w2 ⟨v2, rfl, h20, h21, hR2, hK2⟩
  have h21' := h21 (by omega)
  clear h21
  go_wp2_with fail
  refine (pick_any _ _ a1 len1 cap1 (0 + 1) 33 w2 hR2 (by omega) (by omega) (by omega)).mono ?_
  rintro e w3 ⟨v3, rfl, h30, h31, hR3, hK3⟩
  have h31' := h31 (by omega)
  clear h31
  go_wp2_with fail
  refine (pick_any _ _ a1 len1 cap1 (0 + 1 + 1) 20 w3 hR3 (by omega) (by omega) (by omega)).mono ?_
  rintro e w4 ⟨v4, rfl, h40, h41, hR4, hK4⟩
  have h41' := h41 (by omega)
  clear h41
  have HB := Lib.hid (hb1.trans (((hK2.trans hK3).trans hK4).below (Nat.le_refl _) hb1.size))
  have hd : v4.tdiv 19 = v4 / 19 := Int.tdiv_eq_ediv_of_nonneg h40
  obtain ⟨q, hq⟩ : ∃ q, v4 / 19 = q := ⟨_, rfl⟩
  have hq0 : 0 ≤ q := by omega
  have hq1 : q ≤ 1 := by omega
  rw [hq] at hd
  have hw1 : IntKind.i64.wrap q = q := IntWalk.i64_in _ (by omega)
  have hw2 : IntKind.i64.wrap (q * 33) = q * 33 := IntWalk.i64_in _ (by omega)
  have hw3 : IntKind.i64.wrap (v3 - q * 33) = v3 - q * 33 := IntWalk.i64_in _ (by omega)
  clear hq hR hR2 hR3 hR4 hK2 hK3 hK4 hb1
  go_wp2
  go_ret2
  exact ⟨v2, v3 - q * 33, rfl, by omega, by omega, by omega, by omega, HB.out⟩

/-- a drawn row and two places -/
def GivGot (w : World) (e : Ending) (w' : World) : Prop := ∃ (xs : List Int) (v : Value) (f t : Int), e = .returned (.tuple #[v, .int .i64 f, .int .i64 t]) ∧ SmallL xs ∧ -100 ≤ f ∧ f ≤ 100 ∧ -100 ≤ t ∧ t ≤ 100 ∧ w'.ownsRow w.heap.size 3 1 v xs.length (xs.map (Value.int .i64)) ∧ Below w.heap.size w w'

set_option maxHeartbeats 1600000 in
theorem drawGivenOn_any (a : Option Addr) (len cap : Nat) (zs : List Int) (w : World) (h : IsRow .u8 w a len cap zs) :
    Calls Try.prog 38 #[.slice a len cap] w (GivGot w) := by
  have HO := Lib.hid (l20Open_any a len cap zs _ h)
  clear h
  go_enter Try.func38, Try.ntmps38
  go_wp2_with fail
  refine HO.out.mono ?_
  clear HO
  rintro e w1 ⟨a1, len1, cap1, rfl, hR, hb1⟩
  have hRR := hR.hR
  go_wp2_with fail
  refine (l20Loads_any _ _ a1 len1 cap1 0 12 w1 hR (by omega) (by omega) (by omega)).mono ?_
  rintro e w2 ⟨xs, v, rfl, hs, ho, k', hk0, hk1, hR2, hK2⟩
  obtain ⟨b, c, rfl, hc1, hc2, -⟩ := drawn_form ho
  have hx7 := hs.1
  have HS := Lib.hid hs
  clear hs
  go_wp2_with fail
  refine (pick_any _ _ a1 len1 cap1 k' _ w2 hR2 (by omega) (by omega) (by omega)).mono ?_
  rintro e w3 ⟨v3, rfl, h30, h31, hR3, hK3⟩
  have h31' := h31 (by omega)
  clear h31
  obtain ⟨M, hM⟩ : ∃ M : Int, max (xs.length : Int) 1 = M := ⟨_, rfl⟩
  have hM1 : 1 ≤ M := by omega
  have hM2 : M ≤ 7 := by omega
  go_wp2_with fail
  refine (pick_any _ _ a1 len1 cap1 (k' + 1) M w3 hR3 (by omega) (by omega) (by omega)).mono ?_
  rintro e w4 ⟨v4, rfl, h40, h41, hR4, hK4⟩
  have h41' := h41 (by omega)
  clear h41
  go_wp2_with fail
  refine (pick_any _ _ a1 len1 cap1 (k' + 1 + 1) 30 w4 hR4 (by omega) (by omega) (by omega)).mono ?_
  rintro e w5 ⟨v5, rfl, h50, h51, hR5, hK5⟩
  have h51' := h51 (by omega)
  clear h51
  have hKK := (hK3.trans hK4).trans hK5
  have HB := Lib.hid (hb1.trans ((hK2.trans hKK).below (Nat.le_refl _) hb1.size))
  have HOW := Lib.hid (ownsRow_base (owns_keeps ho hKK (by omega)) (fun k e => Nat.le_trans hb1.size (World.ownsRow.lt ho k e).1))
  have hd : v5.tdiv 29 = v5 / 29 := Int.tdiv_eq_ediv_of_nonneg h50
  obtain ⟨q, hq⟩ : ∃ q, v5 / 29 = q := ⟨_, rfl⟩
  have hq0 : 0 ≤ q := by omega
  have hq1 : q ≤ 1 := by omega
  rw [hq] at hd
  have hw1 : IntKind.i64.wrap q = q := IntWalk.i64_in _ (by omega)
  have hw3 : IntKind.i64.wrap (v4 - q) = v4 - q := IntWalk.i64_in _ (by omega)
  clear hq hR hR2 hR3 hR4 hR5 hK2 hK3 hK4 hK5 hKK hb1 ho
  go_wp2
  refine bodyPost_ret (v := .tuple #[.slice b xs.length c, .int .i64 v3, .int .i64 (v4 - q)]) ?_ rfl ?_
  · simp [results, Try.results38, go_sem]
  exact ⟨xs, _, v3, v4 - q, rfl, HS.out, by omega, by omega, by omega, by omega, HOW.out, HB.out⟩
end Go.Proofs.Ythdpeholeelhdaa
