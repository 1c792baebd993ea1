/- The walks of FnLoadsOk, FnSortedLoads, FnSpreadOf, FnSquaresOf: true at every code. No condition. -/
import Derived.Test.YthdpeholeelhdaaLoadDraw
import Derived.Test.YthdpeholeelhdaaLoadSpec3
import Derived.Test.YthdpeholeelhdaaSame
namespace Go.Proofs.Ythdpeholeelhdaa
open Go.RowKit

theorem rowL_len {w : World} {a : Option Addr} {len cap : Nat} {zs : List Int} (h : IsRow .u8 w a len cap zs) : len ≤ 9223372036854775807 := by
  rcases h with ⟨_, rfl, _⟩ | ⟨x, _, h1, h2, _⟩
  · omega
  · unfold maxLen at h2; omega
theorem aliveL_any (w : World) : Calls Try.prog 22 #[] w fun e w' => e = .returned (.bool true) ∧ w = w' := by
  have h1 : wordOk ⟨#[114, 100, 110]⟩ = true := by decide +kernel
  have h2 : wordOk ⟨#[120]⟩ = false := by decide +kernel
  go_enter Try.func22, Try.ntmps22
  go_wp2_with (go_at_call 54; refine (implWordOk_any _ _ (by decide)).mono ?_; rintro e w' ⟨rfl, rfl⟩)
  go_ret
  exact ⟨rfl, rfl⟩
theorem specLoadsOk_c (v : Value) (xs : List Int) (w : World) (h : IsInts w v xs) : Calls Try.prog 21 #[v] w fun e w' => e = .returned (.bool (loadsOk xs)) ∧ Below w.heap.size w w' :=
  (specLoadsOk_any v xs w h).mono fun _ _ ⟨h1, n, h2⟩ => ⟨h1, by rw [h2]; exact below_drewN (Below.refl _ _) n⟩
theorem implLoadsOk_c (v : Value) (xs : List Int) (w : World) (h : IsInts w v xs) : Calls Try.prog 20 #[v] w fun e w' => e = .returned (.bool (loadsOk xs)) ∧ Below w.heap.size w w' :=
  (implLoadsOk_any v xs w h).mono fun _ _ ⟨h1, n, h2⟩ => ⟨h1, by rw [h2]; exact below_drewN (Below.refl _ _) n⟩
theorem ints_lit (W : World) (xs : List Int) (n : Nat) (hn : xs.length = n) (hl : n ≤ 1000) (cs : Array Value) (hc : cs = (xs.map (Value.int .i64)).toArray) : IsInts (W.alloc (.cells cs 3)) (.slice (some ⟨W.heap.size, 0, none⟩) n n) xs := by
  subst hn hc
  exact IsInts.of_owns (owns_lit (base := W.heap.size) (alloc_at _ rfl) (Nat.le_refl _) hl)
theorem ownsRow_nilform {w : World} {base : Nat} {v : Value} (h : w.ownsRow base 3 1 v ([] : List Int).length (([] : List Int).map (Value.int .i64))) : ∃ a c, v = .slice a 0 c := by
  rcases h.2 with ⟨rfl, _⟩ | ⟨g, cap, cur, rfl, _⟩
  · exact ⟨none, 0, rfl⟩
  · exact ⟨_, _, rfl⟩
/-- a drawn row, written out -/
theorem drawn_form {w : World} {base : Nat} {v : Value} {xs : List Int} (h : w.ownsRow base 3 1 v xs.length (xs.map (Value.int .i64))) : ∃ a c, v = .slice a xs.length c ∧ xs.length ≤ c ∧ c ≤ 9223372036854775807 ∧ IsInts w (.slice a xs.length c) xs := by
  have hI := IsInts.of_owns h
  obtain ⟨a, c, rfl, h1, h2, h3⟩ := hI
  unfold maxLen at h2
  exact ⟨a, c, rfl, h1, h2, a, c, rfl, h1, by unfold maxLen; exact h2, h3⟩
theorem IsInts.cut {w : World} {a : Option Addr} {n c : Nat} {xs : List Int} (h : IsInts w (.slice a n c) xs) (k : Nat) (hk : k ≤ n) (hn : xs.length = n) : IsInts w (.slice a k c) (xs.take k) := by
  obtain ⟨a', c', e, h1, h2, h3⟩ := h
  simp only [Value.slice.injEq] at e
  obtain ⟨rfl, _, rfl⟩ := e
  have hl : (xs.take k).length = k := by rw [List.length_take]; omega
  refine ⟨a, c, by rw [hl], by omega, h2, ?_⟩
  rcases h3 with rfl | ⟨g, off, rfl, hg, hc⟩
  · exact .inl List.take_nil
  · exact .inr ⟨g, off, rfl, hg, fun j hj => by rw [hc j (by omega)]; simp⟩

set_option maxHeartbeats 3200000 in
theorem lawLoadsOk_walk {w : World} (a : Option Addr) (len cap : Nat) (zs : List Int) (h : IsRow .u8 w a len cap zs) :
    Calls Try.prog 3 #[.slice a len cap] w fun e w' => e = .returned (.bool true) ∧ Below w.heap.size w w' := by
  have HD := Lib.hid (drawLoadsOk_any a len cap zs w h)
  have hl := rowL_len h
  clear h
  by_cases hbig : 1048576 < len
  · go_enter Try.func3, Try.ntmps3
    go_wp2_with fail
    go_ret
    exact ⟨rfl, Below.refl _ _⟩
  go_enter Try.func3, Try.ntmps3
  go_wp2_with fail
  refine HD.out.mono ?_
  clear HD
  rintro e w1 ⟨xs, v, rfl, hs, ho, hb⟩
  obtain ⟨b, c, rfl, hc1, hc2, hI⟩ := drawn_form ho
  have hx7 := hs.1
  have I1 := Lib.hid hI
  have Q1 := Lib.hid hb
  clear hI ho hb hs
  go_wp2_with fail
  refine (implLoadsOk_c _ xs w1 I1.out).mono ?_
  rintro e w2 ⟨rfl, hb2⟩
  have I2 := Lib.hid (I1.out.below hb2)
  have Q2 := Lib.hid (Q1.out.trans (hb2.mono Q1.out.size))
  clear hb2 I1 Q1
  have HR : Hid (∀ u v : Bool, u = v → (u != v) = false) := by
    have : ∀ u v : Bool, u = v → (u != v) = false := fun u v h => by subst h; simp
    exact Lib.hid this
  have hne := HR.out _ _ (rfl : loadsOk xs = loadsOk xs)
  go_wp2_with fail
  refine (specLoadsOk_c _ xs w2 I2.out).mono ?_
  rintro e w3 ⟨rfl, hb3⟩
  have I3 := Lib.hid (I2.out.below hb3)
  have Q3 := Lib.hid (Q2.out.trans (hb3.mono Q2.out.size))
  clear hb3 I2 Q2
  have HLX := Lib.hid (fun h1 h2 => loadsOk_init (xs := xs) h1 h2)
  cases hok : loadsOk xs with
  | false =>
    rw [hok] at hne
    clear HLX
    go_wp2_with fail
    refine (implLoadsOk_c _ [0] _ (ints_lit w3 [0] 1 rfl (by omega) _ rfl)).mono ?_
    rintro e w4 ⟨rfl, hb4⟩
    rw [show loadsOk [0] = true from by decide]
    have Q4 := Lib.hid (Q3.out.trans (((Below.refl w3.heap.size w3).alloc (Nat.le_refl _) _).trans (hb4.mono (by simp)) |>.mono Q3.out.size))
    clear hb4
    go_wp2_with fail
    refine (implLoadsOk_c _ [30] _ (ints_lit w4 [30] 1 rfl (by omega) _ rfl)).mono ?_
    rintro e w5 ⟨rfl, hb5⟩
    rw [show loadsOk [30] = true from by decide]
    have Q5 := Lib.hid (Q4.out.trans (((Below.refl w4.heap.size w4).alloc (Nat.le_refl _) _).trans (hb5.mono (by simp)) |>.mono Q4.out.size))
    clear hb5
    go_wp2_with fail
    refine (implLoadsOk_c _ [] _ (ints_lit w5 [] 0 rfl (by omega) _ rfl)).mono ?_
    rintro e w6 ⟨rfl, hb6⟩
    rw [show loadsOk [] = false from by decide]
    have Q6 := Lib.hid (Q5.out.trans (((Below.refl w5.heap.size w5).alloc (Nat.le_refl _) _).trans (hb6.mono (by simp)) |>.mono Q5.out.size))
    clear hb6
    go_wp2_with (go_at_call 22; refine (aliveL_any _).mono ?_; rintro e w' ⟨rfl, rfl⟩)
    go_ret
    exact ⟨rfl, Q6.out⟩
  | true =>
    rw [hok] at hne
    go_wp2_with fail
    refine (implLoadsOk_c _ [0] _ (ints_lit w3 [0] 1 rfl (by omega) _ rfl)).mono ?_
    rintro e w4 ⟨rfl, hb4⟩
    rw [show loadsOk [0] = true from by decide]
    have D4 := Lib.hid (((Below.refl w3.heap.size w3).alloc (Nat.le_refl _) _).trans (hb4.mono (by simp)))
    clear hb4
    go_wp2_with fail
    refine (implLoadsOk_c _ [30] _ (ints_lit w4 [30] 1 rfl (by omega) _ rfl)).mono ?_
    rintro e w5 ⟨rfl, hb5⟩
    rw [show loadsOk [30] = true from by decide]
    have D5 := Lib.hid (D4.out.trans (((Below.refl w4.heap.size w4).alloc (Nat.le_refl _) _).trans (hb5.mono (by simp)) |>.mono D4.out.size))
    clear hb5
    go_wp2_with fail
    refine (implLoadsOk_c _ [] _ (ints_lit w5 [] 0 rfl (by omega) _ rfl)).mono ?_
    rintro e w6 ⟨rfl, hb6⟩
    rw [show loadsOk [] = false from by decide]
    have D6 := Lib.hid (D5.out.trans (((Below.refl w5.heap.size w5).alloc (Nat.le_refl _) _).trans (hb6.mono (by simp)) |>.mono D5.out.size))
    clear hb6
    have Q6 := Lib.hid (Q3.out.trans (D6.out.mono Q3.out.size))
    have HOK := Lib.hid hok
    clear hok
    by_cases h2 : xs.length < 2
    · go_wp2_with (go_at_call 22; refine (aliveL_any _).mono ?_; rintro e w' ⟨rfl, rfl⟩)
      go_ret
      exact ⟨rfl, Q6.out⟩
    · have e1 : ((xs.length : Int) - 1) = ((xs.length - 1 : Nat) : Int) := by omega
      have HI := Lib.hid ((I3.out.below D6.out).cut (xs.length - 1) (by omega) rfl)
      have HLI := Lib.hid (HLX.out HOK.out (by omega))
      have hle : xs.length - 1 ≤ c := by omega
      go_wp2_with fail
      refine (implLoadsOk_c _ _ _ HI.out).mono ?_
      rintro e w7 ⟨rfl, hb7⟩
      rw [HLI.out]
      have Q7 := Lib.hid (Q6.out.trans (hb7.mono Q6.out.size))
      clear hb7
      go_wp2_with (go_at_call 22; refine (aliveL_any _).mono ?_; rintro e w' ⟨rfl, rfl⟩)
      go_ret
      exact ⟨rfl, Q7.out⟩
end Go.Proofs.Ythdpeholeelhdaa
