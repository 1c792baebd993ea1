/- canBeMet and swaps of the program, for every table of nine small numbers. No condition. -/
import Derived.Test.YtggohgkjdnnndaaSwapW
namespace Go.Proofs.Ytggohgkjdnnndaa
open Go.RowKit

def sumT (g : Nat → Int) : Nat → Int
  | 0 => 0
  | n + 1 => sumT g n + g n
theorem sumT_bd {g : Nat → Int} {b : Int} (n : Nat) (h : ∀ k, k < n → 0 ≤ g k ∧ g k ≤ b) : 0 ≤ sumT g n ∧ sumT g n ≤ n * b := by
  induction n with
  | zero => simp [sumT]
  | succ n ih =>
    have h1 := ih fun k hk => h k (by omega)
    have h2 := h n (by omega)
    rw [sumT, Int.natCast_succ, Int.add_mul, Int.one_mul]
    omega
/-- small numbers -/
def Sml (f : Nat → Int) : Prop := ∀ p, p < 9 → 0 ≤ f p ∧ f p ≤ 4
def hasT (f : Nat → Int) (k : Nat) (j : Nat) : Int := sumT (fun o => f (k * 3 + o)) j
def wantT (f : Nat → Int) (k : Nat) (j : Nat) : Int := sumT (fun o => f (o * 3 + k)) j
def metF (f : Nat → Int) : Bool := decide (hasT f 0 3 = wantT f 0 3) && decide (hasT f 1 3 = wantT f 1 3) && decide (hasT f 2 3 = wantT f 2 3)
theorem metF_false {f : Nat → Int} {k : Nat} (hk : k < 3) (h : hasT f k 3 ≠ wantT f k 3) : metF f = false := by
  have : k = 0 ∨ k = 1 ∨ k = 2 := by omega
  rcases this with rfl | rfl | rfl <;> simp [metF, h]
theorem metF_true {f : Nat → Int} (h : ∀ j, j < 3 → hasT f j 3 = wantT f j 3) : metF f = true := by
  simp [metF, h 0 (by omega), h 1 (by omega), h 2 (by omega)]
theorem tbl_agg (w : World) (t : TypeId) (f : Nat → Int) : Tbl (w.alloc (.cells #[.int .i64 (f 0), .int .i64 (f 1), .int .i64 (f 2), .int .i64 (f 3), .int .i64 (f 4), .int .i64 (f 5), .int .i64 (f 6), .int .i64 (f 7), .int .i64 (f 8)] t)) w.heap.size f :=
  Tbl.new w t _ f fun p hp => by
    have : p = 0 ∨ p = 1 ∨ p = 2 ∨ p = 3 ∨ p = 4 ∨ p = 5 ∨ p = 6 ∨ p = 7 ∨ p = 8 := by omega
    rcases this with rfl | rfl | rfl | rfl | rfl | rfl | rfl | rfl | rfl <;> rfl

set_option maxHeartbeats 3200000 in
theorem canBeMet_any (f : Nat → Int) (hf : Sml f) (w : World) :
    Calls Try.prog 58 #[tblV f] w fun e w' => e = .returned (.bool (metF f)) ∧ Below w.heap.size w w' := by
  have T := Lib.hid (tbl_agg w 62 f)
  have HF := Lib.hid hf
  have HB := Lib.hid ((Below.refl w.heap.size w).alloc (Nat.le_refl _) (.cells #[.int .i64 (f 0), .int .i64 (f 1), .int .i64 (f 2), .int .i64 (f 3), .int .i64 (f 4), .int .i64 (f 5), .int .i64 (f 6), .int .i64 (f 7), .int .i64 (f 8)] 62))
  unfold tblV
  clear hf
  go_enter Try.func58, Try.ntmps58
  go_wp2_with fail
  generalize hW : w.alloc (.cells #[.int .i64 (f 0), .int .i64 (f 1), .int .i64 (f 2), .int .i64 (f 3), .int .i64 (f 4), .int .i64 (f 5), .int .i64 (f 6), .int .i64 (f 7), .int .i64 (f 8)] 62) = W at *
  clear hW
  go_loopw [7] (fun iv wr => ∃ (k : Nat), k ≤ 3 ∧ iv = .int .i64 (k : Int) ∧ Hid (∀ j, j < k → hasT f j 3 = wantT f j 3) ∧ wr = W) (fun iv _ => 3 - (intOf iv).toNat)
  case atStart => exact ⟨0, Nat.zero_le _, rfl, Lib.hid (fun j h => absurd h (Nat.not_lt_zero j)), rfl⟩
  case round =>
    obtain ⟨k, hk, rfl, HK, rfl⟩ := hrel
    by_cases hlt : k < 3
    · have hki : (k : Int) < 3 := by omega
      go_wp2_with fail
      go_loopw [4, 5, 10] (fun hv wv jv wq => ∃ (j : Nat) (h v : Int), j ≤ 3 ∧ jv = .int .i64 (j : Int) ∧ hv = .int .i64 h ∧ wv = .int .i64 v ∧ Hid (h = hasT f k j) ∧ Hid (v = wantT f k j) ∧ 0 ≤ h ∧ h ≤ 4 * j ∧ 0 ≤ v ∧ v ≤ 4 * j ∧ wq = wr) (fun _ _ jv _ => 3 - (intOf jv).toNat)
      case atStart => exact ⟨0, 0, 0, Nat.zero_le _, rfl, rfl, rfl, Lib.hid rfl, Lib.hid rfl, Int.le_refl _, by omega, Int.le_refl _, by omega, rfl⟩
      case round =>
        obtain ⟨j, h, v, hj, rfl, rfl, rfl, HH, HV, h0, h1, h2, h3, rfl⟩ := hrel
        by_cases hjl : j < 3
        · have hji : (j : Int) < 3 := by omega
          have c1 := T.out.cell (k * 3 + j) (by omega)
          have c2 := T.out.cell (j * 3 + k) (by omega)
          have b1 := HF.out (k * 3 + j) (by omega)
          have b2 := HF.out (j * 3 + k) (by omega)
          have HS1 := Lib.hid (show hasT f k (j + 1) = hasT f k j + f (k * 3 + j) from rfl)
          have HS2 := Lib.hid (show wantT f k (j + 1) = wantT f k j + f (j * 3 + k) from rfl)
          generalize f (k * 3 + j) = x at *
          generalize f (j * 3 + k) = y at *
          go_wp2_with fail
          go_roundw
          case rel => exact ⟨j + 1, h + x, v + y, by omega, by go_num, by first | rfl | go_num, by first | rfl | go_num, Lib.hid (by rw [HS1.out, HH.out]), Lib.hid (by rw [HS2.out, HV.out]), by omega, by omega, by omega, by omega, trivial⟩
          case measure => simp [intOf]; omega
        · obtain rfl : j = 3 := by omega
          by_cases hne : h = v
          · have htf : (h != v) = false := by simp [hne]
            have HN : Hid (∀ j, j < k + 1 → hasT f j 3 = wantT f j 3) := by
              have : ∀ j, j < k + 1 → hasT f j 3 = wantT f j 3 := fun j hj => by
                by_cases e : j = k
                · rw [e, ← HH.out, ← HV.out, hne]
                · exact HK.out j (by omega)
              exact Lib.hid this
            clear hne
            go_wp2_with fail
            go_roundw
            case rel => exact ⟨k + 1, by omega, by go_num, HN, trivial⟩
            case measure => simp [intOf]; omega
          · have htf : (h != v) = true := by simp [hne]
            have HN := Lib.hid (metF_false (f := f) hlt (by rw [← HH.out, ← HV.out]; exact hne))
            clear hne
            go_wp2_with fail
            go_ret
            exact ⟨ret_bool HN.out.symm, HB.out⟩
    · obtain rfl : k = 3 := by omega
      have HN := Lib.hid (metF_true HK.out)
      go_wp2_with fail
      go_ret
      exact ⟨ret_bool HN.out.symm, HB.out⟩

/-- pairs, and what is left, of two letters -/
def prT (f : Nat → Int) (k j : Nat) : Int := min (f (k * 3 + j)) (f (j * 3 + k))
def lfT (f : Nat → Int) (k j : Nat) : Int := f (k * 3 + j) + f (j * 3 + k) - 2 * prT f k j
def rowP (f : Nat → Int) (k : Nat) : Int := sumT (fun i => sumT (prT f i) i) k
def rowL (f : Nat → Int) (k : Nat) : Int := sumT (fun i => sumT (lfT f i) i) k
def swF (f : Nat → Int) : Int := rowP f 3 + 2 * (rowL f 3 / 3)

set_option maxHeartbeats 3200000 in
theorem swapsT_any (f : Nat → Int) (hf : Sml f) (w : World) :
    Calls Try.prog 59 #[tblV f] w fun e w' => e = .returned (.int .i64 (swF f)) ∧ Below w.heap.size w w' := by
  have T := Lib.hid (tbl_agg w 62 f)
  have HF := Lib.hid hf
  have HB := Lib.hid ((Below.refl w.heap.size w).alloc (Nat.le_refl _) (.cells #[.int .i64 (f 0), .int .i64 (f 1), .int .i64 (f 2), .int .i64 (f 3), .int .i64 (f 4), .int .i64 (f 5), .int .i64 (f 6), .int .i64 (f 7), .int .i64 (f 8)] 62))
  unfold tblV
  clear hf
  go_enter Try.func59, Try.ntmps59
  go_wp2_with fail
  generalize hW : w.alloc (.cells #[.int .i64 (f 0), .int .i64 (f 1), .int .i64 (f 2), .int .i64 (f 3), .int .i64 (f 4), .int .i64 (f 5), .int .i64 (f 6), .int .i64 (f 7), .int .i64 (f 8)] 62) = W at *
  clear hW
  go_loopw [3, 4, 8] (fun pv lv iv wr => ∃ (k : Nat) (p l : Int), k ≤ 3 ∧ iv = .int .i64 (k : Int) ∧ pv = .int .i64 p ∧ lv = .int .i64 l ∧ Hid (p = rowP f k) ∧ Hid (l = rowL f k) ∧ 0 ≤ p ∧ p ≤ 100 * k ∧ 0 ≤ l ∧ l ≤ 100 * k ∧ Hid (Tbl wr w.heap.size f) ∧ Hid (Below w.heap.size w wr)) (fun _ _ iv _ => 3 - (intOf iv).toNat)
  case atStart => exact ⟨0, 0, 0, Nat.zero_le _, rfl, rfl, rfl, Lib.hid rfl, Lib.hid rfl, Int.le_refl _, by omega, Int.le_refl _, by omega, T, HB⟩
  case round =>
    obtain ⟨k, p, l, hk, rfl, rfl, rfl, HP, HL, hp0, hp1, hl0, hl1, TR, BR⟩ := hrel
    by_cases hlt : k < 3
    · have hki : (k : Int) < 3 := by omega
      go_wp2_with fail
      go_loopw [3, 4, 12] (fun pv lv jv wq => ∃ (j : Nat) (p2 l2 : Int), j ≤ k ∧ jv = .int .i64 (j : Int) ∧ pv = .int .i64 p2 ∧ lv = .int .i64 l2 ∧ Hid (p2 = p + sumT (prT f k) j) ∧ Hid (l2 = l + sumT (lfT f k) j) ∧ 0 ≤ p2 ∧ p2 ≤ 100 * k + 8 * j ∧ 0 ≤ l2 ∧ l2 ≤ 100 * k + 8 * j ∧ Hid (Tbl wq w.heap.size f) ∧ Hid (Below w.heap.size w wq)) (fun _ _ jv _ => k - (intOf jv).toNat)
      case atStart => exact ⟨0, p, l, Nat.zero_le _, rfl, rfl, rfl, Lib.hid (by simp [sumT]), Lib.hid (by simp [sumT]), hp0, by omega, hl0, by omega, TR, BR⟩
      case round =>
        obtain ⟨j, p2, l2, hj, rfl, rfl, rfl, HP2, HL2, h0, h1, h2, h3, TQ, BQ⟩ := hrel
        by_cases hjl : j < k
        · have hji : (j : Int) < (k : Int) := by omega
          have hji3 : (j : Int) < 3 := by omega
          have c1 := TQ.out.cell (k * 3 + j) (by omega)
          have c2 := TQ.out.cell (j * 3 + k) (by omega)
          have b1 := HF.out (k * 3 + j) (by omega)
          have b2 := HF.out (j * 3 + k) (by omega)
          have HS1 := Lib.hid (show sumT (prT f k) (j + 1) = sumT (prT f k) j + min (f (k * 3 + j)) (f (j * 3 + k)) from rfl)
          have HS2 := Lib.hid (show sumT (lfT f k) (j + 1) = sumT (lfT f k) j + (f (k * 3 + j) + f (j * 3 + k) - 2 * min (f (k * 3 + j)) (f (j * 3 + k))) from rfl)
          generalize f (k * 3 + j) = x at *
          generalize f (j * 3 + k) = y at *
          have b3 : 0 ≤ min x y ∧ min x y ≤ 4 ∧ min x y ≤ x ∧ min x y ≤ y := by omega
          go_wp2_with fail
          go_region
          go_wp2_with fail
          generalize min x y = m at *
          have hw1 : IntKind.i64.wrap (2 * m) = 2 * m := IntWalk.i64_in _ (by omega)
          have hw2 : IntKind.i64.wrap (x + y) = x + y := IntWalk.i64_in _ (by omega)
          have hw3 : IntKind.i64.wrap (x + y - 2 * m) = x + y - 2 * m := IntWalk.i64_in _ (by omega)
          have hw4 : IntKind.i64.wrap (l2 + (x + y - 2 * m)) = l2 + (x + y - 2 * m) := IntWalk.i64_in _ (by omega)
          go_region
          go_wp2_with fail
          go_roundw
          case rel => exact ⟨j + 1, p2 + m, l2 + (x + y - 2 * m), by omega, by go_num, by first | rfl | go_num, by first | rfl | go_num, Lib.hid (by rw [HS1.out, HP2.out]; omega), Lib.hid (by rw [HS2.out, HL2.out]; omega), by omega, by omega, by omega, by omega, Lib.hid TQ.out.drew.drew, Lib.hid BQ.out.drew.drew⟩
          case measure => simp [intOf]; omega
        · obtain rfl : j = k := by omega
          have HP3 : Hid (p2 = rowP f (j + 1)) := Lib.hid (by rw [HP2.out, HP.out]; rfl)
          have HL3 : Hid (l2 = rowL f (j + 1)) := Lib.hid (by rw [HL2.out, HL.out]; rfl)
          go_wp2_with fail
          go_roundw
          case rel => exact ⟨j + 1, p2, l2, by omega, by go_num, rfl, rfl, HP3, HL3, h0, by omega, h2, by omega, TQ, BQ⟩
          case measure => simp [intOf]; omega
    · obtain rfl : k = 3 := by omega
      have hq : l.tdiv 3 = l / 3 := Int.tdiv_eq_ediv_of_nonneg hl0
      have HE : Hid (swF f = p + 2 * (l / 3)) := Lib.hid (by rw [swF, HP.out, HL.out])
      go_wp2_with fail
      go_ret
      exact ⟨ret_int HE.out.symm, BR.out⟩
end Go.Proofs.Ytggohgkjdnnndaa
