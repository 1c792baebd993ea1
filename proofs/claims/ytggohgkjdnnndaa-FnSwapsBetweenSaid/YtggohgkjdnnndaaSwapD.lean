/- l11Day of the model: what it returns, for every two days' letters. No condition. -/
import Derived.Test.YtggohgkjdnnndaaSwapM
namespace Go.Proofs.Ytggohgkjdnnndaa
open Go.RowKit

theorem Tbl.drewN {w : World} {g : Nat} {f : Nat → Int} (h : Tbl w g f) (n : Nat) : Tbl (w.drewN n) g f := ⟨h.lt, h.cell, h.frozen⟩
theorem letter_lc (c : UInt8) (h : isL c = true) (w : World) :
    Calls Try.prog 78 #[.int .u8 (c.toNat : Int)] w fun e w' => e = .returned (.int .i64 (lc c : Int)) ∧ w' = w :=
  (l1Letter_any _ w).mono fun _ _ ⟨h1, h2⟩ => ⟨by rw [h1, letterOf_lc h], h2.symm⟩
theorem infoIntL : (Try.prog.info? 3).map (fun i => (i.zero, i.size, i.bytes)) = some (some (.int .i64 0), 1, 8) := by kernel_rfl
theorem make_nine : ∃ MI : Array Value, (∀ p, p < 9 → MI[p]? = some (.int .i64 0)) ∧ ∀ W : World, (Instr.makeSlice 40 (.int .i64 9) (.int .i64 9)).run Try.prog W = .ok (.slice (some ⟨W.heap.size, 0, none⟩) 9 9) (W.alloc (.cells MI 3)) := by
  obtain ⟨i0, hi, hz0, hz1, hz2⟩ := info_parts infoIntL
  refine ⟨madeCells (Value.int .i64 0).cells (9 * 1), fun p hp => ?_, fun W => ?_⟩
  · have : (madeCells (Value.int .i64 0).cells (9 * 1)).toList = List.replicate 9 (Value.int .i64 0) := toList_madeCells_one _ _
    rw [← Array.getElem?_toList, this, List.getElem?_replicate, if_pos hp]
  · have := run_make (P := Try.prog) W 40 3 i0 (.int .i64 0) Try.underlying40 hi hz0 .i64 .i64 9 9 (by omega) (Int.le_refl _) (by rw [hz2]; omega) (by omega)
    rw [hz1] at this
    simpa using this
def gP (f : Nat → Int) (a b : Nat) : Int := if a < b then min (f (a * 3 + b)) (f (b * 3 + a)) else 0
def gL (f : Nat → Int) (a b : Nat) : Int := if a < b then f (a * 3 + b) + f (b * 3 + a) - 2 * min (f (a * 3 + b)) (f (b * 3 + a)) else 0
theorem gP_rows (f : Nat → Int) : sumT (fun a => sumT (gP f a) 3) 3 = rowP f 3 := by
  simp [sumT, gP, rowP, prT]
  rw [Int.min_comm (f 1) (f 3), Int.min_comm (f 2) (f 6), Int.min_comm (f 5) (f 7)]
  omega
theorem gL_rows (f : Nat → Int) : sumT (fun a => sumT (gL f a) 3) 3 = rowL f 3 := by
  simp [sumT, gL, rowL, lfT, prT]
  rw [Int.min_comm (f 1) (f 3), Int.min_comm (f 2) (f 6), Int.min_comm (f 5) (f 7)]
  omega
def dayF (f : Nat → Int) : Int := if metF f = true then swF f else -1

set_option maxHeartbeats 6400000 in
set_option maxRecDepth 20000 in
theorem l11Day_any (s t : ByteArray) (w : World) (hs : s.size ≤ 4) (he : t.size = s.size) (h1 : wordOk s = true) (h2 : wordOk t = true) :
    Calls Try.prog 63 #[.string s, .string t] w fun e w' => e = .returned (.int .i64 (dayF (wTo s t s.size))) ∧ Below w.heap.size w w' := by
  have HI := Lib.hid (fun c h W => letter_lc c h W)
  have HW1 := Lib.hid h1
  have HW2 := Lib.hid h2
  clear h1 h2
  obtain ⟨MI, hm0, hmI⟩ := make_nine
  have HM0 := Lib.hid hm0
  clear hm0
  go_enter Try.func63, Try.ntmps63
  go_wp2_with fail
  clear hmI
  go_loopw [6, 7] (fun iv _ wr => ∃ (k : Nat), k ≤ s.size ∧ iv = .int .i64 (k : Int) ∧ Hid (Tbl wr w.heap.size (wTo s t k)) ∧ Hid (Below w.heap.size w wr)) (fun iv _ _ => s.size - (intOf iv).toNat)
  case atStart => exact ⟨0, Nat.zero_le _, rfl, Lib.hid (Tbl.new w 3 MI (wTo s t 0) HM0.out), Lib.hid ((Below.refl _ _).alloc (Nat.le_refl _) _)⟩
  case round =>
    obtain ⟨k, hk, rfl, HT, HBL⟩ := hrel
    by_cases hlt : k < s.size
    · have hlt2 : k < t.size := by omega
      have hki : (k : Int) < (s.size : Int) := by omega
      have hki2 : (k : Int) < (t.size : Int) := by omega
      have HA := Lib.hid (HI.out s[k] (by rw [byteAt_eq s k hlt]; exact isL_byteAt HW1.out k hlt))
      have HB := Lib.hid (HI.out t[k] (by rw [byteAt_eq t k hlt2]; exact isL_byteAt HW2.out k hlt2))
      have ha := lc_lt (byteAt s k)
      have hb := lc_lt (byteAt t k)
      have hv := wTo_bd s t k (lc (byteAt s k) * 3 + lc (byteAt t k))
      have hc := HT.out.cell _ (by omega : lc (byteAt s k) * 3 + lc (byteAt t k) < 9)
      have hf := HT.out.frozen (lc (byteAt s k) * 3 + lc (byteAt t k))
      have HN := Lib.hid (fun n => (HT.out.drewN n).inc)
      rw [show lc s[k] = lc (byteAt s k) from by rw [byteAt_eq s k hlt]] at HA
      rw [show lc t[k] = lc (byteAt t k) from by rw [byteAt_eq t k hlt2]] at HB
      generalize lc (byteAt s k) = A at *
      generalize lc (byteAt t k) = B at *
      have hai : (A : Int) < 3 := by omega
      have hbi : (B : Int) < 3 := by omega
      have hval : wTo s t k (A * 3 + B) ≤ 4 := by omega
      generalize wTo s t k (A * 3 + B) = cv at *
      obtain ⟨q, hq⟩ : ∃ q, A * 3 + B = q := ⟨_, rfl⟩
      rw [hq] at hc hf HN
      have hw1 : IntKind.i64.wrap (3 * (A : Int)) = 3 * (A : Int) := IntWalk.i64_in _ (by omega)
      have hw2 : IntKind.i64.wrap (3 * (A : Int) + (B : Int)) = (q : Int) := by rw [IntWalk.i64_in _ (by omega)]; omega
      have hw3 : 3 * (A : Int) + (B : Int) = (q : Int) := by omega
      have hp9 : (q : Int) < 9 := by omega
      clear hq
      go_wp2_with fail
      go_quiet (first | (go_at_call 78; with_reducible exact Calls.quiet_of_same (HA.out _)) | (go_at_call 78; with_reducible exact Calls.quiet_of_same (HB.out _)))
      go_wp2_with fail
      go_roundw
      case rel => exact ⟨k + 1, by omega, by go_num, Lib.hid (HN.out _), Lib.hid ((below_drewN HBL.out _).setCell (p := ⟨w.heap.size, q, none⟩) (Nat.le_refl _) _)⟩
      case measure => simp [intOf]; omega
    · obtain rfl : k = s.size := by omega
      have HF : Hid (Sml (wTo s t s.size)) := by
        have : Sml (wTo s t s.size) := fun p hp => by have := wTo_bd s t s.size p; omega
        exact Lib.hid this
      obtain ⟨f, hf⟩ : ∃ f, wTo s t s.size = f := ⟨_, rfl⟩
      have HFE := Lib.hid hf
      rw [hf] at HT HF
      clear hf
      go_wp2_with fail
      go_loopw [8, 9, 10] (fun pv lv iv wr => ∃ (k : Nat) (p l : Int), k ≤ 3 ∧ iv = .int .i64 (k : Int) ∧ pv = .int .i64 p ∧ lv = .int .i64 l ∧ Hid (p = sumT (fun a => sumT (gP f a) 3) k) ∧ Hid (l = sumT (fun a => sumT (gL f a) 3) k) ∧ Hid (∀ j, j < k → hasT f j 3 = wantT f j 3) ∧ 0 ≤ p ∧ p ≤ 100 * k ∧ 0 ≤ l ∧ l ≤ 100 * k ∧ Hid (Tbl wr w.heap.size f) ∧ Hid (Below w.heap.size w wr)) (fun _ _ iv _ => 3 - (intOf iv).toNat)
      case atStart => exact ⟨0, 0, 0, Nat.zero_le _, rfl, rfl, rfl, Lib.hid rfl, Lib.hid rfl, Lib.hid (fun j h => absurd h (Nat.not_lt_zero j)), Int.le_refl _, by omega, Int.le_refl _, by omega, HT, HBL⟩
      case round =>
        clear HT HBL
        obtain ⟨k, p, l, hk, rfl, rfl, rfl, HP, HL, HK, hp0, hp1, hl0, hl1, TR, BR⟩ := hrel
        by_cases hlt : k < 3
        · have hki : (k : Int) < 3 := by omega
          go_wp2_with fail
          go_loopw [8, 9, 11, 12, 13] (fun pv lv hv wv jv wq => ∃ (j : Nat) (p2 l2 h v : Int), j ≤ 3 ∧ jv = .int .i64 (j : Int) ∧ pv = .int .i64 p2 ∧ lv = .int .i64 l2 ∧ hv = .int .i64 h ∧ wv = .int .i64 v ∧ Hid (p2 = p + sumT (gP f k) j) ∧ Hid (l2 = l + sumT (gL f k) j) ∧ Hid (h = hasT f k j) ∧ Hid (v = wantT f k j) ∧ 0 ≤ h ∧ h ≤ 4 * j ∧ 0 ≤ v ∧ v ≤ 4 * j ∧ 0 ≤ p2 ∧ p2 ≤ 100 * k + 8 * j ∧ 0 ≤ l2 ∧ l2 ≤ 100 * k + 8 * j ∧ Hid (Tbl wq w.heap.size f) ∧ Hid (Below w.heap.size w wq)) (fun _ _ _ _ jv _ => 3 - (intOf jv).toNat)
          case atStart => exact ⟨0, p, l, 0, 0, Nat.zero_le _, rfl, rfl, rfl, rfl, rfl, Lib.hid (by simp [sumT]), Lib.hid (by simp [sumT]), Lib.hid rfl, Lib.hid rfl, Int.le_refl _, by omega, Int.le_refl _, by omega, hp0, by omega, hl0, by omega, TR, BR⟩
          case round =>
            obtain ⟨j, p2, l2, h, v, hj, rfl, rfl, rfl, rfl, rfl, HP2, HL2, HH, HV, h0, h1, v0, v1, h2, h3, h4, h5, TQ, BQ⟩ := hrel
            by_cases hjl : j < 3
            · have hji : (j : Int) < 3 := by omega
              have c1 := TQ.out.cell (k * 3 + j) (by omega)
              have c2 := TQ.out.cell (j * 3 + k) (by omega)
              have b1 := HF.out (k * 3 + j) (by omega)
              have b2 := HF.out (j * 3 + k) (by omega)
              have HS1 := Lib.hid (show sumT (gP f k) (j + 1) = sumT (gP f k) j + if k < j then min (f (k * 3 + j)) (f (j * 3 + k)) else 0 from rfl)
              have HS2 := Lib.hid (show sumT (gL f k) (j + 1) = sumT (gL f k) j + if k < j then f (k * 3 + j) + f (j * 3 + k) - 2 * min (f (k * 3 + j)) (f (j * 3 + k)) else 0 from rfl)
              have HS3 := Lib.hid (show hasT f k (j + 1) = hasT f k j + f (k * 3 + j) from rfl)
              have HS4 := Lib.hid (show wantT f k (j + 1) = wantT f k j + f (j * 3 + k) from rfl)
              generalize f (k * 3 + j) = x at *
              generalize f (j * 3 + k) = y at *
              obtain ⟨q1, hq1⟩ : ∃ q, k * 3 + j = q := ⟨_, rfl⟩
              obtain ⟨q2, hq2⟩ : ∃ q, j * 3 + k = q := ⟨_, rfl⟩
              rw [hq1] at c1
              rw [hq2] at c2
              have hwa : IntKind.i64.wrap (3 * (k : Int)) = 3 * (k : Int) := IntWalk.i64_in _ (by omega)
              have hwb : IntKind.i64.wrap (3 * (j : Int)) = 3 * (j : Int) := IntWalk.i64_in _ (by omega)
              have hwc : IntKind.i64.wrap (q1 : Int) = (q1 : Int) := IntWalk.i64_in _ (by omega)
              have hwd : IntKind.i64.wrap (q2 : Int) = (q2 : Int) := IntWalk.i64_in _ (by omega)
              have he1 : 3 * (k : Int) + (j : Int) = (q1 : Int) := by omega
              have he2 : 3 * (j : Int) + (k : Int) = (q2 : Int) := by omega
              have hu1 : (q1 : Int) < 9 := by omega
              have hu2 : (q2 : Int) < 9 := by omega
              clear hq1 hq2
              have b3 : 0 ≤ min x y ∧ min x y ≤ 4 ∧ min x y ≤ x ∧ min x y ≤ y := by omega
              by_cases hkj : k < j
              · have hkji : (k : Int) < (j : Int) := by omega
                rw [if_pos hkj] at HS1 HS2
                go_wp2_with fail
                go_region
                go_wp2_with fail
                generalize min x y = m at *
                have hw1 : IntKind.i64.wrap (2 * m) = 2 * m := IntWalk.i64_in _ (by omega)
                have hw2 : IntKind.i64.wrap (l2 + x) = l2 + x := IntWalk.i64_in _ (by omega)
                have hw3 : IntKind.i64.wrap (l2 + x + y) = l2 + x + y := IntWalk.i64_in _ (by omega)
                have hw4 : IntKind.i64.wrap (l2 + x + y - 2 * m) = l2 + x + y - 2 * m := IntWalk.i64_in _ (by omega)
                go_region
                go_wp2_with fail
                go_roundw
                case rel => exact ⟨j + 1, p2 + m, l2 + x + y - 2 * m, h + x, v + y, by omega, by go_num, by first | rfl | go_num, by first | rfl | go_num, by first | rfl | go_num, by first | rfl | go_num, Lib.hid (by rw [HS1.out, HP2.out]; omega), Lib.hid (by rw [HS2.out, HL2.out]; omega), Lib.hid (by rw [HS3.out, HH.out]), Lib.hid (by rw [HS4.out, HV.out]), by omega, by omega, by omega, by omega, by omega, by omega, by omega, by omega, Lib.hid TQ.out.drew.drew, Lib.hid BQ.out.drew.drew⟩
                case measure => simp [intOf]; omega
              · have hkji : (j : Int) ≤ (k : Int) := by omega
                rw [if_neg hkj] at HS1 HS2
                go_wp2_with fail
                go_roundw
                case rel => exact ⟨j + 1, p2, l2, h + x, v + y, by omega, by go_num, rfl, rfl, by first | rfl | go_num, by first | rfl | go_num, Lib.hid (by rw [HS1.out, HP2.out]; omega), Lib.hid (by rw [HS2.out, HL2.out]; omega), Lib.hid (by rw [HS3.out, HH.out]), Lib.hid (by rw [HS4.out, HV.out]), by omega, by omega, by omega, by omega, by omega, by omega, by omega, by omega, TQ, BQ⟩
                case measure => simp [intOf]; omega
            · obtain rfl : j = 3 := by omega
              have HP3 : Hid (p2 = sumT (fun a => sumT (gP f a) 3) (k + 1)) := Lib.hid (by rw [HP2.out, HP.out]; rfl)
              have HL3 : Hid (l2 = sumT (fun a => sumT (gL f a) 3) (k + 1)) := Lib.hid (by rw [HL2.out, HL.out]; rfl)
              by_cases hne : h = v
              · have htf : (h != v) = false := by simp [hne]
                have HN : Hid (∀ j, j < k + 1 → hasT f j 3 = wantT f j 3) := by
                  have : ∀ j, j < k + 1 → hasT f j 3 = wantT f j 3 := fun j hj => by
                    by_cases e : j = k
                    · rw [e, ← HH.out, ← HV.out, hne]
                    · exact HK.out j (by omega)
                  exact Lib.hid this
                clear hne
                go_wp2_with fail
                go_roundw
                case rel => exact ⟨k + 1, p2, l2, by omega, by go_num, rfl, rfl, HP3, HL3, HN, h2, by omega, h4, by omega, TQ, BQ⟩
                case measure => simp [intOf]; omega
              · have htf : (h != v) = true := by simp [hne]
                have HN : Hid (dayF f = -1) := by
                  have := metF_false (f := f) hlt (by rw [← HH.out, ← HV.out]; exact hne)
                  exact Lib.hid (by simp [dayF, this])
                clear hne
                go_wp2_with fail
                go_ret
                exact ⟨ret_int (by rw [HFE.out]; exact HN.out.symm), BQ.out⟩
        · obtain rfl : k = 3 := by omega
          have hq : l.tdiv 3 = l / 3 := Int.tdiv_eq_ediv_of_nonneg hl0
          have HE : Hid (dayF f = p + l / 3 * 2) := Lib.hid (by rw [dayF, if_pos (metF_true HK.out), swF, ← gP_rows, ← gL_rows, HP.out, HL.out]; omega)
          go_wp2_with fail
          go_ret
          exact ⟨ret_int (by rw [HFE.out]; exact HE.out.symm), BR.out⟩
end Go.Proofs.Ytggohgkjdnnndaa
