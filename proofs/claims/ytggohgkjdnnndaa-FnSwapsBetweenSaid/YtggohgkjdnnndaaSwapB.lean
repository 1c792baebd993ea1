/- SwapsBetween of the program: what it returns, for every argument. No condition. -/
import Derived.Test.YtggohgkjdnnndaaSwapD
import Derived.Test.YtggohgkjdnnndaaSwapLoad
namespace Go.Proofs.Ytggohgkjdnnndaa
open Go.RowKit

theorem cntTo_pairs : ∀ (n : Nat) (f t : List Nat) (p : Nat), f.length = n → t.length = n → cntTo (fun j => Nat.beq (f.getD j 0 * 3 + t.getD j 0) p) n = (wP f t p : Int) := by
  have hfront : ∀ (p : Nat → Bool) (n : Nat), cntTo p (n + 1) = (if p 0 = true then 1 else 0) + cntTo (fun j => p (j + 1)) n := by
    intro p n
    induction n with
    | zero => simp [cntTo]
    | succ n ih => rw [cntTo, ih]; simp only [cntTo]; omega
  intro n
  induction n with
  | zero => intro f t p hf ht; rw [List.eq_nil_of_length_eq_zero hf]; rfl
  | succ n ih =>
    intro f t p hf ht
    obtain ⟨x, f, rfl⟩ : ∃ x g, f = x :: g := by cases f with | nil => simp at hf | cons x g => exact ⟨x, g, rfl⟩
    obtain ⟨y, t, rfl⟩ : ∃ x g, t = x :: g := by cases t with | nil => simp at ht | cons x g => exact ⟨x, g, rfl⟩
    rw [hfront]
    have := ih f t p (by simpa using hf) (by simpa using ht)
    rw [show (fun j => Nat.beq ((x :: f).getD (j + 1) 0 * 3 + (y :: t).getD (j + 1) 0) p) = fun j => Nat.beq (f.getD j 0 * 3 + t.getD j 0) p from by funext j; rfl, this]
    have e : x * 3 + y = 3 * x + y := by omega
    have e0 : (x :: f).getD 0 0 * 3 + (y :: t).getD 0 0 = 3 * x + y := e
    rw [e0]
    simp only [wP]
    cases Nat.beq (3 * x + y) p <;> simp
theorem wTo_cols {xs ys : List ByteArray} (hl : xs.length = ys.length) (d : Nat) : wTo (dayStr xs d) (dayStr ys d) xs.length = fun p => (wP (colN xs d) (colN ys d) p : Int) := by
  funext p
  rw [← cntTo_pairs xs.length (colN xs d) (colN ys d) p (colN_length _ _) (by rw [colN_length, hl])]
  refine cntTo_congrW fun j hj => ?_
  rw [dayStr_at _ _ _ hj, dayStr_at _ _ _ (show j < ys.length by omega), colN_getD _ _ _ hj, colN_getD _ _ _ (show j < ys.length by omega)]
theorem hasT_cols (f t : List Nat) (a : Nat) : hasT (fun p => (wP f t p : Int)) a 3 = (hasP f t a : Int) := by
  have e : a * 3 = 3 * a := Nat.mul_comm _ _
  simp only [hasT, sumT, hasP, e, Nat.add_zero]
  omega
theorem wantT_cols (f t : List Nat) (a : Nat) : wantT (fun p => (wP f t p : Int)) a 3 = (wantP f t a : Int) := by
  simp only [wantT, sumT, wantP, Nat.zero_mul, Nat.one_mul, Nat.zero_add, Nat.reduceMul]
  omega
theorem dec_beq (x y : Nat) : decide ((x : Int) = (y : Int)) = Nat.beq x y := by
  rw [Bool.eq_iff_iff, nbeq, decide_eq_true_eq]; omega
theorem metF_cols (f t : List Nat) : metF (fun p => (wP f t p : Int)) = metP f t := by
  rw [metF, hasT_cols, hasT_cols, hasT_cols, wantT_cols, wantT_cols, wantT_cols, dec_beq, dec_beq, dec_beq, metP, Bool.and_assoc]
theorem swF_cols (f t : List Nat) : swF (fun p => (wP f t p : Int)) = (dP f t : Int) := by
  simp only [swF, rowP, rowL, lfT, prT, sumT, dP, pairsP, leftP]
  simp only [Nat.zero_mul, Nat.one_mul, Nat.zero_add, Nat.add_zero, Nat.reduceMul, Nat.reduceAdd]
  omega
theorem wP_le : ∀ (f t : List Nat) (p : Nat), wP f t p ≤ f.length
  | [], _, _ => by simp [wP]
  | _ :: _, [], _ => by simp [wP]
  | a :: f, b :: t, p => by
    have := wP_le f t p
    simp only [wP, List.length_cons]
    cases Nat.beq (3 * a + b) p <;> simp <;> omega
theorem sml_cols {xs ys : List ByteArray} (h : xs.length ≤ 4) (d : Nat) : Sml (fun p => (wP (colN xs d) (colN ys d) p : Int)) := fun p _ => by
  have := wP_le (colN xs d) (colN ys d) p
  rw [colN_length] at this
  show 0 ≤ (wP (colN xs d) (colN ys d) p : Int) ∧ (wP (colN xs d) (colN ys d) p : Int) ≤ 4
  omega

theorem distTo_bd1 {xs ys : List ByteArray} (h : alike xs ys = true) (k : Nat) (hm : metP (colN xs k) (colN ys k) = true) : dP (colN xs k) (colN ys k) ≤ 4 := by
  have M := (day_met h k hm).dif
  have hd : ∀ f t : List Nat, difP f t ≤ f.length := by
    intro f
    induction f with
    | nil => intro t; cases t <;> simp [difP]
    | cons x f ih =>
      intro t
      cases t with
      | nil => simp [difP]
      | cons y t =>
        have := ih t
        simp only [difP, List.length_cons]
        cases Nat.beq x y <;> simp <;> omega
  have h1 := hd (colN xs k) (colN ys k)
  have h4 := (rosterOk_iff.1 (alike_iff.1 h).1).2.1
  rw [colN_length] at h1
  omega

set_option maxHeartbeats 6400000 in
theorem implSwaps_any (u v : Value) (xs ys : List ByteArray) (hx : Short xs) (hy : Short ys) (w : World) (hu : IsStrs w u xs) (hv : IsStrs w v ys) :
    Calls Try.prog 20 #[u, v] w fun e w' => e = .returned (.int .i64 (swapsOf xs ys)) ∧ Below w.heap.size w w' := by
  have HA := Lib.hid (implAlike_any u v xs ys hx hy w hu hv)
  have HIX := Lib.hid hu
  have HIY := Lib.hid hv
  have HDX := Lib.hid (fun d W hI => implDayOf_any u xs hx d W hI)
  have HDY := Lib.hid (fun d W hI => implDayOf_any v ys hy d W hI)
  obtain ⟨a1, c1, rfl, hc1, hm1⟩ := hu.form
  obtain ⟨a2, c2, rfl, hc2, hm2⟩ := hv.form
  cases hal : alike xs ys with
  | false =>
    rw [hal] at HA
    have HE := Lib.hid (swapsOf_no1 hal)
    clear hu hv hx hy hal
    go_enter Try.func20, Try.ntmps20
    go_wp2_with fail
    refine HA.out.mono ?_
    rintro e w1 ⟨rfl, hb1⟩
    go_wp2_with fail
    go_ret
    exact ⟨ret_int HE.out.symm, hb1⟩
  | true =>
    rw [hal] at HA
    have HAL := Lib.hid hal
    obtain ⟨r1, r2, hl, hd⟩ := alike_iff.1 hal
    have h10 := (rosterOk_iff.1 r1).1
    have h14 := (rosterOk_iff.1 r1).2.1
    have h12 := (rosterOk_iff.1 r1).2.2.1
    have HR1 := Lib.hid r1
    have HR2 := Lib.hid r2
    have HDD := Lib.hid hd
    have HLL := Lib.hid hl
    have k1 : 0 < xs.length := h10
    obtain ⟨g1, o1, rfl, hg1, hd1⟩ := hu.at k1
    have hs0 := daysOf_get (xs := xs) k1
    have e0 := hd1 0 k1
    have HC0 := Lib.hid (fun W (hb : Below w.heap.size w W) => (hb.cell (p := ⟨g1, o1, none⟩) hg1).trans e0)
    have HS0 := Lib.hid hs0
    have h012 : xs[0].size ≤ 12 := by omega
    clear hu hv hx hy hal r1 r2 hl hd hd1 hg1 hs0 e0 h12
    generalize xs[0] = s0 at *
    go_enter Try.func20, Try.ntmps20
    go_wp2_with fail
    refine HA.out.mono ?_
    rintro e w1 ⟨rfl, hb1⟩
    have c0 := HC0.out _ hb1
    have B1 := Lib.hid hb1
    clear hb1
    go_wp2_with fail
    clear c0
    go_loopw [5, 6, 7, 16] (fun sv _ _ iv wr => ∃ (k : Nat) (s : Int), k ≤ s0.size ∧ iv = .int .i64 (k : Int) ∧ sv = .int .i64 s ∧ Hid (s = (distTo xs ys k : Int)) ∧ Hid (metTo xs ys k = true) ∧ 0 ≤ s ∧ s ≤ 4 * k ∧ Hid (Below w.heap.size w wr)) (fun _ _ _ iv _ => s0.size - (intOf iv).toNat)
    case atStart => exact ⟨0, 0, Nat.zero_le _, rfl, rfl, Lib.hid rfl, Lib.hid rfl, Int.le_refl _, by omega, B1⟩
    case round =>
      obtain ⟨k, s, hk, rfl, rfl, HS, HM, hs0, hs1, HB⟩ := hrel
      by_cases hlt : k < s0.size
      · have hki : (k : Int) < (s0.size : Int) := by omega
        have hkx : k < daysOf xs := by have := HS0.out; omega
        have hky : k < daysOf ys := by have := HDD.out; omega
        have HX := Lib.hid (fun W hI => HDX.out (k : Int) W hI)
        have HY := Lib.hid (fun W hI => HDY.out (k : Int) W hI)
        rw [dayOf_yes HR1.out hkx] at HX
        rw [dayOf_yes HR2.out hky] at HY
        have HW := Lib.hid (fun W => wishesOn_any (dayStr xs k) (dayStr ys k) W (by rw [dayStr_size]; exact h14) (by rw [dayStr_size, dayStr_size]; exact HLL.out.symm) (dayStr_word HR1.out k hkx) (dayStr_word HR2.out k hky))
        rw [dayStr_size, wTo_cols HLL.out k] at HW
        have HCM := Lib.hid (fun W => canBeMet_any _ (sml_cols (ys := ys) h14 k) W)
        have HSW := Lib.hid (fun W => swapsT_any _ (sml_cols (ys := ys) h14 k) W)
        rw [metF_cols] at HCM
        rw [swF_cols] at HSW
        generalize (fun p => (wP (colN xs k) (colN ys k) p : Int)) = f at *
        go_wp2_with fail
        refine (HX.out _ (HIX.out.below HB.out)).mono ?_
        rintro e w2 ⟨rfl, hb2⟩
        have B2 := Lib.hid (HB.out.trans (hb2.mono HB.out.size))
        clear hb2
        go_wp2_with fail
        refine (HY.out _ (HIY.out.below B2.out)).mono ?_
        rintro e w3 ⟨rfl, hb3⟩
        have B3 := Lib.hid (B2.out.trans (hb3.mono B2.out.size))
        clear hb3
        go_wp2_with fail
        refine (HW.out _).mono ?_
        rintro e w4 ⟨rfl, hb4⟩
        have B4 := Lib.hid (B3.out.trans (hb4.mono B3.out.size))
        clear hb4
        unfold tblV at HCM HSW ⊢
        have T4 := Lib.hid (tbl_agg w4 62 f)
        have B5 := Lib.hid (B4.out.alloc B4.out.size (.cells #[.int .i64 (f 0), .int .i64 (f 1), .int .i64 (f 2), .int .i64 (f 3), .int .i64 (f 4), .int .i64 (f 5), .int .i64 (f 6), .int .i64 (f 7), .int .i64 (f 8)] 62))
        cases hm : metP (colN xs k) (colN ys k) with
        | false =>
          rw [hm] at HCM
          have HE := Lib.hid (swapsOf_no2 hkx hm)
          clear hm HSW
          go_wp2_with fail
          refine (HCM.out _).mono ?_
          rintro e w5 ⟨rfl, hb5⟩
          have B6 := Lib.hid (B5.out.trans (hb5.mono B5.out.size))
          clear hb5
          go_wp2_with fail
          go_ret
          exact ⟨ret_int HE.out.symm, B6.out⟩
        | true =>
          rw [hm] at HCM
          have HMN : Hid (metTo xs ys (k + 1) = true) := Lib.hid (by rw [metTo_succ, HM.out, hm]; rfl)
          have HDN : Hid (distTo xs ys (k + 1) = distTo xs ys k + dP (colN xs k) (colN ys k)) := Lib.hid rfl
          have hdb : dP (colN xs k) (colN ys k) ≤ 4 := by
            have h1 := distTo_bd1 HAL.out k hm
            omega
          clear hm
          generalize dP (colN xs k) (colN ys k) = dk at *
          have hwr : IntKind.i64.wrap (s + (dk : Int)) = s + (dk : Int) := IntWalk.i64_in _ (by omega)
          go_wp2_with fail
          refine (HCM.out _).mono ?_
          rintro e w5 ⟨rfl, hb5⟩
          have T5 := T4.out.below hb5
          have B6 := Lib.hid (B5.out.trans (hb5.mono B5.out.size))
          clear hb5
          have c0 := T5.cell 0 (by omega)
          have c1 := T5.cell 1 (by omega)
          have c2 := T5.cell 2 (by omega)
          have c3 := T5.cell 3 (by omega)
          have c4 := T5.cell 4 (by omega)
          have c5 := T5.cell 5 (by omega)
          have c6 := T5.cell 6 (by omega)
          have c7 := T5.cell 7 (by omega)
          have c8 := T5.cell 8 (by omega)
          clear T5
          go_wp2_with fail
          refine (HSW.out _).mono ?_
          rintro e w6 ⟨rfl, hb6⟩
          have B7 := Lib.hid (B6.out.trans (hb6.mono B6.out.size))
          clear hb6 c0 c1 c2 c3 c4 c5 c6 c7 c8
          go_wp2_with fail
          go_roundw
          case rel => exact ⟨k + 1, s + (dk : Int), by omega, by go_num, by first | rfl | go_num, Lib.hid (by rw [HDN.out, HS.out]; omega), HMN, by omega, by omega, B7⟩
          case measure => simp [intOf]; omega
      · obtain rfl : k = s0.size := by omega
        have HE : Hid (swapsOf xs ys = s) := by
          have h1 := HM.out
          have h2 := HS.out
          rw [← HS0.out] at h1 h2
          exact Lib.hid (by rw [swapsOf_yes HAL.out h1, h2])
        go_wp2_with fail
        go_ret
        exact ⟨ret_int HE.out.symm, HB.out⟩
end Go.Proofs.Ytggohgkjdnnndaa
