/- impl.CountNecklaces: its closure, the count, and the whole. No condition. -/
import Derived.Test.YtpcependeealfaaNeckImpl
namespace Go.Proofs.Ytpcependeealfaa
open Go.RowKit

theorem cntOf_take (p : List UInt8 → Bool) (ws : List (List UInt8)) (k : Nat) (h : k < ws.length) : cntOf p (ws.take (k + 1)) = cntOf p (ws.take k) + if p ws[k] = true then 1 else 0 := by
  rw [List.take_succ_eq_append_getElem h, cntOf_append]
  simp [cntOf]

set_option maxHeartbeats 1600000 in
theorem neckClosure_any (m : M) (B : Nat) (i : Int) (l : List UInt8) (n : Nat) (nv ev : Value) (w : World) (hM : MachBox B m.st nv m.next ev m.ends w) (hk : m.ok = true) (hst : (Lit.int .i64 m.st).wf = true) (hl : l.length = n) (ha : allL l = true) (h1 : 1 ≤ n) (h6 : n ≤ 6) :
    Calls Try.prog 104 #[.int .i64 i, .string (txtOf l), .pointer (some ⟨B, 0, none⟩)] w fun e w' => e = .returned (.bool (neckB m l)) ∧ Below w.heap.size w w' := by
  obtain ⟨HLR, HRK⟩ := neck_is hk hl ha h1 h6
  have hszd : (txtOf l).size ≤ maxLen := by rw [txtOf_size]; unfold maxLen; omega
  have HC1 := Lib.hid (fun W => implLeastRoll_any (txtOf l) W hszd)
  have HC2 := Lib.hid (fun W a b => implRingOk_any m (txtOf l) nv ev W a b hst hszd)
  rw [HLR] at HC1
  rw [HRK] at HC2
  have hbq := txt_beq (leastR l) l
  have HN : Hid (neckB m l = (decide (leastR l = l) && decide (0 ≤ ringL m l))) := Lib.hid rfl
  have MM := Lib.hid hM
  clear hM hk HLR HRK hszd
  by_cases he : leastR l = l
  · rw [decide_eq_true he] at hbq HN
    rw [he] at HC1 hbq
    generalize decide (0 ≤ ringL m l) = g at *
    generalize txtOf l = dt at *
    clear he
    go_enter Try.func104, Try.ntmps104
    go_wp2_with (first | (go_at_call 47; refine (HC1.out _).mono ?_; rintro e w5 ⟨rfl, hb5⟩; have M5 := Lib.hid (MM.out.below hb5); have Q5 := Lib.hid hb5; clear hb5; have z10 := M5.out.c0; have z11 := M5.out.c1; have z12 := M5.out.c2) | (go_at_call 42; refine (HC2.out _ M5.out.ints M5.out.bools).mono ?_; rintro e w6 ⟨rfl, hb6⟩; have Q6 := Lib.hid (Q5.out.trans (hb6.mono Q5.out.size)); clear hb6))
    go_ret
    exact ⟨ret_bool (by rw [HN.out, Bool.true_and]), Q6.out⟩
  · rw [decide_eq_false he] at hbq HN
    generalize txtOf (leastR l) = dl at *
    generalize txtOf l = dt at *
    clear he
    go_enter Try.func104, Try.ntmps104
    go_wp2_with (go_at_call 47; refine (HC1.out _).mono ?_; rintro e w5 ⟨rfl, hb5⟩; have Q5 := Lib.hid hb5; clear hb5)
    go_ret
    exact ⟨ret_bool (by rw [HN.out, Bool.false_and]), Q5.out⟩

set_option maxHeartbeats 1600000 in
theorem countNeck_any (m : M) (B : Nat) (n : Nat) (v nv ev : Value) (w : World) (hM : MachBox B m.st nv m.next ev m.ends w) (hk : m.ok = true) (hst : (Lit.int .i64 m.st).wf = true) (h1 : 1 ≤ n) (h6 : n ≤ 6) (h : WordRow w v (wordsL n)) :
    Calls Try.prog 89 #[v, .func (.func 104) #[] #[.pointer (some ⟨B, 0, none⟩)]] w
      fun e w' => e = .returned (.int .i64 (cntOf (neckB m) (wordsL n))) ∧ Below w.heap.size w w' := by
  have HCL := Lib.hid (fun l (hl : l ∈ wordsL n) i W a => neckClosure_any m B i l n nv ev W a hk hst (wordsL_mem n l hl).1 (wordsL_mem n l hl).2 h1 h6)
  have HW := Lib.hid h
  have MM := Lib.hid hM
  have hle := (wordsL_le n n (Nat.le_refl _) h6).2
  obtain ⟨g, cap, rfl, -, -⟩ := h
  clear hM hk h1 h6
  generalize wordsL n = ws at *
  go_enter Try.func89, Try.ntmps89
  go_wp2_with fail
  go_loopw [5, 6, 7, 10] (fun c _ _ i wr => ∃ (k : Nat) (ki : Int), ki = (k : Int) ∧ k ≤ ws.length ∧ i = .int .i64 ki ∧ c = .int .i64 (cntOf (neckB m) (ws.take k)) ∧ Below w.heap.size w wr) (fun _ _ _ i _ => ws.length - (intOf i).toNat)
  case atStart => exact ⟨0, 0, rfl, Nat.zero_le _, rfl, rfl, Below.refl _ _⟩
  case round =>
    obtain ⟨k, ki, hki, hk, rfl, rfl, hb⟩ := hrel
    have HB := Lib.hid hb
    have HKI := Lib.hid hki
    have hbd := cntOf_bd (neckB m) (ws.take k)
    have hbl : (ws.take k).length ≤ 729 := by rw [List.length_take]; omega
    have hq : IntKind.i64.wrap (ki + 1) = ki + 1 := IntWalk.i64_in _ (by omega)
    clear hb
    by_cases hlt : k < ws.length
    · have hltI : ki < (ws.length : Int) := by omega
      have hk0 : 0 ≤ ki := by omega
      have hkt : ki.toNat = k := by omega
      obtain ⟨g', cap', e1, -, hc⟩ := HW.out.below HB.out
      simp only [Value.slice.injEq, Option.some.injEq, Addr.mk.injEq, and_true, true_and] at e1
      obtain ⟨rfl, rfl⟩ := e1
      have c1 := hc k hlt
      have HK := Lib.hid (fun W a => HCL.out ws[k] (List.getElem_mem hlt) ki W a)
      have HST := Lib.hid (cntOf_take (neckB m) ws k hlt)
      clear hc hki
      generalize hx : cntOf (neckB m) (ws.take k) = c at *
      clear hx
      cases hn : neckB m ws[k] with
      | true =>
        have HS := Lib.hid (HST.out.trans (by rw [hn]; rfl : _ = c + 1))
        rw [hn] at HK
        generalize ws[k] = wd at *
        clear hn
        have hq2 : IntKind.i64.wrap (c + 1) = c + 1 := IntWalk.i64_in _ (by omega)
        go_wp2_with (go_at_call 104; refine (HK.out _ (MM.out.below HB.out)).mono ?_; rintro e w5 ⟨rfl, hb5⟩; have Q5 := Lib.hid (HB.out.trans (hb5.mono HB.out.size)); clear hb5)
        go_roundw
        case rel => exact ⟨k + 1, ki + 1, by have := HKI.out; omega, by omega, by first | rfl | rw [hq], by rw [HS.out], Q5.out⟩
        case measure => simp [intOf]; have := HKI.out; omega
      | false =>
        have HS := Lib.hid (HST.out.trans (by rw [hn, if_neg (by decide)]; exact Int.add_zero _ : _ = c))
        rw [hn] at HK
        generalize ws[k] = wd at *
        clear hn
        go_wp2_with (go_at_call 104; refine (HK.out _ (MM.out.below HB.out)).mono ?_; rintro e w5 ⟨rfl, hb5⟩; have Q5 := Lib.hid (HB.out.trans (hb5.mono HB.out.size)); clear hb5)
        go_roundw
        case rel => exact ⟨k + 1, ki + 1, by have := HKI.out; omega, by omega, by first | rfl | rw [hq], by rw [HS.out], Q5.out⟩
        case measure => simp [intOf]; have := HKI.out; omega
    · have hnlt : ¬ ki < (ws.length : Int) := by omega
      obtain rfl : k = ws.length := by omega
      have HE := Lib.hid (congrArg (cntOf (neckB m)) (List.take_length (l := ws)))
      generalize cntOf (neckB m) (ws.take ws.length) = c at *
      clear hki
      go_wp2_with fail
      go_ret
      exact ⟨ret_int HE.out, HB.out⟩

theorem countNecks_list {m : M} {r : Nat} (h : m.ok = true) (g : ringNum (r : Int) = true) : countNecks m (r : Int) = cntOf (neckB m) (wordsL r) := by
  rw [countNecks, h, g]; rfl

set_option maxHeartbeats 1600000 in
theorem implCountNecklaces_any (m : M) (n : Int) (nv ev : Value) (w : World) (h1 : IsInts w nv m.next) (h2 : IsBools w ev m.ends) (hst : (Lit.int .i64 m.st).wf = true) :
    Calls Try.prog 59 #[.agg #[.int .i64 m.st, nv, ev], .int .i64 n] w fun e w' => e = .returned (.int .i64 (countNecks m n)) ∧ Below w.heap.size w w' := by
  have M0 := Lib.hid (MachBox.new (st := m.st) 26 h1 h2)
  have q0 : Hid (Below w.heap.size w (w.alloc (.cells #[.int .i64 m.st, nv, ev] 26))) := Lib.hid ((Below.refl _ _).alloc (Nat.le_refl _) _)
  have HIN := Lib.hid (fun W => ringLettersOk_any n W)
  clear h1 h2
  go_enter Try.func59, Try.ntmps59
  go_wp2_with fail
  refine (implMachineOk_any m nv ev _ M0.out.ints M0.out.bools hst).mono ?_
  rintro e w1 ⟨rfl, hb1⟩
  have M1 := Lib.hid (M0.out.below hb1)
  have q1 := Lib.hid (q0.out.trans (hb1.mono q0.out.size))
  clear hb1 M0
  by_cases hk : m.ok = true
  · rw [hk]
    by_cases hr : ringNum n = true
    · obtain ⟨r0, hr0, hr5⟩ := ringNum_nat hr
      obtain ⟨r, hrn⟩ : ∃ r : Nat, n = (r : Int) := ⟨n.toNat, by omega⟩
      have HE := Lib.hid (show countNecks m n = cntOf (neckB m) (wordsL r) by rw [hrn]; exact countNecks_list hk (by rw [← hrn]; exact hr))
      have HW := Lib.hid (fun W => implWords_any n r W hrn (by omega))
      have HC := Lib.hid (fun v W a b => countNeck_any m w.heap.size r v nv ev W a hk hst (by omega) (by omega) b)
      rw [hr] at HIN
      clear hk hr hr0 hr5 hrn
      go_wp2_with (go_at_call 100; refine (HIN.out _).mono ?_; rintro e w2 ⟨rfl, rfl⟩)
      refine (HW.out _).mono ?_
      rintro e w3 ⟨v, rfl, hrow, hb3⟩
      have HROW := Lib.hid hrow
      obtain ⟨g, cap, rfl, -, -⟩ := hrow
      have M3 := Lib.hid (M1.out.below hb3)
      have q3 := Lib.hid (q1.out.trans (hb3.mono q1.out.size))
      clear hb3
      go_wp2_with fail
      refine (HC.out _ _ M3.out HROW.out).mono ?_
      rintro e w4 ⟨rfl, hb4⟩
      go_wp2_with fail
      go_ret
      exact ⟨ret_int HE.out.symm, q3.out.trans (hb4.mono q3.out.size)⟩
    · have hrf : ringNum n = false := by simpa using hr
      have HE := Lib.hid (countNecks_no (m := m) (n := n) (by rw [hrf, Bool.and_false]))
      rw [hrf] at HIN
      clear hk hr hrf
      go_wp2_with (go_at_call 100; refine (HIN.out _).mono ?_; rintro e w2 ⟨rfl, rfl⟩)
      go_ret
      exact ⟨ret_int HE.out.symm, q1.out⟩
  · have hkf : m.ok = false := by simpa using hk
    have HE := Lib.hid (countNecks_no (m := m) (n := n) (by rw [hkf, Bool.false_and]))
    rw [hkf]
    clear hk hkf
    go_wp2_with fail
    go_ret
    exact ⟨ret_int HE.out.symm, q1.out⟩
end Go.Proofs.Ytpcependeealfaa
