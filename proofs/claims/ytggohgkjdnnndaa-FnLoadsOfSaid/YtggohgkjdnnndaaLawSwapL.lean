/- The walk of FnLoadsOf: true at every code. Written by mklawswapl.py. No condition. -/
import Derived.Test.YtggohgkjdnnndaaSwapDr
import Derived.Test.YtggohgkjdnnndaaSwapLd
import Derived.Test.YtggohgkjdnnndaaSame
import Derived.Test.YtggohgkjdnnndaaLawRost
namespace Go.Proofs.Ytggohgkjdnnndaa
open Go.RowKit

theorem IsInts.atL {w : World} {v : Value} {xs : List Int} (h : IsInts w v xs) (h0 : 0 < xs.length) : ∃ g off c : Nat, v = .slice (some ⟨g, off, none⟩) xs.length c ∧ g < w.heap.size ∧ ∀ k (h : k < xs.length), w.cell? ⟨g, off + k, none⟩ = some (.int .i64 xs[k]) := by
  obtain ⟨a, c, rfl, -, -, h3⟩ := h
  obtain ⟨g, off, rfl, hg, hc⟩ := h3.resolve_left (fun e => by rw [e] at h0; exact absurd h0 (Nat.lt_irrefl _))
  exact ⟨g, off, c, rfl, hg, hc⟩
theorem IsInts.formL {w : World} {v : Value} {xs : List Int} (h : IsInts w v xs) : ∃ a c, v = .slice a xs.length c := by
  obtain ⟨a, c, rfl, -⟩ := h
  exact ⟨a, c, rfl⟩
theorem short_smallL {xs : List ByteArray} (h : rosterOk xs = true) : Short xs := fun s hs => by
  have h1 := (rosterOk_iff.1 h).2.2.2 s hs
  have h2 := (rosterOk_iff.1 h).2.2.1
  unfold maxLen; omega
theorem loadsFor_nil (t : ByteArray) : loadsFor [] t = [] := loadsFor_no1 rfl
theorem sameInts_eq (u v : Value) (xs : List Int) (w : World) (hu : IsInts w u xs) (hv : IsInts w v xs) :
    Calls Try.prog 29 #[u, v] w fun e w' => e = .returned (.bool true) ∧ Below w.heap.size w w' :=
  (sameInts_any u v xs xs w hu hv).mono fun _ _ ⟨h, n, g⟩ => ⟨by rw [h]; simp, by rw [g]; exact below_drewN (Below.refl _ _) n⟩
theorem tot_takeL {xs : List Int} (h : ∀ x ∈ xs, 0 ≤ x ∧ x ≤ 12) (k : Nat) : 0 ≤ tot (xs.take k) ∧ tot (xs.take k) ≤ 12 * k := by
  induction k with
  | zero => simp [tot, sm]
  | succ k ih =>
    by_cases hk : k < xs.length
    · have e : tot (xs.take (k + 1)) = tot (xs.take k) + xs[k] := sm_snoc (fun x => x) xs k hk
      have := h _ (List.getElem_mem hk)
      rw [e]; omega
    · have e : xs.take (k + 1) = xs.take k := by rw [List.take_of_length_le (by omega), List.take_of_length_le (by omega)]
      rw [e]; omega
theorem tot_snocL (xs : List Int) (k : Nat) (h : k < xs.length) : tot (xs.take (k + 1)) = tot (xs.take k) + xs[k] := sm_snoc (fun x => x) xs k h
theorem intsK {w : World} {g off n c k : Nat} {xs : List Int} (h : IsInts w (.slice (some ⟨g, off, none⟩) n c) xs) (hk : k < xs.length) (W : World) (hb : Below w.heap.size w W) : W.cell? ⟨g, off + k, none⟩ = some (.int .i64 xs[k]) := by
  obtain ⟨g', o', c', e, hg, hc⟩ := h.atL (by omega)
  simp only [Value.slice.injEq, Option.some.injEq, Addr.mk.injEq] at e
  obtain ⟨⟨rfl, rfl, -⟩, -, -⟩ := e
  exact (hb.cell (p := ⟨g, off + k, none⟩) hg).trans (hc k hk)

set_option maxHeartbeats 6400000 in
set_option maxRecDepth 20000 in
theorem lawLoadsOf_walk {w : World} (a : Option Addr) (len cap : Nat) (zs : List Int) (h : IsRow .u8 w a len cap zs) :
    Calls Try.prog 6 #[.slice a len cap] w fun e w' => e = .returned (.bool true) ∧ Below w.heap.size w w' := by
  have HD := Lib.hid (drawLoadsOf_any a len cap zs w h)
  have hl := rowR_len h
  clear h
  by_cases hbig : 1048576 < len
  · go_enter Try.func6, Try.ntmps6
    go_wp2_with fail
    go_ret
    exact ⟨rfl, Below.refl _ _⟩
  go_enter Try.func6, Try.ntmps6
  go_wp2_with fail
  refine HD.out.mono ?_
  clear HD
  rintro e w1 ⟨xs, v, t, rfl, hs, ht23, ho, hb⟩
  obtain ⟨b, c, rfl, hc1, hc2, hI⟩ := drawnR_form ho
  have HSX := Lib.hid hs.short
  have I1 := Lib.hid hI
  have Q1 := Lib.hid hb
  have htm : t.size ≤ maxLen := by unfold maxLen; omega
  have HTM := Lib.hid htm
  clear hI ho hb hs htm
  have HIM := Lib.hid (fun (u : ByteArray) (hu : u.size ≤ maxLen) W hI => implLoads_any (.slice b xs.length c) xs HSX.out u hu W hI)
  have HSP := Lib.hid (fun W hI => specLoads_any (.slice b xs.length c) xs HSX.out t W hI)
  have H0 := Lib.hid (HIM.out t HTM.out)
  cases hok : (rosterOk xs && letterOk t) with
  | false =>
    rw [show loadsFor xs t = [] from by simp [loadsFor, hok]] at H0 HSP
    clear hok
    go_wp2_with fail
    refine (H0.out _ I1.out).mono ?_
    rintro e w2 ⟨v2, rfl, ho2, hb2⟩
    have Y2 := Lib.hid (IsInts.of_owns ho2)
    obtain ⟨a2, c2, rfl⟩ := (IsInts.of_owns ho2).formL
    have I2 := Lib.hid (I1.out.below hb2)
    have Q2 := Lib.hid (Q1.out.trans (hb2.mono Q1.out.size))
    clear ho2 hb2
    go_wp2_with fail
    refine (HSP.out _ I2.out).mono ?_
    rintro e w3 ⟨v3, rfl, ho3, hb3⟩
    have Z3 := Lib.hid (IsInts.of_owns ho3)
    have Y3 := Lib.hid (Y2.out.below hb3)
    have Q3 := Lib.hid (Q2.out.trans (hb3.mono Q2.out.size))
    clear ho3 hb3
    go_wp2_with fail
    refine (sameInts_eq _ _ [] _ Y3.out Z3.out).mono ?_
    rintro e w4 ⟨rfl, hb4⟩
    have Q4 := Lib.hid (Q3.out.trans (hb4.mono Q3.out.size))
    clear hb4
    go_wp2_with (go_at_call 17; refine (aliveR_any _).mono ?_; rintro e w' ⟨rfl, rfl⟩)
    go_ret
    exact ⟨rfl, Q4.out⟩
  | true =>
    obtain ⟨hr, hlt⟩ : rosterOk xs = true ∧ letterOk t = true := by simpa using hok
    have HR := Lib.hid hr
    have HLT := Lib.hid hlt
    rw [loadsFor_yes hr hlt] at H0 HSP
    have hRr := loadsFor_yes (t := ⟨#[114]⟩) hr (by decide)
    have hRd := loadsFor_yes (t := ⟨#[100]⟩) hr (by decide)
    have hRn := loadsFor_yes (t := ⟨#[110]⟩) hr (by decide)
    have Hr := Lib.hid (HIM.out ⟨#[114]⟩ (by decide))
    have Hd := Lib.hid (HIM.out ⟨#[100]⟩ (by decide))
    have Hn := Lib.hid (HIM.out ⟨#[110]⟩ (by decide))
    rw [hRr] at Hr
    rw [hRd] at Hd
    rw [hRn] at Hn
    have h10 := (rosterOk_iff.1 hr).1
    have h14 := (rosterOk_iff.1 hr).2.1
    have h12 := (rosterOk_iff.1 hr).2.2.1
    have k1 : 0 < xs.length := h10
    have hs0 := daysOf_get k1
    have HBL := Lib.hid (loadRow_bd hr hlt)
    have HBr := Lib.hid (loadRow_bd (t := ⟨#[114]⟩) hr (by decide))
    have HBd := Lib.hid (loadRow_bd (t := ⟨#[100]⟩) hr (by decide))
    have HBn := Lib.hid (loadRow_bd (t := ⟨#[110]⟩) hr (by decide))
    have HTH : Hid (∀ k (hk : k < xs.length) (h1 : k < (loadRow xs ⟨#[114]⟩).length) (h2 : k < (loadRow xs ⟨#[100]⟩).length) (h3 : k < (loadRow xs ⟨#[110]⟩).length), (loadRow xs ⟨#[114]⟩)[k] + (loadRow xs ⟨#[100]⟩)[k] + (loadRow xs ⟨#[110]⟩)[k] = (daysOf xs : Int)) := by
      have : ∀ k (hk : k < xs.length) (h1 : k < (loadRow xs ⟨#[114]⟩).length) (h2 : k < (loadRow xs ⟨#[100]⟩).length) (h3 : k < (loadRow xs ⟨#[110]⟩).length), (loadRow xs ⟨#[114]⟩)[k] + (loadRow xs ⟨#[100]⟩)[k] + (loadRow xs ⟨#[110]⟩)[k] = (daysOf xs : Int) := fun k hk h1 h2 h3 => by
        rw [loadRow_get, loadRow_get, loadRow_get, three_loads (roster_row HR.out k hk).2, (roster_row HR.out k hk).1]
      exact Lib.hid this
    have lr := loadRow_length xs ⟨#[114]⟩
    have ld := loadRow_length xs ⟨#[100]⟩
    have ln := loadRow_length xs ⟨#[110]⟩
    have ll := loadRow_length xs t
    have HSW := Lib.hid (fun W hI => implSwap_any (.slice b xs.length c) xs HSX.out 0 0 ((xs.length : Int) - 1) W hI)
    have HTS : Hid (swapOk xs 0 0 ((xs.length : Int) - 1) = true → rosterOk (swapd xs 0 0 ((xs.length : Int) - 1)) = true ∧ (swapd xs 0 0 ((xs.length : Int) - 1)).length = xs.length ∧ tot (loadRow (swapd xs 0 0 ((xs.length : Int) - 1)) t) = tot (loadRow xs t)) := by
      have : swapOk xs 0 0 ((xs.length : Int) - 1) = true → rosterOk (swapd xs 0 0 ((xs.length : Int) - 1)) = true ∧ (swapd xs 0 0 ((xs.length : Int) - 1)).length = xs.length ∧ tot (loadRow (swapd xs 0 0 ((xs.length : Int) - 1)) t) = tot (loadRow xs t) := fun h => by
        obtain ⟨g1, g2, g3⟩ := swap_roster h
        obtain ⟨f1, f2, f3, f4, f5⟩ := swapOk_iff.1 h
        refine ⟨g1, g3, ?_⟩
        rw [swapd, if_pos h]
        exact tot_swap f1 (by omega) (by omega) (by omega) (by omega) HLT.out
      exact Lib.hid this
    clear hok hr hlt hRr hRd hRn
    generalize loadRow xs ⟨#[114]⟩ = Lr at *
    generalize loadRow xs ⟨#[100]⟩ = Ld at *
    generalize loadRow xs ⟨#[110]⟩ = Ln at *
    generalize loadRow xs t = L at *
    have HLr := Lib.hid lr
    have HLd := Lib.hid ld
    have HLn := Lib.hid ln
    have HLl := Lib.hid ll
    clear lr ld ln ll
    have hwl : IntKind.i64.wrap ((xs.length : Int) - 1) = (xs.length : Int) - 1 := IntWalk.i64_in _ (by omega)
    go_wp2_with fail
    refine (H0.out _ I1.out).mono ?_
    rintro e w2 ⟨v2, rfl, ho2, hb2⟩
    have Y2 := Lib.hid (IsInts.of_owns ho2)
    obtain ⟨g2, o2, c2, rfl, -, -⟩ := (IsInts.of_owns ho2).atL (by rw [HLl.out]; exact k1)
    have I2 := Lib.hid (I1.out.below hb2)
    have Q2 := Lib.hid (Q1.out.trans (hb2.mono Q1.out.size))
    clear ho2 hb2
    go_wp2_with fail
    refine (HSP.out _ I2.out).mono ?_
    rintro e w3 ⟨v3, rfl, ho3, hb3⟩
    have Z3 := Lib.hid (IsInts.of_owns ho3)
    have Y3 := Lib.hid (Y2.out.below hb3)
    have I3 := Lib.hid (I2.out.below hb3)
    have Q3 := Lib.hid (Q2.out.trans (hb3.mono Q2.out.size))
    clear ho3 hb3
    go_wp2_with fail
    refine (sameInts_eq _ _ L _ Y3.out Z3.out).mono ?_
    rintro e w4 ⟨rfl, hb4⟩
    have Y4 := Lib.hid (Y3.out.below hb4)
    have I4 := Lib.hid (I3.out.below hb4)
    have Q4 := Lib.hid (Q3.out.trans (hb4.mono Q3.out.size))
    clear hb4
    have hl0 : ((L.length : Int) == 0) = false := by have := HLl.out; rw [beq_eq_false_iff_ne]; omega
    go_wp2_with fail
    refine (Hr.out _ I4.out).mono ?_
    rintro e w5 ⟨v5, rfl, ho5, hb5⟩
    have R5 := Lib.hid (IsInts.of_owns ho5)
    obtain ⟨g5, o5, c5, rfl, -, -⟩ := (IsInts.of_owns ho5).atL (by rw [HLr.out]; exact k1)
    have Y5 := Lib.hid (Y4.out.below hb5)
    have I5 := Lib.hid (I4.out.below hb5)
    have Q5 := Lib.hid (Q4.out.trans (hb5.mono Q4.out.size))
    clear ho5 hb5
    go_wp2_with fail
    refine (Hd.out _ I5.out).mono ?_
    rintro e w6 ⟨v6, rfl, ho6, hb6⟩
    have D6 := Lib.hid (IsInts.of_owns ho6)
    obtain ⟨g6, o6, c6, rfl, -, -⟩ := (IsInts.of_owns ho6).atL (by rw [HLd.out]; exact k1)
    have R6 := Lib.hid (R5.out.below hb6)
    have Y6 := Lib.hid (Y5.out.below hb6)
    have I6 := Lib.hid (I5.out.below hb6)
    have Q6 := Lib.hid (Q5.out.trans (hb6.mono Q5.out.size))
    clear ho6 hb6
    go_wp2_with fail
    refine (Hn.out _ I6.out).mono ?_
    rintro e w7 ⟨v7, rfl, ho7, hb7⟩
    have N7 := Lib.hid (IsInts.of_owns ho7)
    obtain ⟨g7, o7, c7, rfl, -, -⟩ := (IsInts.of_owns ho7).atL (by rw [HLn.out]; exact k1)
    have D7 := Lib.hid (D6.out.below hb7)
    have R7 := Lib.hid (R6.out.below hb7)
    have Y7 := Lib.hid (Y6.out.below hb7)
    have I7 := Lib.hid (I6.out.below hb7)
    have Q7 := Lib.hid (Q6.out.trans (hb7.mono Q6.out.size))
    clear ho7 hb7
    have hs12 : xs[0].size ≤ 12 := by omega
    have HS0 := Lib.hid hs0
    have hn1 : ((Lr.length : Int) != (xs.length : Int)) = false := by have := HLr.out; rw [bne_eq_false_iff_eq]; omega
    have hn2 : ((Ld.length : Int) != (xs.length : Int)) = false := by have := HLd.out; rw [bne_eq_false_iff_eq]; omega
    have hn3 : ((Ln.length : Int) != (xs.length : Int)) = false := by have := HLn.out; rw [bne_eq_false_iff_eq]; omega
    cases hok : swapOk xs 0 0 ((xs.length : Int) - 1) with
    | false =>
      rw [hok, swapd_no hok] at HSW
      clear hok HTS
      go_wp2_with fail
      refine (HSW.out _ I7.out).mono ?_
      rintro e w8 ⟨v8, rfl, ho8, hb8⟩
      obtain ⟨a8, c8, rfl, -, -, hI8⟩ := drawnR_form ho8
      have HLO := Lib.hid (implLoads_any (.slice a8 0 c8) [] (fun s h => by cases h) t HTM.out w8 hI8)
      rw [loadsFor_nil] at HLO
      have D8 := Lib.hid (D7.out.below hb8)
      have N8 := Lib.hid (N7.out.below hb8)
      have R8 := Lib.hid (R7.out.below hb8)
      have Y8 := Lib.hid (Y7.out.below hb8)
      have I8 := Lib.hid (I7.out.below hb8)
      have Q8 := Lib.hid (Q7.out.trans (hb8.mono Q7.out.size))
      clear ho8 hb8 hI8
      go_wp2_with fail
      refine HLO.out.mono ?_
      rintro e w9 ⟨v9, rfl, ho9, hb9⟩
      obtain ⟨a9, c9, rfl⟩ := (IsInts.of_owns ho9).formL
      have D9 := Lib.hid (D8.out.below hb9)
      have N9 := Lib.hid (N8.out.below hb9)
      have R9 := Lib.hid (R8.out.below hb9)
      have Y9 := Lib.hid (Y8.out.below hb9)
      have I9 := Lib.hid (I8.out.below hb9)
      have Q9 := Lib.hid (Q8.out.trans (hb9.mono Q8.out.size))
      clear ho9 hb9
      obtain ⟨bx, ox, rfl, hgx, hcx⟩ := I9.out.at k1
      have e0 := hcx 0 k1
      have CX := Lib.hid (fun W (hb : Below w9.heap.size w9 W) => (hb.cell (p := ⟨bx, ox, none⟩) hgx).trans e0)
      have C2 := Lib.hid (fun k hk W hb => intsK (k := k) Y9.out hk W hb)
      have C5 := Lib.hid (fun k hk W hb => intsK (k := k) R9.out hk W hb)
      have C6 := Lib.hid (fun k hk W hb => intsK (k := k) D9.out hk W hb)
      have C7 := Lib.hid (fun k hk W hb => intsK (k := k) N9.out hk W hb)
      clear hgx hcx e0 hs0
      generalize xs[0] = s0 at *
      go_wp2_with fail
      go_loopw [12, 13, 14] (fun av bv iv wr => ∃ (k : Nat) (av2 bv2 : Int), k ≤ xs.length ∧ iv = .int .i64 (k : Int) ∧ av = .int .i64 av2 ∧ bv = .int .i64 bv2 ∧ Hid (av2 = tot (L.take k)) ∧ 0 ≤ av2 ∧ av2 ≤ 12 * k ∧ Hid (Below w9.heap.size w9 wr) ∧ bv2 = 0) (fun _ _ iv _ => xs.length - (intOf iv).toNat)
      case atStart => exact ⟨0, 0, 0, Nat.zero_le _, rfl, rfl, rfl, Lib.hid (by simp [tot, sm]), Int.le_refl _, by omega, Lib.hid (Below.refl _ _), rfl⟩
      case round =>
        obtain ⟨k, av2, bv2, hk, rfl, rfl, rfl, HAT, ha0, ha1, HB, rfl⟩ := hrel
        by_cases hlt : k < xs.length
        · have hki : (k : Int) < (xs.length : Int) := by omega
          have q1 : k < Lr.length := by rw [HLr.out]; exact hlt
          have q2 : k < Ld.length := by rw [HLd.out]; exact hlt
          have q3 : k < Ln.length := by rw [HLn.out]; exact hlt
          have q4 : k < L.length := by rw [HLl.out]; exact hlt
          have q1i : (k : Int) < (Lr.length : Int) := by omega
          have q2i : (k : Int) < (Ld.length : Int) := by omega
          have q3i : (k : Int) < (Ln.length : Int) := by omega
          have q4i : (k : Int) < (L.length : Int) := by omega
          have hth := HTH.out k hlt q1 q2 q3
          have bb1 := HBr.out _ (List.getElem_mem q1)
          have bb2 := HBd.out _ (List.getElem_mem q2)
          have bb3 := HBn.out _ (List.getElem_mem q3)
          have bb4 := HBL.out _ (List.getElem_mem q4)
          have HT4 := Lib.hid (tot_snocL L k q4)
          have m0 := CX.out _ HB.out
          have m1 := C5.out k q1 _ HB.out
          have m2 := C6.out k q2 _ HB.out
          have m3 := C7.out k q3 _ HB.out
          have m4 := fun W hb => C2.out k q4 W hb
          have M4 := Lib.hid m4
          clear m4
          generalize Lr[k] = x1 at *
          generalize Ld[k] = x2 at *
          generalize Ln[k] = x3 at *
          generalize L[k] = x4 at *
          have hsum : x1 + x2 + x3 = (s0.size : Int) := by rw [hth, HS0.out]
          have hw1 : IntKind.i64.wrap (x1 + x2) = x1 + x2 := IntWalk.i64_in _ (by omega)
          have hw2 : IntKind.i64.wrap (x1 + x2 + x3) = x1 + x2 + x3 := IntWalk.i64_in _ (by omega)
          have hne : (x1 + x2 + x3 != (s0.size : Int)) = false := by simp [hsum]
          have hw4 : IntKind.i64.wrap (av2 + x4) = av2 + x4 := IntWalk.i64_in _ (by omega)
          clear hth hsum
          go_wp2_with fail
          go_quiet (fail)
          have BN := Lib.hid (fun n => below_drewN HB.out n)
          have m4 := fun n => M4.out _ (BN.out n)
          go_wp2_with fail
          go_roundw
          case rel => exact ⟨k + 1, av2 + x4, 0, by omega, by go_num, by first | rfl | go_num, rfl, Lib.hid (by rw [HT4.out, HAT.out]), by omega, by omega, Lib.hid (BN.out _), rfl⟩
          case measure => simp [intOf]; omega
        · obtain rfl : k = xs.length := by omega
          go_wp2_with fail
          go_ret
          exact ⟨rfl, Q9.out.trans (HB.out.mono Q9.out.size)⟩
    | true =>
      obtain ⟨rz1, rz2, rz3⟩ := HTS.out hok
      rw [hok] at HSW
      clear hok HTS
      generalize swapd xs 0 0 ((xs.length : Int) - 1) = zs at *
      have HZS := Lib.hid (short_smallL rz1)
      have HBZ := Lib.hid (loadRow_bd rz1 HLT.out)
      have hlz := loadRow_length zs t
      have hyz := loadsFor_yes rz1 HLT.out
      clear rz1
      generalize loadRow zs t = Lz at *
      have HLz := Lib.hid (hlz.trans rz2)
      have HTZ := Lib.hid rz3
      have hn4 : ((Lz.length : Int) != (xs.length : Int)) = false := by have := HLz.out; rw [bne_eq_false_iff_eq]; omega
      clear hlz rz2 rz3
      go_wp2_with fail
      refine (HSW.out _ I7.out).mono ?_
      rintro e w8 ⟨v8, rfl, ho8, hb8⟩
      obtain ⟨a8, c8, rfl, -, -, hI8⟩ := drawnR_form ho8
      have HLO := Lib.hid (implLoads_any (.slice a8 zs.length c8) zs HZS.out t HTM.out w8 hI8)
      rw [hyz] at HLO
      have D8 := Lib.hid (D7.out.below hb8)
      have N8 := Lib.hid (N7.out.below hb8)
      have R8 := Lib.hid (R7.out.below hb8)
      have Y8 := Lib.hid (Y7.out.below hb8)
      have I8 := Lib.hid (I7.out.below hb8)
      have Q8 := Lib.hid (Q7.out.trans (hb8.mono Q7.out.size))
      clear ho8 hb8 hI8 hyz
      go_wp2_with fail
      refine HLO.out.mono ?_
      rintro e w9 ⟨v9, rfl, ho9, hb9⟩
      have Z9 := Lib.hid (IsInts.of_owns ho9)
      obtain ⟨g9, o9, c9, rfl, -, -⟩ := (IsInts.of_owns ho9).atL (by rw [HLz.out]; exact k1)
      have D9 := Lib.hid (D8.out.below hb9)
      have N9 := Lib.hid (N8.out.below hb9)
      have R9 := Lib.hid (R8.out.below hb9)
      have Y9 := Lib.hid (Y8.out.below hb9)
      have I9 := Lib.hid (I8.out.below hb9)
      have Q9 := Lib.hid (Q8.out.trans (hb9.mono Q8.out.size))
      clear ho9 hb9
      obtain ⟨bx, ox, rfl, hgx, hcx⟩ := I9.out.at k1
      have e0 := hcx 0 k1
      have CX := Lib.hid (fun W (hb : Below w9.heap.size w9 W) => (hb.cell (p := ⟨bx, ox, none⟩) hgx).trans e0)
      have C2 := Lib.hid (fun k hk W hb => intsK (k := k) Y9.out hk W hb)
      have C5 := Lib.hid (fun k hk W hb => intsK (k := k) R9.out hk W hb)
      have C6 := Lib.hid (fun k hk W hb => intsK (k := k) D9.out hk W hb)
      have C7 := Lib.hid (fun k hk W hb => intsK (k := k) N9.out hk W hb)
      have C9 := Lib.hid (fun k hk W hb => intsK (k := k) Z9.out hk W hb)
      clear hgx hcx e0 hs0
      generalize xs[0] = s0 at *
      go_wp2_with fail
      go_loopw [12, 13, 14] (fun av bv iv wr => ∃ (k : Nat) (av2 bv2 : Int), k ≤ xs.length ∧ iv = .int .i64 (k : Int) ∧ av = .int .i64 av2 ∧ bv = .int .i64 bv2 ∧ Hid (av2 = tot (L.take k)) ∧ 0 ≤ av2 ∧ av2 ≤ 12 * k ∧ Hid (Below w9.heap.size w9 wr) ∧ Hid (bv2 = tot (Lz.take k)) ∧ 0 ≤ bv2 ∧ bv2 ≤ 12 * k) (fun _ _ iv _ => xs.length - (intOf iv).toNat)
      case atStart => exact ⟨0, 0, 0, Nat.zero_le _, rfl, rfl, rfl, Lib.hid (by simp [tot, sm]), Int.le_refl _, by omega, Lib.hid (Below.refl _ _), Lib.hid (by simp [tot, sm]), Int.le_refl _, by omega⟩
      case round =>
        obtain ⟨k, av2, bv2, hk, rfl, rfl, rfl, HAT, ha0, ha1, HB, HBT, hb0, hb1⟩ := hrel
        by_cases hlt : k < xs.length
        · have hki : (k : Int) < (xs.length : Int) := by omega
          have q1 : k < Lr.length := by rw [HLr.out]; exact hlt
          have q2 : k < Ld.length := by rw [HLd.out]; exact hlt
          have q3 : k < Ln.length := by rw [HLn.out]; exact hlt
          have q4 : k < L.length := by rw [HLl.out]; exact hlt
          have q1i : (k : Int) < (Lr.length : Int) := by omega
          have q2i : (k : Int) < (Ld.length : Int) := by omega
          have q3i : (k : Int) < (Ln.length : Int) := by omega
          have q4i : (k : Int) < (L.length : Int) := by omega
          have hth := HTH.out k hlt q1 q2 q3
          have bb1 := HBr.out _ (List.getElem_mem q1)
          have bb2 := HBd.out _ (List.getElem_mem q2)
          have bb3 := HBn.out _ (List.getElem_mem q3)
          have bb4 := HBL.out _ (List.getElem_mem q4)
          have HT4 := Lib.hid (tot_snocL L k q4)
          have m0 := CX.out _ HB.out
          have m1 := C5.out k q1 _ HB.out
          have m2 := C6.out k q2 _ HB.out
          have m3 := C7.out k q3 _ HB.out
          have m4 := fun W hb => C2.out k q4 W hb
          have M4 := Lib.hid m4
          clear m4
          have q5 : k < Lz.length := by rw [HLz.out]; exact hlt
          have q5i : (k : Int) < (Lz.length : Int) := by omega
          have bb5 := HBZ.out _ (List.getElem_mem q5)
          have HT5 := Lib.hid (tot_snocL Lz k q5)
          have M5 := Lib.hid (fun W hb => C9.out k q5 W hb)
          generalize Lr[k] = x1 at *
          generalize Ld[k] = x2 at *
          generalize Ln[k] = x3 at *
          generalize L[k] = x4 at *
          generalize Lz[k] = x5 at *
          have hsum : x1 + x2 + x3 = (s0.size : Int) := by rw [hth, HS0.out]
          have hw1 : IntKind.i64.wrap (x1 + x2) = x1 + x2 := IntWalk.i64_in _ (by omega)
          have hw2 : IntKind.i64.wrap (x1 + x2 + x3) = x1 + x2 + x3 := IntWalk.i64_in _ (by omega)
          have hne : (x1 + x2 + x3 != (s0.size : Int)) = false := by simp [hsum]
          have hw4 : IntKind.i64.wrap (av2 + x4) = av2 + x4 := IntWalk.i64_in _ (by omega)
          have hw5 : IntKind.i64.wrap (bv2 + x5) = bv2 + x5 := IntWalk.i64_in _ (by omega)
          clear hth hsum
          go_wp2_with fail
          go_quiet (fail)
          have BN := Lib.hid (fun n => below_drewN HB.out n)
          have m4 := fun n => M4.out _ (BN.out n)
          have m5 := fun n => M5.out _ (BN.out n)
          go_wp2_with fail
          go_roundw
          case rel => exact ⟨k + 1, av2 + x4, bv2 + x5, by omega, by go_num, by first | rfl | go_num, by first | rfl | go_num, Lib.hid (by rw [HT4.out, HAT.out]), by omega, by omega, Lib.hid (BN.out _), Lib.hid (by rw [HT5.out, HBT.out]), by omega, by omega⟩
          case measure => simp [intOf]; omega
        · obtain rfl : k = xs.length := by omega
          have hab : av2 = bv2 := by
            have e1 : L.take xs.length = L := List.take_of_length_le (by rw [HLl.out]; exact Nat.le_refl _)
            have e2 : Lz.take xs.length = Lz := List.take_of_length_le (by rw [HLz.out]; exact Nat.le_refl _)
            rw [HAT.out, HBT.out, e1, e2, HTZ.out]
          have habt : (av2 == bv2) = true := by simp [hab]
          clear hab
          go_wp2_with fail
          go_ret
          exact ⟨rfl, Q9.out.trans (HB.out.mono Q9.out.size)⟩
end Go.Proofs.Ytggohgkjdnnndaa
