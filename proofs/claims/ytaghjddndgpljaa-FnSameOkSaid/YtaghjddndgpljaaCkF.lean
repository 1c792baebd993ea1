/- The walk of FnSameOk: true at every two texts. No condition. -/
import Derived.Test.YtaghjddndgpljaaJoinM
import Derived.Test.YtaghjddndgpljaaCkE
import Derived.Test.YtaghjddndgpljaaDrawn5
import Derived.Deep.RegionWith
import Derived.Deep.RegionHeld3

namespace Go.Proofs.Ytaghjddndgpljaa
open Go.RowKit

theorem IsSame.comm {m k : M} {b : Bool} (h : IsSame k m b) : IsSame m k b := ⟨fun h1 h2 => (h.1 h2 h1).trans ⟨Eq.symm, Eq.symm⟩, fun h2 => h.2 h2.symm⟩
theorem IsJoin.wfS {ok b : Bool} {f : List (Fin 3) → Bool} {k : M} (h : IsJoin ok f k b) : (Lit.int .i64 k.st).wf = true := by
  rcases h with ⟨-, -, h1, h2⟩ | ⟨-, rfl, -⟩
  · exact WalkArith.wf_i64 (by have h3 := M.ok_shape (h1.mok3 h2); show _ ∧ _; omega)
  · rfl
theorem implShortM (m : M) (nv ev : Value) (w : World) (h1 : IsInts w nv m.next) (h2 : IsBools w ev m.ends) (hok : m.ok = true) :
    Calls Try.prog 23 #[.agg #[.int .i64 m.st, nv, ev]] w fun e w' => (∃ r : Option ByteArray, IsShort m r ∧ e = .returned (.tuple #[.string (r.getD ⟨#[]⟩), .bool r.isSome])) ∧ Below w.heap.size w w' := by
  obtain ⟨N, hN⟩ : ∃ N : Nat, m.st = (N : Int) := ⟨m.st.toNat, by have := M.ok_shape hok; omega⟩
  obtain ⟨st, xs, bs⟩ := m
  simp only at hN
  subst hN
  exact implShort_any N xs bs nv ev w h1 h2 hok

set_option maxHeartbeats 20000000 in
set_option maxRecDepth 100000 in
theorem lawSameOk_walk {w : World} (a : Option Addr) (len cap : Nat) (zs : List Int) (h : IsRow .u8 w a len cap zs) (b : Option Addr) (len2 cap2 : Nat) (zs2 : List Int) (h2 : IsRow .u8 w b len2 cap2 zs2) :
    Calls Try.prog 3 #[.slice a len cap, .slice b len2 cap2] w fun e w' => e = .returned (.bool true) ∧ Below w.heap.size w w' := by
  have HD := Lib.hid (drawSameOk_any a len cap zs w h)
  have H2 := Lib.hid h2
  have hl := h.len_le
  have hl2 := h2.len_le
  unfold maxLen at hl hl2
  clear h h2
  by_cases hbig : 1048576 < len
  · go_enter Try.func3, Try.ntmps3
    go_wp2_with fail
    go_ret
    exact ⟨rfl, Below.refl _ _⟩
  by_cases hbig2 : 1048576 < len2
  · go_enter Try.func3, Try.ntmps3
    go_wp2_with fail
    go_ret
    exact ⟨rfl, Below.refl _ _⟩
  go_enter Try.func3, Try.ntmps3
  go_wp2_with fail
  refine HD.out.mono ?_
  clear HD
  rintro e w1 ⟨m, k, a1, a2, a3, a4, c1, c2, c3, c4, rfl, hdm, hdk, hb1⟩
  have hwf := hdm.wf
  have hwk := hdk.wf
  have hm5 := hdm.s1
  have hk5 := hdk.s1
  obtain ⟨T0, q0⟩ := Two.new 26 hdm.ints hdm.bools hdk.ints hdk.bools
  have T1 := Lib.hid T0
  have q1 := Lib.hid (hb1.trans (q0.mono hb1.size))
  clear hb1 hdm hdk T0 q0
  have y0 := T1.out.a.c0
  have y1 := T1.out.a.c1
  have y2 := T1.out.a.c2
  have y3 := T1.out.b.c0
  have y4 := T1.out.b.c1
  have y5 := T1.out.b.c2
  go_wp2_with fail
  clear y0 y1 y2 y3 y4 y5
  generalize hW2 : (w1.alloc (.cells #[.int .i64 m.st, .slice a1 m.next.length c1, .slice a2 m.ends.length c2] 26)).alloc (.cells #[.int .i64 k.st, .slice a3 k.next.length c3, .slice a4 k.ends.length c4] 26) = w2 at *
  generalize hB6 : w1.heap.size + 1 = b6 at *
  generalize hB5 : w1.heap.size = b5 at *
  clear hW2 hB6 hB5
  refine (implSame_any m k _ _ _ _ w2 T1.out.a.ints T1.out.a.bools T1.out.b.ints T1.out.b.bools hwf hwk).mono ?_
  rintro e w3 ⟨⟨r, hr, rfl⟩, hb3⟩
  have HR := Lib.hid hr
  have T3 := Lib.hid (T1.out.below hb3)
  have q3 := Lib.hid (q1.out.trans (hb3.mono q1.out.size))
  clear hr hb3 T1 q1
  have y0 := T3.out.a.c0
  have y1 := T3.out.a.c1
  have y2 := T3.out.a.c2
  have y3 := T3.out.b.c0
  have y4 := T3.out.b.c1
  have y5 := T3.out.b.c2
  go_wp2_with fail
  clear y0 y1 y2 y3 y4 y5
  refine (specSameOk_any m k _ _ _ _ w3 T3.out.a.ints T3.out.a.bools T3.out.b.ints T3.out.b.bools hwf hwk).mono ?_
  rintro e w4 ⟨⟨r', hr, rfl⟩, hb4⟩
  obtain rfl := hr.one HR.out
  have T4 := Lib.hid (T3.out.below hb4)
  have q4 := Lib.hid (q3.out.trans (hb4.mono q3.out.size))
  have hbb : (r' != r') = false := by simp
  clear hr hb4 T3 q3
  have y0 := T4.out.a.c0
  have y1 := T4.out.a.c1
  have y2 := T4.out.a.c2
  go_wp2_with fail
  clear y0 y1 y2 hbb
  refine (specMachineOk_any m _ _ w4 T4.out.a.ints T4.out.a.bools hwf).mono ?_
  rintro e w5 ⟨rfl, hb5⟩
  have T5 := Lib.hid (T4.out.below hb5)
  have q5 := Lib.hid (q4.out.trans (hb5.mono q4.out.size))
  clear hb5 T4 q4
  cases hk1 : m.ok with
  | false =>
    obtain rfl : r' = false := HR.out.2 (.inl hk1)
    clear HR
    go_wp2_with fail
    refine (alive_any _).mono ?_
    rintro e w10 ⟨rfl, rfl⟩
    go_wp2_with fail
    go_ret
    exact ⟨rfl, q5.out⟩
  | true =>
  have y3 := T5.out.b.c0
  have y4 := T5.out.b.c1
  have y5 := T5.out.b.c2
  go_wp2_with fail
  clear y3 y4 y5
  refine (specMachineOk_any k _ _ w5 T5.out.b.ints T5.out.b.bools hwk).mono ?_
  rintro e w6 ⟨rfl, hb6⟩
  have T6 := Lib.hid (T5.out.below hb6)
  have q6 := Lib.hid (q5.out.trans (hb6.mono q5.out.size))
  clear hb6 T5 q5
  cases hk2 : k.ok with
  | false =>
    obtain rfl : r' = false := HR.out.2 (.inr hk2)
    clear HR
    go_wp2_with fail
    refine (alive_any _).mono ?_
    rintro e w10 ⟨rfl, rfl⟩
    go_wp2_with fail
    go_ret
    exact ⟨rfl, q6.out⟩
  | true =>
  have HK1 := Lib.hid hk1
  have HK2 := Lib.hid hk2
  clear hk1 hk2
  have y3 := T6.out.b.c0
  have y4 := T6.out.b.c1
  have y5 := T6.out.b.c2
  go_wp2_with fail
  clear y3 y4 y5
  refine (implNot_any k _ _ w6 T6.out.b.ints T6.out.b.bools hwk).mono ?_
  rintro e w7 h7
  obtain ⟨na, r1, nv7, ev7, hJa, rfl, hn7, he7, hb7⟩ := h7.reads
  have HJA := Lib.hid hJa
  have hwa := hJa.wfS
  obtain ⟨d1, n1, e1, rfl⟩ := hn7.slice
  obtain ⟨d2, n2, e2, rfl⟩ := he7.slice
  have hal := hb7.trans (((Below.refl w7.heap.size w7).alloc (Nat.le_refl _) (.cells #[.int .i64 na.st, .slice d1 n1 e1, .slice d2 n2 e2] 26)).mono hb7.size)
  have A8 := Lib.hid (MachBox.new (st := na.st) 26 hn7 he7)
  have T8 := Lib.hid (T6.out.below hal)
  have q8 := Lib.hid (q6.out.trans (hal.mono q6.out.size))
  clear hal hb7 h7 hn7 he7 T6 q6 hJa
  have y0 := T8.out.a.c0
  have y1 := T8.out.a.c1
  have y2 := T8.out.a.c2
  have y3 := A8.out.c0
  have y4 := A8.out.c1
  have y5 := A8.out.c2
  go_wp2_with fail
  clear y0 y1 y2 y3 y4 y5
  generalize hW8 : w7.alloc (.cells #[.int .i64 na.st, .slice d1 n1 e1, .slice d2 n2 e2] 26) = w8 at *
  generalize hB8 : w7.heap.size = b8 at *
  clear hW8 hB8
  refine (implBoth_any m na _ _ _ _ w8 T8.out.a.ints T8.out.a.bools A8.out.ints A8.out.bools hwf hwa).mono ?_
  rintro e w9 h9
  obtain ⟨nb, r2, nv9, ev9, hJb, rfl, hn9, he9, hb9⟩ := h9.reads
  have HJB := Lib.hid hJb
  obtain ⟨d3, n3, e3, rfl⟩ := hn9.slice
  obtain ⟨d4, n4, e4, rfl⟩ := he9.slice
  have hal := hb9.trans (((Below.refl w9.heap.size w9).alloc (Nat.le_refl _) (.cells #[.int .i64 nb.st, .slice d3 n3 e3, .slice d4 n4 e4] 26)).mono hb9.size)
  have X10 := Lib.hid (MachBox.new (st := nb.st) 26 hn9 he9)
  have T10 := Lib.hid (T8.out.below hal)
  have q10 := Lib.hid (q8.out.trans (hal.mono q8.out.size))
  clear hal hb9 h9 hn9 he9 T8 q8 A8 hJb
  have y0 := T10.out.a.c0
  have y1 := T10.out.a.c1
  have y2 := T10.out.a.c2
  go_wp2_with fail
  clear y0 y1 y2
  generalize hW10 : w9.alloc (.cells #[.int .i64 nb.st, .slice d3 n3 e3, .slice d4 n4 e4] 26) = w10 at *
  generalize hB10 : w9.heap.size = b10 at *
  clear hW10 hB10
  refine (implNot_any m _ _ w10 T10.out.a.ints T10.out.a.bools hwf).mono ?_
  rintro e w11 h11
  obtain ⟨nc, r3, nv11, ev11, hJc, rfl, hn11, he11, hb11⟩ := h11.reads
  have HJC := Lib.hid hJc
  have hwc := hJc.wfS
  obtain ⟨d5, n5, e5, rfl⟩ := hn11.slice
  obtain ⟨d6, n6, e6, rfl⟩ := he11.slice
  have hal := hb11.trans (((Below.refl w11.heap.size w11).alloc (Nat.le_refl _) (.cells #[.int .i64 nc.st, .slice d5 n5 e5, .slice d6 n6 e6] 26)).mono hb11.size)
  have C12 := Lib.hid (MachBox.new (st := nc.st) 26 hn11 he11)
  have X12 := Lib.hid (X10.out.below hal)
  have T12 := Lib.hid (T10.out.below hal)
  have q12 := Lib.hid (q10.out.trans (hal.mono q10.out.size))
  clear hal hb11 h11 hn11 he11 T10 q10 X10 hJc
  have y0 := T12.out.b.c0
  have y1 := T12.out.b.c1
  have y2 := T12.out.b.c2
  have y3 := C12.out.c0
  have y4 := C12.out.c1
  have y5 := C12.out.c2
  go_wp2_with fail
  clear y0 y1 y2 y3 y4 y5
  generalize hW12 : w11.alloc (.cells #[.int .i64 nc.st, .slice d5 n5 e5, .slice d6 n6 e6] 26) = w12 at *
  generalize hB12 : w11.heap.size = b12 at *
  clear hW12 hB12
  refine (implBoth_any k nc _ _ _ _ w12 T12.out.b.ints T12.out.b.bools C12.out.ints C12.out.bools hwk hwc).mono ?_
  rintro e w13 h13
  obtain ⟨nd, r4, nv13, ev13, hJd, rfl, hn13, he13, hb13⟩ := h13.reads
  obtain ⟨hr1, hr2, hr3, hr4, hob, hod, hfin⟩ := same_sides HK1.out HK2.out hm5 hk5 HR.out HJA.out HJB.out HJC.out hJd
  subst hr1 hr2 hr3 hr4
  have HFIN := Lib.hid hfin
  have HOB := Lib.hid hob
  have HOD := Lib.hid hod
  obtain ⟨d7, n7, e7, rfl⟩ := hn13.slice
  obtain ⟨d8, n8, e8, rfl⟩ := he13.slice
  have hal := hb13.trans (((Below.refl w13.heap.size w13).alloc (Nat.le_refl _) (.cells #[.int .i64 nd.st, .slice d7 n7 e7, .slice d8 n8 e8] 26)).mono hb13.size)
  have D14 := Lib.hid (MachBox.new (st := nd.st) 26 hn13 he13)
  have X14 := Lib.hid (X12.out.below hal)
  have T14 := Lib.hid (T12.out.below hal)
  have q14 := Lib.hid (q12.out.trans (hal.mono q12.out.size))
  clear hal hb13 h13 hn13 he13 T12 q12 X12 C12 hJd hfin hob hod HJA HJB HJC
  have y0 := X14.out.c0
  have y1 := X14.out.c1
  have y2 := X14.out.c2
  go_wp2_with fail
  clear y0 y1 y2
  generalize hW14 : w13.alloc (.cells #[.int .i64 nd.st, .slice d7 n7 e7, .slice d8 n8 e8] 26) = w14 at *
  generalize hB14 : w13.heap.size = b14 at *
  clear hW14 hB14
  refine (implShortM nb _ _ w14 X14.out.ints X14.out.bools HOB.out).mono ?_
  rintro e w15 ⟨⟨s1, hs1, rfl⟩, hb15⟩
  have HS1 := Lib.hid hs1
  have D15 := Lib.hid (D14.out.below hb15)
  have T15 := Lib.hid (T14.out.below hb15)
  have q15 := Lib.hid (q14.out.trans (hb15.mono q14.out.size))
  clear hs1 hb15 D14 X14 T14 q14
  have y0 := D15.out.c0
  have y1 := D15.out.c1
  have y2 := D15.out.c2
  go_wp2_with fail
  clear y0 y1 y2
  refine (implShortM nd _ _ w15 D15.out.ints D15.out.bools HOD.out).mono ?_
  rintro e w16 ⟨⟨s2, hs2, rfl⟩, hb16⟩
  have hrr := HFIN.out s1 s2 HS1.out hs2
  have T16 := Lib.hid (T15.out.below hb16)
  have q16 := Lib.hid (q15.out.trans (hb16.mono q15.out.size))
  clear hs2 hb16 HS1 HFIN D15 T15 q15
  generalize s1.isSome = lt at *
  generalize s2.isSome = rt at *
  have H16 := H2.out.below q16.out
  have HRR := Lib.hid hrr
  clear hrr
  go_wp2_with fail
  refine (drawTakesOk_any b len2 cap2 zs2 w16 H16).mono ?_
  clear H16
  rintro e w17 ⟨mm, nv8, ev8, s, rfl, hss, hd8, hb17⟩
  obtain ⟨f1, i1, g1, rfl⟩ := hd8.ints.slice
  obtain ⟨f2, i2, g2, rfl⟩ := hd8.bools.slice
  have hsm : s.size ≤ maxLen := by unfold maxLen; omega
  have hal := hb17.trans (((Below.refl w17.heap.size w17).alloc (Nat.le_refl _) (.cells #[.int .i64 mm.st, .slice f1 i1 g1, .slice f2 i2 g2] 26)).mono hb17.size)
  have T17 := Lib.hid (T16.out.below hal)
  have q17 := Lib.hid (q16.out.trans (hal.mono q16.out.size))
  clear hal hb17 hd8 T16 q16
  go_upto_region 16 with fail
  generalize hW17 : w17.alloc (.cells #[.int .i64 mm.st, .slice f1 i1 g1, .slice f2 i2 g2] 26) = W at *
  generalize hB17 : w17.heap.size = b17 at *
  clear hW17 hB17
  have HM : Hid (∀ V, Below W.heap.size W V → Tri b5 m.st (.slice a1 m.next.length c1) (.slice a2 m.ends.length c2) V) := Lib.hid (fun V h => (T17.out.below h).a.tri)
  have HK : Hid (∀ V, Below W.heap.size W V → Tri b6 k.st (.slice a3 k.next.length c3) (.slice a4 k.ends.length c4) V) := Lib.hid (fun V h => (T17.out.below h).b.tri)
  have BD := Lib.hid ((Below.refl W.heap.size W).drew)
  have hc : (lt = false ∧ rt = false ∧ r' = true) ∨ (lt = false ∧ rt = true ∧ r' = false) ∨ (lt = true ∧ r' = false) := by
    have h := HRR.out
    cases lt with
    | true => exact .inr (.inr ⟨rfl, h⟩)
    | false =>
      cases rt with
      | true => exact .inr (.inl ⟨rfl, rfl, h⟩)
      | false => exact .inl ⟨rfl, rfl, h⟩
  clear HRR
  rcases hc with ⟨rfl, rfl, rfl⟩ | ⟨rfl, rfl, rfl⟩ | ⟨rfl, rfl⟩
  · have hts : k.takes s = m.takes s := M.takes_same HK1.out HK2.out ((HR.out.1 HK1.out HK2.out).1 rfl).symm s
    have HTK0 := Lib.hid hts
    clear hts
    cases htm : m.takes s with
    | true =>
      have HTM := Lib.hid htm
      have HTK : Hid (k.takes s = true) := Lib.hid (HTK0.out.trans htm)
      clear htm HTK0
      go_region_held3 (fun w' => (w'.cell? ⟨b5, 0, none⟩ = some (.int .i64 m.st) ∧ w'.cell? ⟨b5, 1, none⟩ = some (.slice a1 m.next.length c1) ∧ w'.cell? ⟨b5, 2, none⟩ = some (.slice a2 m.ends.length c2)) ∧ (w'.cell? ⟨b6, 0, none⟩ = some (.int .i64 k.st) ∧ w'.cell? ⟨b6, 1, none⟩ = some (.slice a3 k.next.length c3) ∧ w'.cell? ⟨b6, 2, none⟩ = some (.slice a4 k.ends.length c4)))
        (first | (with_reducible exact ⟨(HM.out _ BD.out).cells, (HK.out _ BD.out).cells⟩) | (with_reducible exact ⟨(HM.out _ B18.out).cells, (HK.out _ B18.out).cells⟩) | (with_reducible exact ⟨(HM.out _ B19.out).cells, (HK.out _ B19.out).cells⟩) | (with_reducible exact ⟨(HM.out _ B20.out).cells, (HK.out _ B20.out).cells⟩))
        (first | (go_at_call 25; with_reducible refine (implTakesOk_any m s _ _ W.drew (T17.out.below BD.out).a.ints (T17.out.below BD.out).a.bools hwf hsm).mono ?_; rintro e w18 ⟨rfl, hb18⟩; rw [HTM.out]; have B18 := Lib.hid (Below.then' BD.out hb18); clear hb18) | (go_at_call 25; with_reducible refine (implTakesOk_any k s _ _ w18 (T17.out.below B18.out).b.ints (T17.out.below B18.out).b.bools hwk hsm).mono ?_; rintro e w19 ⟨rfl, hb19⟩; rw [HTK.out]; have B19 := Lib.hid (Below.then' B18.out hb19); clear hb19) | (go_at_call 17; with_reducible refine (implSame_any k m _ _ _ _ w19 (T17.out.below B19.out).b.ints (T17.out.below B19.out).b.bools (T17.out.below B19.out).a.ints (T17.out.below B19.out).a.bools hwk hwf).mono ?_; rintro e w20 ⟨⟨r9, hr9, rfl⟩, hb20⟩; obtain rfl := hr9.comm.one HR.out; have B20 := Lib.hid (Below.then' B19.out hb20); clear hb20))
      all_goals
        go_wp2_with fail
        go_ret
        exact ⟨rfl, q17.out.trans (B20.out.mono q17.out.size)⟩
    | false =>
      have HTM := Lib.hid htm
      have HTK : Hid (k.takes s = false) := Lib.hid (HTK0.out.trans htm)
      clear htm HTK0
      go_region_held3 (fun w' => (w'.cell? ⟨b5, 0, none⟩ = some (.int .i64 m.st) ∧ w'.cell? ⟨b5, 1, none⟩ = some (.slice a1 m.next.length c1) ∧ w'.cell? ⟨b5, 2, none⟩ = some (.slice a2 m.ends.length c2)) ∧ (w'.cell? ⟨b6, 0, none⟩ = some (.int .i64 k.st) ∧ w'.cell? ⟨b6, 1, none⟩ = some (.slice a3 k.next.length c3) ∧ w'.cell? ⟨b6, 2, none⟩ = some (.slice a4 k.ends.length c4)))
        (first | (with_reducible exact ⟨(HM.out _ BD.out).cells, (HK.out _ BD.out).cells⟩) | (with_reducible exact ⟨(HM.out _ B18.out).cells, (HK.out _ B18.out).cells⟩) | (with_reducible exact ⟨(HM.out _ B19.out).cells, (HK.out _ B19.out).cells⟩) | (with_reducible exact ⟨(HM.out _ B20.out).cells, (HK.out _ B20.out).cells⟩))
        (first | (go_at_call 25; with_reducible refine (implTakesOk_any m s _ _ W.drew (T17.out.below BD.out).a.ints (T17.out.below BD.out).a.bools hwf hsm).mono ?_; rintro e w18 ⟨rfl, hb18⟩; rw [HTM.out]; have B18 := Lib.hid (Below.then' BD.out hb18); clear hb18) | (go_at_call 25; with_reducible refine (implTakesOk_any k s _ _ w18 (T17.out.below B18.out).b.ints (T17.out.below B18.out).b.bools hwk hsm).mono ?_; rintro e w19 ⟨rfl, hb19⟩; rw [HTK.out]; have B19 := Lib.hid (Below.then' B18.out hb19); clear hb19) | (go_at_call 17; with_reducible refine (implSame_any k m _ _ _ _ w19 (T17.out.below B19.out).b.ints (T17.out.below B19.out).b.bools (T17.out.below B19.out).a.ints (T17.out.below B19.out).a.bools hwk hwf).mono ?_; rintro e w20 ⟨⟨r9, hr9, rfl⟩, hb20⟩; obtain rfl := hr9.comm.one HR.out; have B20 := Lib.hid (Below.then' B19.out hb20); clear hb20))
      all_goals
        go_wp2_with fail
        go_ret
        exact ⟨rfl, q17.out.trans (B20.out.mono q17.out.size)⟩
  · obtain ⟨rm0, rm1, rm2⟩ := (HM.out _ (Below.refl _ _)).cells
    obtain ⟨rk0, rk1, rk2⟩ := (HK.out _ (Below.refl _ _)).cells
    refine wp_region_any (by kernel_rfl) ?_
    change wpAny _ _ _ _ _ _ _ (World.drew _)
    refine wpAny_take (i := 0) (oi := ⟨some 93, _, _, _, _, _⟩) (v := .bool true) rfl (by kernel_rfl) (by kernel_rfl) (by kernel_rfl) (fun _ _ _ h => h) (Or.inl ⟨by rfl, by intro w; go_simp⟩) ?_; simp only [Act.put, List.setIfInBounds_toArray, List.set_cons_zero, List.set_cons_succ]
    refine wpAny_take (i := 1) (oi := ⟨some 94, _, _, _, _, _⟩) (v := .bool true) rfl (by kernel_rfl) (by kernel_rfl) (by kernel_rfl) (fun _ _ _ h => h) (Or.inl ⟨by rfl, by intro w; go_simp⟩) ?_; simp only [Act.put, List.setIfInBounds_toArray, List.set_cons_zero, List.set_cons_succ]
    refine wpAny_take (i := 2) (oi := ⟨some 95, _, _, _, _, _⟩) (v := .bool true) rfl (by kernel_rfl) (by kernel_rfl) (by kernel_rfl) (fun _ _ _ h => h) (Or.inl ⟨by rfl, by intro w; go_simp⟩) ?_; simp only [Act.put, List.setIfInBounds_toArray, List.set_cons_zero, List.set_cons_succ]
    refine wpAny_take (i := 3) (oi := ⟨some 96, _, _, _, _, _⟩) (v := .bool true) rfl (by kernel_rfl) (by kernel_rfl) (by kernel_rfl) (fun _ _ _ h => h) (Or.inl ⟨by rfl, by intro w; go_simp⟩) ?_; simp only [Act.put, List.setIfInBounds_toArray, List.set_cons_zero, List.set_cons_succ]
    refine wpAny_take (i := 4) (oi := ⟨some 97, _, _, _, _, _⟩) (v := .bool true) rfl (by kernel_rfl) (by kernel_rfl) (by kernel_rfl) (fun _ _ _ h => h) (Or.inl ⟨by rfl, by intro w; go_simp⟩) ?_; simp only [Act.put, List.setIfInBounds_toArray, List.set_cons_zero, List.set_cons_succ]
    refine wpAny_take (i := 5) (oi := ⟨some 98, _, _, _, _, _⟩) (v := .bool true) rfl (by kernel_rfl) (by kernel_rfl) (by kernel_rfl) (fun _ _ _ h => h) (Or.inl ⟨by rfl, by intro w; go_simp⟩) ?_; simp only [Act.put, List.setIfInBounds_toArray, List.set_cons_zero, List.set_cons_succ]
    refine wpAny_take (i := 6) (oi := ⟨some 99, _, _, _, _, _⟩) (v := .bool true) rfl (by kernel_rfl) (by kernel_rfl) (by kernel_rfl) (fun _ _ _ h => h) (Or.inl ⟨by rfl, by intro w; go_simp⟩) ?_; simp only [Act.put, List.setIfInBounds_toArray, List.set_cons_zero, List.set_cons_succ]
    refine wpAny_take (i := 7) (oi := ⟨some 100, _, _, _, _, _⟩) (v := .bool true) rfl (by kernel_rfl) (by kernel_rfl) (by kernel_rfl) (fun _ _ _ h => h) (Or.inl ⟨by rfl, by intro w; go_simp⟩) ?_; simp only [Act.put, List.setIfInBounds_toArray, List.set_cons_zero, List.set_cons_succ]
    refine wpAny_take (i := 8) (oi := ⟨some 101, _, _, _, _, _⟩) (v := .bool true) rfl (by kernel_rfl) (by kernel_rfl) (by kernel_rfl) (fun _ _ _ h => h) (Or.inl ⟨by rfl, by intro w; go_simp⟩) ?_; simp only [Act.put, List.setIfInBounds_toArray, List.set_cons_zero, List.set_cons_succ]
    refine wpAny_take (i := 9) (oi := ⟨some 102, _, _, _, _, _⟩) (v := .bool true) rfl (by kernel_rfl) (by kernel_rfl) (by kernel_rfl) (fun _ _ _ h => h) (Or.inl ⟨by rfl, by intro w; go_simp⟩) ?_; simp only [Act.put, List.setIfInBounds_toArray, List.set_cons_zero, List.set_cons_succ]
    refine wpAny_take (i := 10) (oi := ⟨some 103, _, _, _, _, _⟩) (v := .bool true) rfl (by kernel_rfl) (by kernel_rfl) (by kernel_rfl) (fun _ _ _ h => h) (Or.inl ⟨by rfl, by intro w; go_simp⟩) ?_; simp only [Act.put, List.setIfInBounds_toArray, List.set_cons_zero, List.set_cons_succ]
    refine wpAny_take (i := 11) (oi := ⟨some 104, _, _, _, _, _⟩) (v := .bool false) rfl (by kernel_rfl) (by kernel_rfl) (by kernel_rfl) (fun _ _ _ h => h) (Or.inl ⟨by rfl, by intro w; go_simp⟩) ?_; simp only [Act.put, List.setIfInBounds_toArray, List.set_cons_zero, List.set_cons_succ]
    refine wpAny_take (i := 12) (oi := ⟨some 105, _, _, _, _, _⟩) (v := .bool false) rfl (by kernel_rfl) (by kernel_rfl) (by kernel_rfl) (fun _ _ _ h => h) (Or.inl ⟨by rfl, by intro w; go_simp⟩) ?_; simp only [Act.put, List.setIfInBounds_toArray, List.set_cons_zero, List.set_cons_succ]
    refine wpAny_take (i := 13) (oi := ⟨some 106, _, _, _, _, _⟩) (v := .bool true) rfl (by kernel_rfl) (by kernel_rfl) (by kernel_rfl) (fun _ _ _ h => h) (Or.inl ⟨by rfl, by intro w; go_simp⟩) ?_; simp only [Act.put, List.setIfInBounds_toArray, List.set_cons_zero, List.set_cons_succ]
    refine wpAny_take (i := 14) (oi := ⟨some 107, _, _, _, _, _⟩) (v := .bool true) rfl (by kernel_rfl) (by kernel_rfl) (by kernel_rfl) (fun _ _ _ h => h) (Or.inl ⟨by rfl, by intro w; go_simp⟩) ?_; simp only [Act.put, List.setIfInBounds_toArray, List.set_cons_zero, List.set_cons_succ]
    refine wpAny_take (i := 15) (oi := ⟨some 108, _, _, _, _, _⟩) (v := .bool true) rfl (by kernel_rfl) (by kernel_rfl) (by kernel_rfl) (fun _ _ _ h => h) (Or.inl ⟨by rfl, by intro w; go_simp⟩) ?_; simp only [Act.put, List.setIfInBounds_toArray, List.set_cons_zero, List.set_cons_succ]
    refine wpAny_take (i := 16) (oi := ⟨some 109, _, _, _, _, _⟩) (v := .bool false) rfl (by kernel_rfl) (by kernel_rfl) (by kernel_rfl) (fun _ _ _ h => h) (Or.inl ⟨by rfl, by intro w; go_simp⟩) ?_; simp only [Act.put, List.setIfInBounds_toArray, List.set_cons_zero, List.set_cons_succ]
    refine wpAny_take (i := 17) (oi := ⟨some 110, _, _, _, _, _⟩) (v := .bool false) rfl (by kernel_rfl) (by kernel_rfl) (by kernel_rfl) (fun _ _ _ h => h) (Or.inl ⟨by rfl, by intro w; go_simp⟩) ?_; simp only [Act.put, List.setIfInBounds_toArray, List.set_cons_zero, List.set_cons_succ]
    refine wpAny_take (i := 18) (oi := ⟨some 111, _, _, _, _, _⟩) (v := .bool true) rfl (by kernel_rfl) (by kernel_rfl) (by kernel_rfl) (fun _ _ _ h => h) (Or.inl ⟨by rfl, by intro w; go_simp⟩) ?_; simp only [Act.put, List.setIfInBounds_toArray, List.set_cons_zero, List.set_cons_succ]
    refine wpAny_take (i := 19) (oi := ⟨some 112, _, _, _, _, _⟩) (v := .bool true) rfl (by kernel_rfl) (by kernel_rfl) (by kernel_rfl) (fun _ _ _ h => h) (Or.inl ⟨by rfl, by intro w; go_simp⟩) ?_; simp only [Act.put, List.setIfInBounds_toArray, List.set_cons_zero, List.set_cons_succ]
    refine wpAny_take (i := 20) (oi := ⟨some 113, _, _, _, _, _⟩) (v := .bool true) rfl (by kernel_rfl) (by kernel_rfl) (by kernel_rfl) (fun _ _ _ h => h) (Or.inl ⟨by rfl, by intro w; go_simp⟩) ?_; simp only [Act.put, List.setIfInBounds_toArray, List.set_cons_zero, List.set_cons_succ]
    refine wpAny_take (i := 21) (oi := ⟨some 114, _, _, _, _, _⟩) (v := .bool false) rfl (by kernel_rfl) (by kernel_rfl) (by kernel_rfl) (fun _ _ _ h => h) (Or.inl ⟨by rfl, by intro w; go_simp⟩) ?_; simp only [Act.put, List.setIfInBounds_toArray, List.set_cons_zero, List.set_cons_succ]
    refine wpAny_take (i := 22) (oi := ⟨some 115, _, _, _, _, _⟩) (v := .bool true) rfl (by kernel_rfl) (by kernel_rfl) (by kernel_rfl) (fun _ _ _ h => h) (Or.inl ⟨by rfl, by intro w; go_simp⟩) ?_; simp only [Act.put, List.setIfInBounds_toArray, List.set_cons_zero, List.set_cons_succ]
    refine wpAny_take (i := 23) (oi := ⟨some 116, _, _, _, _, _⟩) (v := .bool true) rfl (by kernel_rfl) (by kernel_rfl) (by kernel_rfl) (fun _ _ _ h => h) (Or.inl ⟨by rfl, by intro w; go_simp⟩) ?_; simp only [Act.put, List.setIfInBounds_toArray, List.set_cons_zero, List.set_cons_succ]
    refine wpAny_take (i := 24) (oi := ⟨some 117, _, _, _, _, _⟩) (v := undef) rfl (by kernel_rfl) (by kernel_rfl) (by kernel_rfl) (fun _ _ _ h => h) (Or.inr ⟨by rfl, rfl⟩) ?_; simp only [Act.put, List.setIfInBounds_toArray, List.set_cons_zero, List.set_cons_succ]
    refine wpAny_take (i := 25) (oi := ⟨some 118, _, _, _, _, _⟩) (v := undef) rfl (by kernel_rfl) (by kernel_rfl) (by kernel_rfl) (fun _ _ _ h => h) (Or.inr ⟨by rfl, rfl⟩) ?_; simp only [Act.put, List.setIfInBounds_toArray, List.set_cons_zero, List.set_cons_succ]
    refine wpAny_take (i := 26) (oi := ⟨some 119, _, _, _, _, _⟩) (v := undef) rfl (by kernel_rfl) (by kernel_rfl) (by kernel_rfl) (fun _ _ _ h => h) (Or.inr ⟨by rfl, rfl⟩) ?_; simp only [Act.put, List.setIfInBounds_toArray, List.set_cons_zero, List.set_cons_succ]
    refine wpAny_take (i := 27) (oi := ⟨some 120, _, _, _, _, _⟩) (v := undef) rfl (by kernel_rfl) (by kernel_rfl) (by kernel_rfl) (fun _ _ _ h => h) (Or.inr ⟨by rfl, rfl⟩) ?_; simp only [Act.put, List.setIfInBounds_toArray, List.set_cons_zero, List.set_cons_succ]
    refine wpAny_take (i := 28) (oi := ⟨some 121, _, _, _, _, _⟩) (v := undef) rfl (by kernel_rfl) (by kernel_rfl) (by kernel_rfl) (fun _ _ _ h => h) (Or.inr ⟨by rfl, rfl⟩) ?_; simp only [Act.put, List.setIfInBounds_toArray, List.set_cons_zero, List.set_cons_succ]
    refine wpAny_take (i := 29) (oi := ⟨some 122, _, _, _, _, _⟩) (v := undef) rfl (by kernel_rfl) (by kernel_rfl) (by kernel_rfl) (fun _ _ _ h => h) (Or.inr ⟨by rfl, rfl⟩) ?_; simp only [Act.put, List.setIfInBounds_toArray, List.set_cons_zero, List.set_cons_succ]
    refine wpAny_take (i := 30) (oi := ⟨some 123, _, _, _, _, _⟩) (v := undef) rfl (by kernel_rfl) (by kernel_rfl) (by kernel_rfl) (fun _ _ _ h => h) (Or.inr ⟨by rfl, rfl⟩) ?_; simp only [Act.put, List.setIfInBounds_toArray, List.set_cons_zero, List.set_cons_succ]
    refine wpAny_take (i := 31) (oi := ⟨some 124, _, _, _, _, _⟩) (v := .bool true) rfl (by kernel_rfl) (by kernel_rfl) (by kernel_rfl) (fun _ _ _ h => h) (Or.inl ⟨by rfl, by intro w; go_simp⟩) ?_; simp only [Act.put, List.setIfInBounds_toArray, List.set_cons_zero, List.set_cons_succ]
    refine wpAny_take (i := 32) (oi := ⟨some 125, _, _, _, _, _⟩) (v := .bool true) rfl (by kernel_rfl) (by kernel_rfl) (by kernel_rfl) (fun _ _ _ h => h) (Or.inl ⟨by rfl, by intro w; go_simp⟩) ?_; simp only [Act.put, List.setIfInBounds_toArray, List.set_cons_zero, List.set_cons_succ]
    refine wpAny_take (i := 33) (oi := ⟨some 126, _, _, _, _, _⟩) (v := .bool true) rfl (by kernel_rfl) (by kernel_rfl) (by kernel_rfl) (fun _ _ _ h => h) (Or.inl ⟨by rfl, by intro w; go_simp⟩) ?_; simp only [Act.put, List.setIfInBounds_toArray, List.set_cons_zero, List.set_cons_succ]
    refine wpAny_take (i := 37) (oi := ⟨some 130, _, _, _, _, _⟩) (v := .bool false) rfl (by kernel_rfl) (by kernel_rfl) (by kernel_rfl) (fun _ _ _ h => h) (Or.inl ⟨by rfl, by intro w; go_simp⟩) ?_; simp only [Act.put, List.setIfInBounds_toArray, List.set_cons_zero, List.set_cons_succ]
    refine wpAny_ready (rs := [34, 35]) (by kernel_rfl) (by simp) ?_
    refine AllReady.cons rfl (fun K hK => ?_) ?_
    · go_simp
      refine hK _ _ ?_
      clear hK K
      refine wpAny_ready (rs := [35]) (by kernel_rfl) (by simp) ?_
      refine AllReady.cons rfl (fun K hK => ?_) AllReady.nil
      go_simp
      refine hK _ _ ?_
      clear hK K
      refine wpAny_ready (rs := [36]) (by kernel_rfl) (by simp) ?_
      refine AllReady.cons rfl (fun K hK => ?_) AllReady.nil
      go_simp
      go_wp2_with ((go_at_call 17; with_reducible refine (implSame_any k m _ _ _ _ W.drew (T17.out.below BD.out).b.ints (T17.out.below BD.out).b.bools (T17.out.below BD.out).a.ints (T17.out.below BD.out).a.bools hwk hwf).mono ?_; rintro e w20 ⟨⟨r9, hr9, rfl⟩, hb20⟩; obtain rfl := hr9.comm.one HR.out; have B20 := Lib.hid (Below.then' BD.out hb20); clear hb20))
      refine wpAny_take (i := 38) (oi := ⟨some 131, _, _, _, _, _⟩) (v := .bool true) rfl (by kernel_rfl) (by kernel_rfl) (by kernel_rfl) (fun _ _ _ h => h) (Or.inl ⟨by rfl, by intro w; go_simp⟩) ?_; simp only [Act.put, List.setIfInBounds_toArray, List.set_cons_zero, List.set_cons_succ]
      refine wpAny_take (i := 39) (oi := ⟨some 132, _, _, _, _, _⟩) (v := .bool true) rfl (by kernel_rfl) (by kernel_rfl) (by kernel_rfl) (fun _ _ _ h => h) (Or.inl ⟨by rfl, by intro w; go_simp⟩) ?_; simp only [Act.put, List.setIfInBounds_toArray, List.set_cons_zero, List.set_cons_succ]
      refine wpAny_take (i := 40) (oi := ⟨some 4, _, _, _, _, _⟩) (v := .bool true) rfl (by kernel_rfl) (by kernel_rfl) (by kernel_rfl) (fun _ _ _ h => h) (Or.inl ⟨by rfl, by intro w; go_simp⟩) ?_; simp only [Act.put, List.setIfInBounds_toArray, List.set_cons_zero, List.set_cons_succ]
      refine wpAny_done (by kernel_rfl) ?_ _
      go_simp
      go_wp2_with fail
      go_ret
      exact ⟨rfl, q17.out.trans (B20.out.mono q17.out.size)⟩
    refine AllReady.cons rfl (fun K hK => ?_) AllReady.nil
    · go_simp
      refine hK _ _ ?_
      clear hK K
      refine wpAny_ready (rs := [34]) (by kernel_rfl) (by simp) ?_
      refine AllReady.cons rfl (fun K hK => ?_) AllReady.nil
      go_simp
      refine hK _ _ ?_
      clear hK K
      refine wpAny_ready (rs := [36]) (by kernel_rfl) (by simp) ?_
      refine AllReady.cons rfl (fun K hK => ?_) AllReady.nil
      go_simp
      go_wp2_with ((go_at_call 17; with_reducible refine (implSame_any k m _ _ _ _ W.drew (T17.out.below BD.out).b.ints (T17.out.below BD.out).b.bools (T17.out.below BD.out).a.ints (T17.out.below BD.out).a.bools hwk hwf).mono ?_; rintro e w20 ⟨⟨r9, hr9, rfl⟩, hb20⟩; obtain rfl := hr9.comm.one HR.out; have B20 := Lib.hid (Below.then' BD.out hb20); clear hb20))
      refine wpAny_take (i := 38) (oi := ⟨some 131, _, _, _, _, _⟩) (v := .bool true) rfl (by kernel_rfl) (by kernel_rfl) (by kernel_rfl) (fun _ _ _ h => h) (Or.inl ⟨by rfl, by intro w; go_simp⟩) ?_; simp only [Act.put, List.setIfInBounds_toArray, List.set_cons_zero, List.set_cons_succ]
      refine wpAny_take (i := 39) (oi := ⟨some 132, _, _, _, _, _⟩) (v := .bool true) rfl (by kernel_rfl) (by kernel_rfl) (by kernel_rfl) (fun _ _ _ h => h) (Or.inl ⟨by rfl, by intro w; go_simp⟩) ?_; simp only [Act.put, List.setIfInBounds_toArray, List.set_cons_zero, List.set_cons_succ]
      refine wpAny_take (i := 40) (oi := ⟨some 4, _, _, _, _, _⟩) (v := .bool true) rfl (by kernel_rfl) (by kernel_rfl) (by kernel_rfl) (fun _ _ _ h => h) (Or.inl ⟨by rfl, by intro w; go_simp⟩) ?_; simp only [Act.put, List.setIfInBounds_toArray, List.set_cons_zero, List.set_cons_succ]
      refine wpAny_done (by kernel_rfl) ?_ _
      go_simp
      go_wp2_with fail
      go_ret
      exact ⟨rfl, q17.out.trans (B20.out.mono q17.out.size)⟩
  · obtain ⟨rm0, rm1, rm2⟩ := (HM.out _ (Below.refl _ _)).cells
    obtain ⟨rk0, rk1, rk2⟩ := (HK.out _ (Below.refl _ _)).cells
    refine wp_region_any (by kernel_rfl) ?_
    change wpAny _ _ _ _ _ _ _ (World.drew _)
    refine wpAny_take (i := 0) (oi := ⟨some 93, _, _, _, _, _⟩) (v := .bool true) rfl (by kernel_rfl) (by kernel_rfl) (by kernel_rfl) (fun _ _ _ h => h) (Or.inl ⟨by rfl, by intro w; go_simp⟩) ?_; simp only [Act.put, List.setIfInBounds_toArray, List.set_cons_zero, List.set_cons_succ]
    refine wpAny_take (i := 1) (oi := ⟨some 94, _, _, _, _, _⟩) (v := .bool true) rfl (by kernel_rfl) (by kernel_rfl) (by kernel_rfl) (fun _ _ _ h => h) (Or.inl ⟨by rfl, by intro w; go_simp⟩) ?_; simp only [Act.put, List.setIfInBounds_toArray, List.set_cons_zero, List.set_cons_succ]
    refine wpAny_take (i := 2) (oi := ⟨some 95, _, _, _, _, _⟩) (v := .bool true) rfl (by kernel_rfl) (by kernel_rfl) (by kernel_rfl) (fun _ _ _ h => h) (Or.inl ⟨by rfl, by intro w; go_simp⟩) ?_; simp only [Act.put, List.setIfInBounds_toArray, List.set_cons_zero, List.set_cons_succ]
    refine wpAny_take (i := 3) (oi := ⟨some 96, _, _, _, _, _⟩) (v := .bool true) rfl (by kernel_rfl) (by kernel_rfl) (by kernel_rfl) (fun _ _ _ h => h) (Or.inl ⟨by rfl, by intro w; go_simp⟩) ?_; simp only [Act.put, List.setIfInBounds_toArray, List.set_cons_zero, List.set_cons_succ]
    refine wpAny_take (i := 4) (oi := ⟨some 97, _, _, _, _, _⟩) (v := .bool true) rfl (by kernel_rfl) (by kernel_rfl) (by kernel_rfl) (fun _ _ _ h => h) (Or.inl ⟨by rfl, by intro w; go_simp⟩) ?_; simp only [Act.put, List.setIfInBounds_toArray, List.set_cons_zero, List.set_cons_succ]
    refine wpAny_take (i := 5) (oi := ⟨some 98, _, _, _, _, _⟩) (v := .bool true) rfl (by kernel_rfl) (by kernel_rfl) (by kernel_rfl) (fun _ _ _ h => h) (Or.inl ⟨by rfl, by intro w; go_simp⟩) ?_; simp only [Act.put, List.setIfInBounds_toArray, List.set_cons_zero, List.set_cons_succ]
    refine wpAny_take (i := 6) (oi := ⟨some 99, _, _, _, _, _⟩) (v := .bool true) rfl (by kernel_rfl) (by kernel_rfl) (by kernel_rfl) (fun _ _ _ h => h) (Or.inl ⟨by rfl, by intro w; go_simp⟩) ?_; simp only [Act.put, List.setIfInBounds_toArray, List.set_cons_zero, List.set_cons_succ]
    refine wpAny_take (i := 7) (oi := ⟨some 100, _, _, _, _, _⟩) (v := .bool true) rfl (by kernel_rfl) (by kernel_rfl) (by kernel_rfl) (fun _ _ _ h => h) (Or.inl ⟨by rfl, by intro w; go_simp⟩) ?_; simp only [Act.put, List.setIfInBounds_toArray, List.set_cons_zero, List.set_cons_succ]
    refine wpAny_take (i := 8) (oi := ⟨some 101, _, _, _, _, _⟩) (v := .bool true) rfl (by kernel_rfl) (by kernel_rfl) (by kernel_rfl) (fun _ _ _ h => h) (Or.inl ⟨by rfl, by intro w; go_simp⟩) ?_; simp only [Act.put, List.setIfInBounds_toArray, List.set_cons_zero, List.set_cons_succ]
    refine wpAny_take (i := 9) (oi := ⟨some 102, _, _, _, _, _⟩) (v := .bool true) rfl (by kernel_rfl) (by kernel_rfl) (by kernel_rfl) (fun _ _ _ h => h) (Or.inl ⟨by rfl, by intro w; go_simp⟩) ?_; simp only [Act.put, List.setIfInBounds_toArray, List.set_cons_zero, List.set_cons_succ]
    refine wpAny_take (i := 10) (oi := ⟨some 103, _, _, _, _, _⟩) (v := .bool true) rfl (by kernel_rfl) (by kernel_rfl) (by kernel_rfl) (fun _ _ _ h => h) (Or.inl ⟨by rfl, by intro w; go_simp⟩) ?_; simp only [Act.put, List.setIfInBounds_toArray, List.set_cons_zero, List.set_cons_succ]
    refine wpAny_take (i := 11) (oi := ⟨some 104, _, _, _, _, _⟩) (v := .bool false) rfl (by kernel_rfl) (by kernel_rfl) (by kernel_rfl) (fun _ _ _ h => h) (Or.inl ⟨by rfl, by intro w; go_simp⟩) ?_; simp only [Act.put, List.setIfInBounds_toArray, List.set_cons_zero, List.set_cons_succ]
    refine wpAny_take (i := 12) (oi := ⟨some 105, _, _, _, _, _⟩) (v := .bool true) rfl (by kernel_rfl) (by kernel_rfl) (by kernel_rfl) (fun _ _ _ h => h) (Or.inl ⟨by rfl, by intro w; go_simp⟩) ?_; simp only [Act.put, List.setIfInBounds_toArray, List.set_cons_zero, List.set_cons_succ]
    refine wpAny_take (i := 13) (oi := ⟨some 106, _, _, _, _, _⟩) (v := .bool false) rfl (by kernel_rfl) (by kernel_rfl) (by kernel_rfl) (fun _ _ _ h => h) (Or.inl ⟨by rfl, by intro w; go_simp⟩) ?_; simp only [Act.put, List.setIfInBounds_toArray, List.set_cons_zero, List.set_cons_succ]
    refine wpAny_take (i := 14) (oi := ⟨some 107, _, _, _, _, _⟩) (v := .bool false) rfl (by kernel_rfl) (by kernel_rfl) (by kernel_rfl) (fun _ _ _ h => h) (Or.inl ⟨by rfl, by intro w; go_simp⟩) ?_; simp only [Act.put, List.setIfInBounds_toArray, List.set_cons_zero, List.set_cons_succ]
    refine wpAny_take (i := 15) (oi := ⟨some 108, _, _, _, _, _⟩) (v := undef) rfl (by kernel_rfl) (by kernel_rfl) (by kernel_rfl) (fun _ _ _ h => h) (Or.inr ⟨by rfl, rfl⟩) ?_; simp only [Act.put, List.setIfInBounds_toArray, List.set_cons_zero, List.set_cons_succ]
    refine wpAny_take (i := 16) (oi := ⟨some 109, _, _, _, _, _⟩) (v := undef) rfl (by kernel_rfl) (by kernel_rfl) (by kernel_rfl) (fun _ _ _ h => h) (Or.inr ⟨by rfl, rfl⟩) ?_; simp only [Act.put, List.setIfInBounds_toArray, List.set_cons_zero, List.set_cons_succ]
    refine wpAny_take (i := 17) (oi := ⟨some 110, _, _, _, _, _⟩) (v := .bool false) rfl (by kernel_rfl) (by kernel_rfl) (by kernel_rfl) (fun _ _ _ h => h) (Or.inl ⟨by rfl, by intro w; go_simp⟩) ?_; simp only [Act.put, List.setIfInBounds_toArray, List.set_cons_zero, List.set_cons_succ]
    refine wpAny_take (i := 18) (oi := ⟨some 111, _, _, _, _, _⟩) (v := .bool true) rfl (by kernel_rfl) (by kernel_rfl) (by kernel_rfl) (fun _ _ _ h => h) (Or.inl ⟨by rfl, by intro w; go_simp⟩) ?_; simp only [Act.put, List.setIfInBounds_toArray, List.set_cons_zero, List.set_cons_succ]
    refine wpAny_take (i := 19) (oi := ⟨some 112, _, _, _, _, _⟩) (v := .bool true) rfl (by kernel_rfl) (by kernel_rfl) (by kernel_rfl) (fun _ _ _ h => h) (Or.inl ⟨by rfl, by intro w; go_simp⟩) ?_; simp only [Act.put, List.setIfInBounds_toArray, List.set_cons_zero, List.set_cons_succ]
    refine wpAny_take (i := 20) (oi := ⟨some 113, _, _, _, _, _⟩) (v := .bool true) rfl (by kernel_rfl) (by kernel_rfl) (by kernel_rfl) (fun _ _ _ h => h) (Or.inl ⟨by rfl, by intro w; go_simp⟩) ?_; simp only [Act.put, List.setIfInBounds_toArray, List.set_cons_zero, List.set_cons_succ]
    refine wpAny_take (i := 21) (oi := ⟨some 114, _, _, _, _, _⟩) (v := .bool false) rfl (by kernel_rfl) (by kernel_rfl) (by kernel_rfl) (fun _ _ _ h => h) (Or.inl ⟨by rfl, by intro w; go_simp⟩) ?_; simp only [Act.put, List.setIfInBounds_toArray, List.set_cons_zero, List.set_cons_succ]
    refine wpAny_take (i := 22) (oi := ⟨some 115, _, _, _, _, _⟩) (v := .bool true) rfl (by kernel_rfl) (by kernel_rfl) (by kernel_rfl) (fun _ _ _ h => h) (Or.inl ⟨by rfl, by intro w; go_simp⟩) ?_; simp only [Act.put, List.setIfInBounds_toArray, List.set_cons_zero, List.set_cons_succ]
    refine wpAny_take (i := 23) (oi := ⟨some 116, _, _, _, _, _⟩) (v := .bool true) rfl (by kernel_rfl) (by kernel_rfl) (by kernel_rfl) (fun _ _ _ h => h) (Or.inl ⟨by rfl, by intro w; go_simp⟩) ?_; simp only [Act.put, List.setIfInBounds_toArray, List.set_cons_zero, List.set_cons_succ]
    refine wpAny_take (i := 24) (oi := ⟨some 117, _, _, _, _, _⟩) (v := undef) rfl (by kernel_rfl) (by kernel_rfl) (by kernel_rfl) (fun _ _ _ h => h) (Or.inr ⟨by rfl, rfl⟩) ?_; simp only [Act.put, List.setIfInBounds_toArray, List.set_cons_zero, List.set_cons_succ]
    refine wpAny_take (i := 25) (oi := ⟨some 118, _, _, _, _, _⟩) (v := undef) rfl (by kernel_rfl) (by kernel_rfl) (by kernel_rfl) (fun _ _ _ h => h) (Or.inr ⟨by rfl, rfl⟩) ?_; simp only [Act.put, List.setIfInBounds_toArray, List.set_cons_zero, List.set_cons_succ]
    refine wpAny_take (i := 26) (oi := ⟨some 119, _, _, _, _, _⟩) (v := undef) rfl (by kernel_rfl) (by kernel_rfl) (by kernel_rfl) (fun _ _ _ h => h) (Or.inr ⟨by rfl, rfl⟩) ?_; simp only [Act.put, List.setIfInBounds_toArray, List.set_cons_zero, List.set_cons_succ]
    refine wpAny_take (i := 27) (oi := ⟨some 120, _, _, _, _, _⟩) (v := undef) rfl (by kernel_rfl) (by kernel_rfl) (by kernel_rfl) (fun _ _ _ h => h) (Or.inr ⟨by rfl, rfl⟩) ?_; simp only [Act.put, List.setIfInBounds_toArray, List.set_cons_zero, List.set_cons_succ]
    refine wpAny_take (i := 28) (oi := ⟨some 121, _, _, _, _, _⟩) (v := undef) rfl (by kernel_rfl) (by kernel_rfl) (by kernel_rfl) (fun _ _ _ h => h) (Or.inr ⟨by rfl, rfl⟩) ?_; simp only [Act.put, List.setIfInBounds_toArray, List.set_cons_zero, List.set_cons_succ]
    refine wpAny_take (i := 29) (oi := ⟨some 122, _, _, _, _, _⟩) (v := undef) rfl (by kernel_rfl) (by kernel_rfl) (by kernel_rfl) (fun _ _ _ h => h) (Or.inr ⟨by rfl, rfl⟩) ?_; simp only [Act.put, List.setIfInBounds_toArray, List.set_cons_zero, List.set_cons_succ]
    refine wpAny_take (i := 30) (oi := ⟨some 123, _, _, _, _, _⟩) (v := undef) rfl (by kernel_rfl) (by kernel_rfl) (by kernel_rfl) (fun _ _ _ h => h) (Or.inr ⟨by rfl, rfl⟩) ?_; simp only [Act.put, List.setIfInBounds_toArray, List.set_cons_zero, List.set_cons_succ]
    refine wpAny_take (i := 31) (oi := ⟨some 124, _, _, _, _, _⟩) (v := .bool true) rfl (by kernel_rfl) (by kernel_rfl) (by kernel_rfl) (fun _ _ _ h => h) (Or.inl ⟨by rfl, by intro w; go_simp⟩) ?_; simp only [Act.put, List.setIfInBounds_toArray, List.set_cons_zero, List.set_cons_succ]
    refine wpAny_take (i := 32) (oi := ⟨some 125, _, _, _, _, _⟩) (v := .bool true) rfl (by kernel_rfl) (by kernel_rfl) (by kernel_rfl) (fun _ _ _ h => h) (Or.inl ⟨by rfl, by intro w; go_simp⟩) ?_; simp only [Act.put, List.setIfInBounds_toArray, List.set_cons_zero, List.set_cons_succ]
    refine wpAny_take (i := 33) (oi := ⟨some 126, _, _, _, _, _⟩) (v := .bool true) rfl (by kernel_rfl) (by kernel_rfl) (by kernel_rfl) (fun _ _ _ h => h) (Or.inl ⟨by rfl, by intro w; go_simp⟩) ?_; simp only [Act.put, List.setIfInBounds_toArray, List.set_cons_zero, List.set_cons_succ]
    refine wpAny_take (i := 37) (oi := ⟨some 130, _, _, _, _, _⟩) (v := .bool false) rfl (by kernel_rfl) (by kernel_rfl) (by kernel_rfl) (fun _ _ _ h => h) (Or.inl ⟨by rfl, by intro w; go_simp⟩) ?_; simp only [Act.put, List.setIfInBounds_toArray, List.set_cons_zero, List.set_cons_succ]
    refine wpAny_ready (rs := [34, 35]) (by kernel_rfl) (by simp) ?_
    refine AllReady.cons rfl (fun K hK => ?_) ?_
    · go_simp
      refine hK _ _ ?_
      clear hK K
      refine wpAny_ready (rs := [35]) (by kernel_rfl) (by simp) ?_
      refine AllReady.cons rfl (fun K hK => ?_) AllReady.nil
      go_simp
      refine hK _ _ ?_
      clear hK K
      refine wpAny_ready (rs := [36]) (by kernel_rfl) (by simp) ?_
      refine AllReady.cons rfl (fun K hK => ?_) AllReady.nil
      go_simp
      go_wp2_with ((go_at_call 17; with_reducible refine (implSame_any k m _ _ _ _ W.drew (T17.out.below BD.out).b.ints (T17.out.below BD.out).b.bools (T17.out.below BD.out).a.ints (T17.out.below BD.out).a.bools hwk hwf).mono ?_; rintro e w20 ⟨⟨r9, hr9, rfl⟩, hb20⟩; obtain rfl := hr9.comm.one HR.out; have B20 := Lib.hid (Below.then' BD.out hb20); clear hb20))
      refine wpAny_take (i := 38) (oi := ⟨some 131, _, _, _, _, _⟩) (v := .bool true) rfl (by kernel_rfl) (by kernel_rfl) (by kernel_rfl) (fun _ _ _ h => h) (Or.inl ⟨by rfl, by intro w; go_simp⟩) ?_; simp only [Act.put, List.setIfInBounds_toArray, List.set_cons_zero, List.set_cons_succ]
      refine wpAny_take (i := 39) (oi := ⟨some 132, _, _, _, _, _⟩) (v := .bool true) rfl (by kernel_rfl) (by kernel_rfl) (by kernel_rfl) (fun _ _ _ h => h) (Or.inl ⟨by rfl, by intro w; go_simp⟩) ?_; simp only [Act.put, List.setIfInBounds_toArray, List.set_cons_zero, List.set_cons_succ]
      refine wpAny_take (i := 40) (oi := ⟨some 4, _, _, _, _, _⟩) (v := .bool true) rfl (by kernel_rfl) (by kernel_rfl) (by kernel_rfl) (fun _ _ _ h => h) (Or.inl ⟨by rfl, by intro w; go_simp⟩) ?_; simp only [Act.put, List.setIfInBounds_toArray, List.set_cons_zero, List.set_cons_succ]
      refine wpAny_done (by kernel_rfl) ?_ _
      go_simp
      go_wp2_with fail
      go_ret
      exact ⟨rfl, q17.out.trans (B20.out.mono q17.out.size)⟩
    refine AllReady.cons rfl (fun K hK => ?_) AllReady.nil
    · go_simp
      refine hK _ _ ?_
      clear hK K
      refine wpAny_ready (rs := [34]) (by kernel_rfl) (by simp) ?_
      refine AllReady.cons rfl (fun K hK => ?_) AllReady.nil
      go_simp
      refine hK _ _ ?_
      clear hK K
      refine wpAny_ready (rs := [36]) (by kernel_rfl) (by simp) ?_
      refine AllReady.cons rfl (fun K hK => ?_) AllReady.nil
      go_simp
      go_wp2_with ((go_at_call 17; with_reducible refine (implSame_any k m _ _ _ _ W.drew (T17.out.below BD.out).b.ints (T17.out.below BD.out).b.bools (T17.out.below BD.out).a.ints (T17.out.below BD.out).a.bools hwk hwf).mono ?_; rintro e w20 ⟨⟨r9, hr9, rfl⟩, hb20⟩; obtain rfl := hr9.comm.one HR.out; have B20 := Lib.hid (Below.then' BD.out hb20); clear hb20))
      refine wpAny_take (i := 38) (oi := ⟨some 131, _, _, _, _, _⟩) (v := .bool true) rfl (by kernel_rfl) (by kernel_rfl) (by kernel_rfl) (fun _ _ _ h => h) (Or.inl ⟨by rfl, by intro w; go_simp⟩) ?_; simp only [Act.put, List.setIfInBounds_toArray, List.set_cons_zero, List.set_cons_succ]
      refine wpAny_take (i := 39) (oi := ⟨some 132, _, _, _, _, _⟩) (v := .bool true) rfl (by kernel_rfl) (by kernel_rfl) (by kernel_rfl) (fun _ _ _ h => h) (Or.inl ⟨by rfl, by intro w; go_simp⟩) ?_; simp only [Act.put, List.setIfInBounds_toArray, List.set_cons_zero, List.set_cons_succ]
      refine wpAny_take (i := 40) (oi := ⟨some 4, _, _, _, _, _⟩) (v := .bool true) rfl (by kernel_rfl) (by kernel_rfl) (by kernel_rfl) (fun _ _ _ h => h) (Or.inl ⟨by rfl, by intro w; go_simp⟩) ?_; simp only [Act.put, List.setIfInBounds_toArray, List.set_cons_zero, List.set_cons_succ]
      refine wpAny_done (by kernel_rfl) ?_ _
      go_simp
      go_wp2_with fail
      go_ret
      exact ⟨rfl, q17.out.trans (B20.out.mono q17.out.size)⟩
end Go.Proofs.Ytaghjddndgpljaa
