/- The walk of FnTrimmedMachine: true at every code. No condition. -/
import Derived.Test.YthknpbefdejbkaaDrawAll
import Derived.Test.YthknpbefdejbkaaSameAll
import Derived.Test.YthknpbefdejbkaaLangWord
import Derived.Test.YthknpbefdejbkaaImplSame
import Derived.Test.YthknpbefdejbkaaSpecTrim
import Derived.Deep.RegionHeld3
import Derived.Deep.RegionWith
namespace Go.Proofs.Ythknpbefdejbkaa
open Go.RowKit

set_option maxHeartbeats 1600000 in
set_option maxRecDepth 100000 in
theorem lawTrimmedMachine_walk {w : World} (a : Option Addr) (len cap : Nat) (zs : List Int) (h : IsRow .u8 w a len cap zs) :
    Calls Try.prog 10 #[.slice a len cap] w fun e w' => e = .returned (.bool true) ∧ Below w.heap.size w w' := by
  have HD := Lib.hid (drawTrimmedMachine_any a len cap zs w h)
  have hl := h.len_le
  unfold maxLen at hl
  clear h
  by_cases hbig : 1048576 < len
  · go_enter Try.func10, Try.ntmps10
    go_wp2_with fail
    go_ret
    exact ⟨rfl, Below.refl _ _⟩
  · go_enter Try.func10, Try.ntmps10
    go_wp2_with fail
    refine HD.out.mono ?_
    clear HD
    rintro e w1 ⟨m, nv, ev, rfl, hd, hb1⟩
    obtain ⟨a1, n1, c1, rfl⟩ := hd.ints.slice
    obtain ⟨a2, n2, c2, rfl⟩ := hd.bools.slice
    have hwf := hd.wf
    have M1 := Lib.hid (MachBox.new (st := m.st) 27 hd.ints hd.bools)
    have q1 := Lib.hid (hb1.alloc hb1.size (.cells #[.int .i64 m.st, .slice a1 n1 c1, .slice a2 n2 c2] 27))
    clear hb1 hd
    have y0 := M1.out.c0
    have y1 := M1.out.c1
    have y2 := M1.out.c2
    go_wp2_with fail
    clear y0 y1 y2
    generalize hW2 : w1.alloc (.cells #[.int .i64 m.st, .slice a1 n1 c1, .slice a2 n2 c2] 27) = w2 at *
    generalize hB2 : w1.heap.size = b2 at *
    clear hW2 hB2
    refine (implTrimmed_any m _ _ _ M1.out.ints M1.out.bools hwf).mono ?_
    rintro e w3 h3
    obtain ⟨nv3, ev3, rfl, hn3, he3, hb3⟩ := h3.reads
    generalize hT : tmz m = T at *
    obtain ⟨a3, n3, c3, rfl⟩ := hn3.slice
    obtain ⟨a4, n4, c4, rfl⟩ := he3.slice
    have hal := (Below.refl w3.heap.size w3).alloc (Nat.le_refl _) (.cells #[.int .i64 T.st, .slice a3 n3 c3, .slice a4 n4 c4] 27)
    have N3 := Lib.hid (MachBox.new (st := T.st) 27 hn3 he3)
    have M3 := Lib.hid ((M1.out.below hb3).below hal)
    have q3 := Lib.hid ((q1.out.trans (hb3.mono q1.out.size)).trans (hal.mono (q1.out.trans (hb3.mono q1.out.size)).size))
    have HTE := Lib.hid hT
    clear hb3 hal h3 hn3 he3 M1 q1 hT
    have y0 := M3.out.c0
    have y1 := M3.out.c1
    have y2 := M3.out.c2
    have y3 := N3.out.c0
    have y4 := N3.out.c1
    have y5 := N3.out.c2
    go_upto_region 5 with fail
    generalize hW4 : w3.alloc (.cells #[.int .i64 T.st, .slice a3 n3 c3, .slice a4 n4 c4] 27) = w4 at *
    generalize hB4 : w3.heap.size = b4 at *
    clear hW4 hB4
    have MD := Lib.hid (M3.out.below (Below.refl _ w4).drew)
    have ND := Lib.hid (N3.out.below (Below.refl _ w4).drew)
    go_region_with (first | (go_at_call 39; refine (specTrimmed_any m _ _ w4.drew MD.out.ints MD.out.bools hwf).mono ?_; rintro e w5 h5; rw [HTE.out] at h5; obtain ⟨nv5, ev5, rfl, hn5, he5, hb5⟩ := h5.reads; have N5 := ND.out.below hb5; have z0 := N5.c0; have z1 := N5.c1; have z2 := N5.c2) | (go_at_call 24; refine (sameMachine_same T _ _ nv5 ev5 w5 N5.ints N5.bools hn5 he5).mono ?_; rintro e w6 ⟨rfl, hb6⟩))
    all_goals
      have hb7 := ((Below.refl w4.heap.size w4).drew.trans hb5).trans (hb6.mono hb5.size)
      have M7 := Lib.hid (M3.out.below hb7)
      have N7 := Lib.hid (N3.out.below hb7)
      have q7 := Lib.hid (q3.out.trans (hb7.mono q3.out.size))
      clear hb5 hb6 hb7 h5 N5 z0 z1 z2 hn5 he5 MD ND M3 N3 q3 y0 y1 y2 y3 y4 y5
      have y0 := M7.out.c0
      have y1 := M7.out.c1
      have y2 := M7.out.c2
      go_wp2_with fail
      clear y0 y1 y2
      refine (specMachineOk_any m _ _ _ M7.out.ints M7.out.bools hwf).mono ?_
      rintro e w8 ⟨rfl, hb8⟩
      have M8 := Lib.hid (M7.out.below hb8)
      have N8 := Lib.hid (N7.out.below hb8)
      have q8 := Lib.hid (q7.out.trans (hb8.mono q7.out.size))
      clear hb8 M7 N7 q7
      cases hk : m.ok with
      | false =>
        have hTz : T = ⟨0, [], []⟩ := by rw [← HTE.out, tmz, hk]; rfl
        have y0 := N8.out.c0
        have y1 := N8.out.c1
        have y2 := N8.out.c2
        have HI := Lib.hid N8.out.ints
        have HB := Lib.hid N8.out.bools
        clear HTE
        subst hTz
        simp only at y0 HI HB
        go_wp2_with fail
        clear y0 y1 y2
        refine (sameMachine_same ⟨0, [], []⟩ _ _ _ _ _ HI.out HB.out (isInts_nil _) (isBools_nil _)).mono ?_
        rintro e w9 ⟨rfl, hb9⟩
        go_wp2_with fail
        refine (alive_any _).mono ?_
        rintro e w10 ⟨rfl, rfl⟩
        go_wp2_with fail
        go_ret
        exact ⟨rfl, q8.out.trans (hb9.mono q8.out.size)⟩
      | true =>
        have hTt : T = tm m := by rw [← HTE.out, tmz, hk]; rfl
        have HG := M.ok_good hk
        have HTO : Hid (T.ok = true) := Lib.hid (by rw [hTt]; exact tm_ok hk)
        have hle : T.st ≤ m.st := by rw [hTt]; exact tm_st HG
        have HTT : Hid (tmz T = T) := Lib.hid (by rw [tmz_ok HTO.out, hTt]; exact tm_tm HG)
        have HLL : Hid (T.lang 0 = m.lang 0) := Lib.hid (by rw [hTt]; exact tm_lang HG)
        have HKK := Lib.hid hk
        have hwT : (Lit.int .i64 T.st).wf = true := WalkArith.wf_i64 (by have h1 := M.ok_shape HTO.out; show _ ∧ _; omega)
        clear HTE hTt HG hk
        go_upto_region 9 with fail
        have hX : Six b2 b4 m.st T.st (.slice a1 n1 c1) (.slice a2 n2 c2) (.slice a3 n3 c3) (.slice a4 n4 c4) w8 := ⟨M8.out.hB, N8.out.hB, M8.out.c0, M8.out.c1, M8.out.c2, N8.out.c0, N8.out.c1, N8.out.c2⟩
        have HSX : Hid (∀ W, Below w8.heap.size w8 W → Six b2 b4 m.st T.st (.slice a1 n1 c1) (.slice a2 n2 c2) (.slice a3 n3 c3) (.slice a4 n4 c4) W) := Lib.hid (fun W h => hX.below h)
        have BD := Lib.hid ((Below.refl w8.heap.size w8).drew)
        have XD := HSX.out _ BD.out
        clear hX
        go_region_held3 (fun w' => w'.cell? ⟨b2, 0, none⟩ = some (.int .i64 m.st) ∧ w'.cell? ⟨b2, 1, none⟩ = some (.slice a1 n1 c1) ∧ w'.cell? ⟨b2, 2, none⟩ = some (.slice a2 n2 c2) ∧ w'.cell? ⟨b4, 0, none⟩ = some (.int .i64 T.st) ∧ w'.cell? ⟨b4, 1, none⟩ = some (.slice a3 n3 c3) ∧ w'.cell? ⟨b4, 2, none⟩ = some (.slice a4 n4 c4))
          (first | (with_reducible exact XD.cells) | (with_reducible exact X9.cells) | (with_reducible exact X10.cells) | (with_reducible exact X11.cells) | (with_reducible exact X12.cells))
          (first | (go_at_call 40; refine (implMachineOk_any T _ _ w8.drew (N8.out.below BD.out).ints (N8.out.below BD.out).bools hwT).mono ?_; rintro e w9 ⟨rfl, hb9⟩; rw [HTO.out]; have B9 := Lib.hid (Below.then' BD.out hb9); have X9 := HSX.out _ B9.out; clear hb9) | (go_at_call 38; refine (implTrimmed_any T _ _ w9 (N8.out.below B9.out).ints (N8.out.below B9.out).bools hwT).mono ?_; rintro e w10 h10; rw [HTT.out] at h10; obtain ⟨nv10, ev10, rfl, hn10, he10, hb10⟩ := h10.reads; have B10 := Lib.hid (Below.then' B9.out hb10); have X10 := HSX.out _ B10.out; clear hb10 h10) | (go_at_call 24; refine (sameMachine_same T nv10 ev10 _ _ w10 hn10 he10 (N8.out.below B10.out).ints (N8.out.below B10.out).bools).mono ?_; rintro e w11 ⟨rfl, hb11⟩; have B11 := Lib.hid (Below.then' B10.out hb11); have X11 := HSX.out _ B11.out; clear hb11) | (go_at_call 33; refine (implSame_any T m _ _ _ _ w11 (N8.out.below B11.out).ints (N8.out.below B11.out).bools (M8.out.below B11.out).ints (M8.out.below B11.out).bools hwT hwf).mono ?_; rintro e w12 ⟨⟨b, hIs, rfl⟩, hb12⟩; have hbt : b = true := (hIs.1 HTO.out HKK.out).2 HLL.out; subst hbt; have B12 := Lib.hid (Below.then' B11.out hb12); have X12 := HSX.out _ B12.out; clear hb12 hIs))
        all_goals
          go_wp2_with fail
          go_ret
          exact ⟨rfl, q8.out.trans (B12.out.mono q8.out.size)⟩
end Go.Proofs.Ythknpbefdejbkaa
