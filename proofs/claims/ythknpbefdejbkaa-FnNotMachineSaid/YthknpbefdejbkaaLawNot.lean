/- The walk of FnNotMachine: true at every two codes. No condition. -/
import Derived.Test.YthknpbefdejbkaaDrawAll
import Derived.Test.YthknpbefdejbkaaSameAll
import Derived.Test.YthknpbefdejbkaaImplSame
import Derived.Test.YthknpbefdejbkaaNotM
import Derived.Test.YthknpbefdejbkaaSpecJ
import Derived.Test.YthknpbefdejbkaaTakes
namespace Go.Proofs.Ythknpbefdejbkaa
open Go.RowKit

theorem M.ok_wf {m : M} (h : m.ok = true) : (Lit.int .i64 m.st).wf = true := WalkArith.wf_i64 (by have h1 := M.ok_shape h; show _ ∧ _; omega)
theorem IsLm.mok {f : List (Fin 3) → Bool} {k : M} (h : IsLm f k) (h48 : k.st ≤ 48) : k.ok = true := M.good_ok (h.good (by omega)) h48
/-- there is a least machine -/
theorem least_ex {m : M} (hg : m.good) : ∃ K, IsLm (m.lang 0) K ∧ K.st ≤ m.st := by
  have hT := tm_good hg
  have h0 : 0 < (tm m).ends.length := by have := M.good_shape hT; omega
  obtain ⟨K, k1, k2, k3⟩ := lm_spec hT (tm_trim hg) (still_end (good_closed hT) h0) (repL_part (tm m) _ _)
  rw [tm_lang hg] at k3
  refine ⟨_, k3, ?_⟩
  show (K : Int) ≤ m.st
  have h1 := tm_st hg
  have h2 := (M.good_shape hT).2.2.2
  omega
theorem leastZ_ex {m : M} (hm : m.ok = true) : ∃ l, IsLmZ m l := by
  obtain ⟨K, h1, h2⟩ := least_ex (M.ok_good hm)
  exact ⟨K, fun _ => ⟨h1, by have := (M.ok_shape hm).2.1; omega⟩, fun h => by rw [hm] at h; cases h⟩
/-- three machines in boxes -/
structure Nin (a b c : Nat) (s1 s2 s3 : Int) (v1 v2 v3 v4 v5 v6 : Value) (W : World) : Prop where
  s : Six a b s1 s2 v1 v2 v3 v4 W
  lc : c < W.heap.size
  cc : W.cell? ⟨c, 0, none⟩ = some (.int .i64 s3) ∧ W.cell? ⟨c, 1, none⟩ = some v5 ∧ W.cell? ⟨c, 2, none⟩ = some v6
theorem Nin.below {a b c : Nat} {s1 s2 s3 : Int} {v1 v2 v3 v4 v5 v6 : Value} {W W' : World} (h : Nin a b c s1 s2 s3 v1 v2 v3 v4 v5 v6 W) (hb : Below W.heap.size W W') : Nin a b c s1 s2 s3 v1 v2 v3 v4 v5 v6 W' :=
  ⟨h.s.below hb, Nat.lt_of_lt_of_le h.lc hb.size, (hb.cell (p := ⟨c, 0, none⟩) h.lc).trans h.cc.1, (hb.cell (p := ⟨c, 1, none⟩) h.lc).trans h.cc.2.1, (hb.cell (p := ⟨c, 2, none⟩) h.lc).trans h.cc.2.2⟩
theorem Nin.cells {a b c : Nat} {s1 s2 s3 : Int} {v1 v2 v3 v4 v5 v6 : Value} {W : World} (h : Nin a b c s1 s2 s3 v1 v2 v3 v4 v5 v6 W) :
    (W.cell? ⟨a, 0, none⟩ = some (.int .i64 s1) ∧ W.cell? ⟨a, 1, none⟩ = some v1 ∧ W.cell? ⟨a, 2, none⟩ = some v2 ∧ W.cell? ⟨b, 0, none⟩ = some (.int .i64 s2) ∧ W.cell? ⟨b, 1, none⟩ = some v3 ∧ W.cell? ⟨b, 2, none⟩ = some v4) ∧ W.cell? ⟨c, 0, none⟩ = some (.int .i64 s3) ∧ W.cell? ⟨c, 1, none⟩ = some v5 ∧ W.cell? ⟨c, 2, none⟩ = some v6 := ⟨h.s.cs, h.cc⟩
/-- not of not is the least machine -/
theorem IsJoin.not_not {m x y l : M} {b : Bool} (hx : IsJoin m.ok (fun u => !m.lang 0 u) x true) (hy : IsJoin x.ok (fun u => !x.lang 0 u) y b) (hl : IsLmZ m l) : b = true ∧ y = l := by
  rcases hx with ⟨-, hm, h1, h2⟩ | ⟨h, -, -⟩
  · obtain ⟨l1, l2⟩ := hl.1 hm
    have hxo : x.ok = true := h1.mok h2
    have hf : (fun u => !x.lang 0 u) = m.lang 0 := funext fun u => by rw [h1.lang]; simp
    rw [hf] at hy
    rcases hy with ⟨rfl, -, g1, g2⟩ | ⟨rfl, rfl, g1⟩
    · exact ⟨rfl, g1.one l1⟩
    · have := g1 hxo l l1; omega
  · cases h
theorem IsJoin.wfT {ok b : Bool} {f : List (Fin 3) → Bool} {k : M} (h : IsJoin ok f k b) : (Lit.int .i64 k.st).wf = true := by
  rcases h with ⟨-, -, h1, h2⟩ | ⟨-, rfl, -⟩
  · exact M.ok_wf (h1.mok h2)
  · rfl
theorem IsJoin.not_takes {m x : M} (hx : IsJoin m.ok (fun u => !m.lang 0 u) x true) {s : ByteArray} (hs : wordOk s = true) : x.takes s = !m.takes s := by
  rcases hx with ⟨-, hm, h1, h2⟩ | ⟨h, -, -⟩
  · rw [M.takes_lang (h1.mok h2) hs, M.takes_lang hm hs, h1.lang]
  · cases h
theorem LeastNew.readsN {m : M} {w w' : World} {e : Ending} (h : LeastNew m w e w') : ∃ k nv ev, IsLmZ m k ∧ e = .returned (.agg #[.int .i64 k.st, nv, ev]) ∧ IsInts w' nv k.next ∧ IsBools w' ev k.ends ∧ Below w.heap.size w w' := by
  obtain ⟨k, hk, h⟩ := h
  obtain ⟨nv, ev, h1, h2, h3, h4⟩ := h.reads
  exact ⟨k, nv, ev, hk, h1, h2, h3, h4⟩

set_option maxHeartbeats 4000000 in
set_option maxRecDepth 100000 in
theorem lawNotMachine_walk {w : World} (a : Option Addr) (len cap : Nat) (zs : List Int) (h : IsRow .u8 w a len cap zs) (b : Option Addr) (len2 cap2 : Nat) (zs2 : List Int) (h2 : IsRow .u8 w b len2 cap2 zs2) :
    Calls Try.prog 6 #[.slice a len cap, .slice b len2 cap2] w fun e w' => e = .returned (.bool true) ∧ Below w.heap.size w w' := by
  have HD := Lib.hid (drawNotMachine_any a len cap zs w h)
  have H2 := Lib.hid h2
  have hl := h.len_le
  have hl2 := h2.len_le
  unfold maxLen at hl hl2
  clear h h2
  by_cases hbig : 1048576 < len
  · go_enter Try.func6, Try.ntmps6
    go_wp2_with fail
    go_ret
    exact ⟨rfl, Below.refl _ _⟩
  by_cases hbig2 : 1048576 < len2
  · go_enter Try.func6, Try.ntmps6
    go_wp2_with fail
    go_ret
    exact ⟨rfl, Below.refl _ _⟩
  go_enter Try.func6, Try.ntmps6
  go_wp2_with fail
  refine HD.out.mono ?_
  clear HD
  rintro e w1 ⟨m, nv, ev, rfl, hd, hb1⟩
  obtain ⟨a1, n1, c1, rfl⟩ := hd.ints.slice
  obtain ⟨a2, n2, c2, rfl⟩ := hd.bools.slice
  have hwf := hd.wf
  have M1 := Lib.hid (MachBox.new (st := m.st) 27 hd.ints hd.bools)
  have q1 := Lib.hid (hb1.alloc hb1.size (.cells #[.int .i64 m.st, .slice a1 n1 c1, .slice a2 n2 c2] 27))
  clear hb1 hd
  have y0 := M1.out.c0
  have y1 := M1.out.c1
  have y2 := M1.out.c2
  go_wp2_with fail
  clear y0 y1 y2
  generalize hW2 : w1.alloc (.cells #[.int .i64 m.st, .slice a1 n1 c1, .slice a2 n2 c2] 27) = w2 at *
  generalize hB2 : w1.heap.size = b2 at *
  clear hW2 hB2
  refine (implNot_any m _ _ _ M1.out.ints M1.out.bools hwf).mono ?_
  rintro e w3 h3
  obtain ⟨x, ok, nv3, ev3, hJ3, rfl, hn3, he3, hb3⟩ := h3.reads
  obtain ⟨a3, n3, c3, rfl⟩ := hn3.slice
  obtain ⟨a4, n4, c4, rfl⟩ := he3.slice
  have HJ := Lib.hid hJ3
  have hwx := hJ3.wfT
  have hal := (Below.refl w3.heap.size w3).alloc (Nat.le_refl _) (.cells #[.int .i64 x.st, .slice a3 n3 c3, .slice a4 n4 c4] 27)
  have X3 := Lib.hid (MachBox.new (st := x.st) 27 hn3 he3)
  have M3 := Lib.hid ((M1.out.below hb3).below hal)
  have q3 := Lib.hid ((q1.out.trans (hb3.mono q1.out.size)).trans (hal.mono (q1.out.trans (hb3.mono q1.out.size)).size))
  clear hb3 hal h3 hn3 he3 M1 q1 hJ3
  have y0 := M3.out.c0
  have y1 := M3.out.c1
  have y2 := M3.out.c2
  go_wp2_with fail
  clear y0 y1 y2
  generalize hW4 : w3.alloc (.cells #[.int .i64 x.st, .slice a3 n3 c3, .slice a4 n4 c4] 27) = w4 at *
  generalize hB4 : w3.heap.size = b4 at *
  clear hW4 hB4
  refine (specNot_any m _ _ _ M3.out.ints M3.out.bools hwf).mono ?_
  rintro e w5 h5
  obtain ⟨y, ok5, nv5, ev5, hJ5, rfl, hn5, he5, hb5⟩ := h5.reads
  obtain ⟨rfl, rfl⟩ := hJ5.one HJ.out
  obtain ⟨a5, n5, c5, rfl⟩ := hn5.slice
  obtain ⟨a6, n6, c6, rfl⟩ := he5.slice
  have hal := (Below.refl w5.heap.size w5).alloc (Nat.le_refl _) (.cells #[.int .i64 y.st, .slice a5 n5 c5, .slice a6 n6 c6] 27)
  have Y5 := Lib.hid (MachBox.new (st := y.st) 27 hn5 he5)
  have X5 := Lib.hid ((X3.out.below hb5).below hal)
  have M5 := Lib.hid ((M3.out.below hb5).below hal)
  have q5 := Lib.hid ((q3.out.trans (hb5.mono q3.out.size)).trans (hal.mono (q3.out.trans (hb5.mono q3.out.size)).size))
  have hbb : (ok5 != ok5) = false := by simp
  clear hb5 hal h5 hn5 he5 hJ5 M3 X3 q3
  have y0 := X5.out.c0
  have y1 := X5.out.c1
  have y2 := X5.out.c2
  have y3 := Y5.out.c0
  have y4 := Y5.out.c1
  have y5 := Y5.out.c2
  go_wp2_with fail
  clear y0 y1 y2 y3 y4 y5
  generalize hW6 : w5.alloc (.cells #[.int .i64 y.st, .slice a5 n5 c5, .slice a6 n6 c6] 27) = w6 at *
  generalize hB6 : w5.heap.size = b6 at *
  clear hW6 hB6
  refine (sameMachine_same y _ _ _ _ _ X5.out.ints X5.out.bools Y5.out.ints Y5.out.bools).mono ?_
  rintro e w7 ⟨rfl, hb7⟩
  have X7 := Lib.hid (X5.out.below hb7)
  have M7 := Lib.hid (M5.out.below hb7)
  have q7 := Lib.hid (q5.out.trans (hb7.mono q5.out.size))
  clear hb7 X5 M5 Y5 q5
  cases hok : ok5 with
  | false =>
    subst hok
    have hyz : y = ⟨0, [], []⟩ := by
      rcases HJ.out with ⟨h, -⟩ | ⟨-, h, -⟩
      · cases h
      · exact h
    clear HJ
    subst hyz
    have y0 := X7.out.c0
    have y1 := X7.out.c1
    have y2 := X7.out.c2
    have HI := Lib.hid X7.out.ints
    have HB := Lib.hid X7.out.bools
    simp only at y0 HI HB
    go_wp2_with fail
    clear y0 y1 y2
    refine (sameMachine_same ⟨0, [], []⟩ _ _ _ _ _ HI.out HB.out (isInts_nil _) (isBools_nil _)).mono ?_
    rintro e w9 ⟨rfl, hb9⟩
    go_wp2_with fail
    refine (alive_any _).mono ?_
    rintro e w10 ⟨rfl, rfl⟩
    go_wp2_with fail
    go_ret
    exact ⟨rfl, q7.out.trans (hb9.mono q7.out.size)⟩
  | true =>
    subst hok
    have H7 := H2.out.below q7.out
    go_wp2_with fail
    refine (drawTakesOk_any b len2 cap2 zs2 w7 H7).mono ?_
    clear H7
    rintro e w8 ⟨mm, nv8, ev8, s, rfl, hss, hd8, hb8⟩
    obtain ⟨a9, n9, c9, rfl⟩ := hd8.ints.slice
    obtain ⟨a10, n10, c10, rfl⟩ := hd8.bools.slice
    have hsm : s.size ≤ maxLen := by unfold maxLen; omega
    have hal := hb8.trans (((Below.refl w8.heap.size w8).alloc (Nat.le_refl _) (.cells #[.int .i64 mm.st, .slice a9 n9 c9, .slice a10 n10 c10] 27)).mono hb8.size)
    have X9 := Lib.hid (X7.out.below hal)
    have M9 := Lib.hid (M7.out.below hal)
    have q9 := Lib.hid (q7.out.trans (hal.mono q7.out.size))
    clear hal hb8 hd8 X7 M7 q7
    have y0 := X9.out.c0
    have y1 := X9.out.c1
    have y2 := X9.out.c2
    go_wp2_with fail
    clear y0 y1 y2
    generalize hW9 : w8.alloc (.cells #[.int .i64 mm.st, .slice a9 n9 c9, .slice a10 n10 c10] 27) = w9 at *
    clear hW9
    refine (implNot_any y _ _ _ X9.out.ints X9.out.bools hwx).mono ?_
    rintro e w11 h11
    obtain ⟨z, rz, nv11, ev11, hJz, rfl, hn11, he11, hb11⟩ := h11.reads
    have hmk : m.ok = true := by
      rcases HJ.out with ⟨-, h, -⟩ | ⟨h, -⟩
      · exact h
      · cases h
    obtain ⟨l0, hl0⟩ := leastZ_ex hmk
    obtain ⟨hrz, hzl⟩ := IsJoin.not_not HJ.out hJz hl0
    subst hrz
    rw [← hzl] at hl0
    clear hzl
    have HZL : Hid (∀ L, IsLmZ m L → z = L) := Lib.hid (fun L hL => hl0.one hL)
    have hwz := hJz.wfT
    obtain ⟨a7, n7, c7, rfl⟩ := hn11.slice
    obtain ⟨a8, n8, c8, rfl⟩ := he11.slice
    have hal := (Below.refl w11.heap.size w11).alloc (Nat.le_refl _) (.cells #[.int .i64 z.st, .slice a7 n7 c7, .slice a8 n8 c8] 27)
    have Z12 := Lib.hid (MachBox.new (st := z.st) 27 hn11 he11)
    have X12 := Lib.hid ((X9.out.below hb11).below hal)
    have M12 := Lib.hid ((M9.out.below hb11).below hal)
    have q12 := Lib.hid ((q9.out.trans (hb11.mono q9.out.size)).trans (hal.mono (q9.out.trans (hb11.mono q9.out.size)).size))
    clear hal hb11 h11 hn11 he11 hJz X9 M9 q9 hl0 hmk
    go_upto_region 12 with fail
    generalize hW12 : w11.alloc (.cells #[.int .i64 z.st, .slice a7 n7 c7, .slice a8 n8 c8] 27) = w12 at *
    generalize hB12 : w11.heap.size = b11 at *
    clear hW12 hB12
    have hX : Nin b2 b4 b11 m.st y.st z.st (.slice a1 n1 c1) (.slice a2 n2 c2) (.slice a3 n3 c3) (.slice a4 n4 c4) (.slice a7 n7 c7) (.slice a8 n8 c8) w12 := ⟨⟨M12.out.hB, X12.out.hB, M12.out.c0, M12.out.c1, M12.out.c2, X12.out.c0, X12.out.c1, X12.out.c2⟩, Z12.out.hB, Z12.out.c0, Z12.out.c1, Z12.out.c2⟩
    have HSX : Hid (∀ W, Below w12.heap.size w12 W → Nin b2 b4 b11 m.st y.st z.st (.slice a1 n1 c1) (.slice a2 n2 c2) (.slice a3 n3 c3) (.slice a4 n4 c4) (.slice a7 n7 c7) (.slice a8 n8 c8) W) := Lib.hid (fun W h => hX.below h)
    have BD := Lib.hid ((Below.refl w12.heap.size w12).drew)
    have XD := HSX.out _ BD.out
    clear hX
    cases hw : wordOk s with
    | false =>
      have HW := Lib.hid hw
      clear hw HJ
      have HWO : Hid (∀ V, Calls Try.prog 27 #[.string s] V fun e w' => e = .returned (.bool false) ∧ V = w') := Lib.hid (fun V => (specWordOk_any s V hsm).mono (by rintro e w' ⟨rfl, rfl⟩; rw [HW.out]; exact ⟨rfl, rfl⟩))
      obtain ⟨⟨q0, q1, q2, q3, q4, q5⟩, q6, q7, q8⟩ := (HSX.out _ (Below.refl _ _)).cells
      go_region_with (first | (go_at_call 27; refine (HWO.out _).mono ?_; rintro e w13 ⟨rfl, rfl⟩; have hsweep : True := trivial) | (clear hsweep; guard_target = wpAny _ _ _ _ _ _ _ _; refine wpAny_take (i := 2) (oi := ⟨some 63, _, _, _, _, _⟩) (v := .bool true) rfl (by kernel_rfl) (by kernel_rfl) (by kernel_rfl) (fun _ _ _ h => h) (Or.inl ⟨by rfl, by intro w; go_simp⟩) ?_; simp only [Act.put, List.setIfInBounds_toArray, List.set_cons_zero, List.set_cons_succ]; refine wpAny_take (i := 3) (oi := ⟨some 64, _, _, _, _, _⟩) (v := .bool true) rfl (by kernel_rfl) (by kernel_rfl) (by kernel_rfl) (fun _ _ _ h => h) (Or.inl ⟨by rfl, by intro w; go_simp⟩) ?_; simp only [Act.put, List.setIfInBounds_toArray, List.set_cons_zero, List.set_cons_succ]; refine wpAny_take (i := 4) (oi := ⟨some 65, _, _, _, _, _⟩) (v := undef) rfl (by kernel_rfl) (by kernel_rfl) (by kernel_rfl) (fun _ _ _ h => h) (Or.inr ⟨by rfl, rfl⟩) ?_; simp only [Act.put, List.setIfInBounds_toArray, List.set_cons_zero, List.set_cons_succ]; refine wpAny_take (i := 5) (oi := ⟨some 66, _, _, _, _, _⟩) (v := undef) rfl (by kernel_rfl) (by kernel_rfl) (by kernel_rfl) (fun _ _ _ h => h) (Or.inr ⟨by rfl, rfl⟩) ?_; simp only [Act.put, List.setIfInBounds_toArray, List.set_cons_zero, List.set_cons_succ]; refine wpAny_take (i := 7) (oi := ⟨some 68, _, _, _, _, _⟩) (v := undef) rfl (by kernel_rfl) (by kernel_rfl) (by kernel_rfl) (fun _ _ _ h => h) (Or.inr ⟨by rfl, rfl⟩) ?_; simp only [Act.put, List.setIfInBounds_toArray, List.set_cons_zero, List.set_cons_succ]; refine wpAny_take (i := 8) (oi := ⟨some 69, _, _, _, _, _⟩) (v := undef) rfl (by kernel_rfl) (by kernel_rfl) (by kernel_rfl) (fun _ _ _ h => h) (Or.inr ⟨by rfl, rfl⟩) ?_; simp only [Act.put, List.setIfInBounds_toArray, List.set_cons_zero, List.set_cons_succ]; refine wpAny_take (i := 6) (oi := ⟨some 67, _, _, _, _, _⟩) (v := undef) rfl (by kernel_rfl) (by kernel_rfl) (by kernel_rfl) (fun _ _ _ h => h) (Or.inr ⟨by rfl, rfl⟩) ?_; simp only [Act.put, List.setIfInBounds_toArray, List.set_cons_zero, List.set_cons_succ]; refine wpAny_take (i := 9) (oi := ⟨some 70, _, _, _, _, _⟩) (v := undef) rfl (by kernel_rfl) (by kernel_rfl) (by kernel_rfl) (fun _ _ _ h => h) (Or.inr ⟨by rfl, rfl⟩) ?_; simp only [Act.put, List.setIfInBounds_toArray, List.set_cons_zero, List.set_cons_succ]; refine wpAny_take (i := 10) (oi := ⟨some 71, _, _, _, _, _⟩) (v := undef) rfl (by kernel_rfl) (by kernel_rfl) (by kernel_rfl) (fun _ _ _ h => h) (Or.inr ⟨by rfl, rfl⟩) ?_; simp only [Act.put, List.setIfInBounds_toArray, List.set_cons_zero, List.set_cons_succ]) | (go_at_call 29; refine (implLeastZ m _ _ w12.drew (M12.out.below BD.out).ints (M12.out.below BD.out).bools hwf).mono ?_; rintro e w14 h14; obtain ⟨L, nv14, ev14, hL, rfl, hn14, he14, hb14⟩ := h14.readsN; obtain rfl := HZL.out L hL; have B14 := Lib.hid (Below.then' BD.out hb14); obtain ⟨⟨r0, r1, r2, r3, r4, r5⟩, r6, r7, r8⟩ := (HSX.out _ B14.out).cells; clear hb14 h14) | (go_at_call 24; refine (sameMachine_same z _ _ nv14 ev14 w14 (Z12.out.below B14.out).ints (Z12.out.below B14.out).bools hn14 he14).mono ?_; rintro e w15 ⟨rfl, hb15⟩; have B15 := Lib.hid (Below.then' B14.out hb15); clear hb15))
      all_goals
        go_simp
        go_wp2_with fail
        go_ret
        exact ⟨rfl, q12.out.trans (B15.out.mono q12.out.size)⟩
    | true =>
      have HW := Lib.hid hw
      have hty := IsJoin.not_takes HJ.out hw
      clear hw HJ
      cases ht : m.takes s with
      | false =>
        have HTM := Lib.hid ht
        have HTY : Hid (y.takes s = true) := Lib.hid (by rw [hty, ht]; rfl)
        clear ht hty
        go_region_held3 (fun w' => (w'.cell? ⟨b2, 0, none⟩ = some (.int .i64 m.st) ∧ w'.cell? ⟨b2, 1, none⟩ = some (.slice a1 n1 c1) ∧ w'.cell? ⟨b2, 2, none⟩ = some (.slice a2 n2 c2) ∧ w'.cell? ⟨b4, 0, none⟩ = some (.int .i64 y.st) ∧ w'.cell? ⟨b4, 1, none⟩ = some (.slice a3 n3 c3) ∧ w'.cell? ⟨b4, 2, none⟩ = some (.slice a4 n4 c4)) ∧ w'.cell? ⟨b11, 0, none⟩ = some (.int .i64 z.st) ∧ w'.cell? ⟨b11, 1, none⟩ = some (.slice a7 n7 c7) ∧ w'.cell? ⟨b11, 2, none⟩ = some (.slice a8 n8 c8))
          (first | (with_reducible exact XD.cells) | (with_reducible exact XX14.cells) | (with_reducible exact XX15.cells) | (with_reducible exact XX16.cells) | (with_reducible exact XX17.cells))
          (first | (go_at_call 27; refine (specWordOk_any s _ hsm).mono ?_; rintro e w13 ⟨rfl, rfl⟩; rw [HW.out]) | (go_at_call 28; with_reducible refine (implTakesOk_any y s _ _ w12.drew (X12.out.below BD.out).ints (X12.out.below BD.out).bools hwx hsm).mono ?_; rintro e w14 ⟨rfl, hb14⟩; rw [HTY.out]; have B14 := Lib.hid (Below.then' BD.out hb14); have XX14 := HSX.out _ B14.out; clear hb14) | (go_at_call 28; with_reducible refine (implTakesOk_any m s _ _ w14 (M12.out.below B14.out).ints (M12.out.below B14.out).bools hwf hsm).mono ?_; rintro e w15 ⟨rfl, hb15⟩; rw [HTM.out]; have B15 := Lib.hid (Below.then' B14.out hb15); have XX15 := HSX.out _ B15.out; clear hb15) | (go_at_call 29; refine (implLeastZ m _ _ w15 (M12.out.below B15.out).ints (M12.out.below B15.out).bools hwf).mono ?_; rintro e w16 h16; obtain ⟨L, nv16, ev16, hL, rfl, hn16, he16, hb16⟩ := h16.readsN; obtain rfl := HZL.out L hL; have B16 := Lib.hid (Below.then' B15.out hb16); have XX16 := HSX.out _ B16.out; clear hb16 h16) | (go_at_call 24; refine (sameMachine_same z _ _ nv16 ev16 w16 (Z12.out.below B16.out).ints (Z12.out.below B16.out).bools hn16 he16).mono ?_; rintro e w17 ⟨rfl, hb17⟩; have B17 := Lib.hid (Below.then' B16.out hb17); have XX17 := HSX.out _ B17.out; clear hb17))
        all_goals
          go_wp2_with fail
          go_ret
          exact ⟨rfl, q12.out.trans (B17.out.mono q12.out.size)⟩
      | true =>
        have HTM := Lib.hid ht
        have HTY : Hid (y.takes s = false) := Lib.hid (by rw [hty, ht]; rfl)
        clear ht hty
        go_region_held3 (fun w' => (w'.cell? ⟨b2, 0, none⟩ = some (.int .i64 m.st) ∧ w'.cell? ⟨b2, 1, none⟩ = some (.slice a1 n1 c1) ∧ w'.cell? ⟨b2, 2, none⟩ = some (.slice a2 n2 c2) ∧ w'.cell? ⟨b4, 0, none⟩ = some (.int .i64 y.st) ∧ w'.cell? ⟨b4, 1, none⟩ = some (.slice a3 n3 c3) ∧ w'.cell? ⟨b4, 2, none⟩ = some (.slice a4 n4 c4)) ∧ w'.cell? ⟨b11, 0, none⟩ = some (.int .i64 z.st) ∧ w'.cell? ⟨b11, 1, none⟩ = some (.slice a7 n7 c7) ∧ w'.cell? ⟨b11, 2, none⟩ = some (.slice a8 n8 c8))
          (first | (with_reducible exact XD.cells) | (with_reducible exact XX14.cells) | (with_reducible exact XX15.cells) | (with_reducible exact XX16.cells) | (with_reducible exact XX17.cells))
          (first | (go_at_call 27; refine (specWordOk_any s _ hsm).mono ?_; rintro e w13 ⟨rfl, rfl⟩; rw [HW.out]) | (go_at_call 28; with_reducible refine (implTakesOk_any y s _ _ w12.drew (X12.out.below BD.out).ints (X12.out.below BD.out).bools hwx hsm).mono ?_; rintro e w14 ⟨rfl, hb14⟩; rw [HTY.out]; have B14 := Lib.hid (Below.then' BD.out hb14); have XX14 := HSX.out _ B14.out; clear hb14) | (go_at_call 28; with_reducible refine (implTakesOk_any m s _ _ w14 (M12.out.below B14.out).ints (M12.out.below B14.out).bools hwf hsm).mono ?_; rintro e w15 ⟨rfl, hb15⟩; rw [HTM.out]; have B15 := Lib.hid (Below.then' B14.out hb15); have XX15 := HSX.out _ B15.out; clear hb15) | (go_at_call 29; refine (implLeastZ m _ _ w15 (M12.out.below B15.out).ints (M12.out.below B15.out).bools hwf).mono ?_; rintro e w16 h16; obtain ⟨L, nv16, ev16, hL, rfl, hn16, he16, hb16⟩ := h16.readsN; obtain rfl := HZL.out L hL; have B16 := Lib.hid (Below.then' B15.out hb16); have XX16 := HSX.out _ B16.out; clear hb16 h16) | (go_at_call 24; refine (sameMachine_same z _ _ nv16 ev16 w16 (Z12.out.below B16.out).ints (Z12.out.below B16.out).bools hn16 he16).mono ?_; rintro e w17 ⟨rfl, hb17⟩; have B17 := Lib.hid (Below.then' B16.out hb17); have XX17 := HSX.out _ B17.out; clear hb17))
        all_goals
          go_wp2_with fail
          go_ret
          exact ⟨rfl, q12.out.trans (B17.out.mono q12.out.size)⟩
end Go.Proofs.Ythknpbefdejbkaa
