/- Drawing a rule: the walk. No condition. -/
import Derived.Test.YtlfjecaffmfgcabDoorDrawR
namespace Go.Proofs.YtlfjecaffmfgcabDoor
open Go.RowKit

theorem three_ints (w w1 : World) (t : TypeId) (R : Nat) (hR : R < w.heap.size) (h : KeepsBut R (w.alloc (.cells #[.int .i64 (-1), .int .i64 6, .int .i64 1] t)) w1) (v : Int) (h0 : 0 ≤ v) (h3 : v < 3) :
    ∃ (j : Nat) (u : Int), v = j ∧ j < 3 ∧ -1 ≤ u ∧ u ≤ 6 ∧ w1.cell? ⟨w.heap.size, j, none⟩ = some (.int .i64 u) := by
  have hc : ∀ j, w1.cell? ⟨w.heap.size, j, none⟩ = (#[.int .i64 (-1), .int .i64 6, .int .i64 1] : Array Value)[j]? := fun j => by
    rw [h.cell (p := ⟨w.heap.size, j, none⟩) (by simp) (by show w.heap.size ≠ R; omega)]
    exact World.cell?_alloc_new w _ _ j
  obtain rfl | rfl | rfl : v = 0 ∨ v = 1 ∨ v = 2 := by omega
  · exact ⟨0, -1, rfl, by omega, by omega, by omega, hc 0⟩
  · exact ⟨1, 6, rfl, by omega, by omega, by omega, hc 1⟩
  · exact ⟨2, 1, rfl, by omega, by omega, by omega, hc 2⟩

set_option maxHeartbeats 4000000 in
set_option maxRecDepth 100000 in
theorem l20Rule_any (B R : Nat) (a : Option Addr) (len cap k : Nat) (n : Int) (w : World) (H : RdAt B R a len cap k w) (hk : k ≤ 900000) (hn : 1 ≤ n) (hn2 : n ≤ 1000) :
    Calls Tryd.prog 23 #[.pointer (some ⟨R, 0, none⟩), .int .i64 n] w (RulePost B R a len cap k w) := by
  have R1 := Lib.hid (H.keeps ((Below.refl _ w).alloc (Nat.le_refl _) (.cells #[.int .i64 0, .string ⟨#[]⟩, .string ⟨#[]⟩, .int .i64 0] 24)))
  have K1 := Lib.hid ((KeepsBut.refl R w).alloc (.cells #[.int .i64 0, .string ⟨#[]⟩, .string ⟨#[]⟩, .int .i64 0] 24))
  have F1 := Lib.hid (RuF.new w 0 ⟨#[]⟩ ⟨#[]⟩ 0 24)
  have HR := Lib.hid H.hR
  have HNE : Hid (w.heap.size ≠ R) := Lib.hid (Nat.ne_of_gt H.hR)
  clear H
  go_enter Tryd.func23, Tryd.ntmps23
  go_wp2_with fail
  refine (pick_any B R a len cap k 5 _ R1.out (by omega) (by omega) (by omega)).mono ?_
  rintro e w2 ⟨v, rfl, hv0, hv1, hR2, hK2⟩
  have hv5 := hv1 (by omega)
  have F2 := Lib.hid (F1.out.keeps hK2 HNE.out)
  have K2 := Lib.hid (K1.out.trans hK2)
  have R2 := Lib.hid hR2
  clear hv1 hR2 hK2 F1 K1 R1
  go_wp2_with fail
  refine (pick_any B R a len cap (k + 1) 3 _ (R2.out.keeps ((Below.refl _ _).alloc (Nat.le_refl _) _)) (by omega) (by omega) (by omega)).mono ?_
  rintro e w3 ⟨v3, rfl, hv30, hv31, hR3, hK3⟩
  obtain ⟨j, s3, rfl, hj, hs3, hcell⟩ := three_cells _ _ _ _ _ _ R R2.out.hR hK3 v3 hv30 (hv31 (by omega))
  have hsz3 : s3.size = 1 := by rcases hs3 with rfl | rfl | rfl <;> simp [ByteArray.size]
  have F3 := Lib.hid ((F2.out.keeps ((KeepsBut.refl R w2).alloc (.cells #[.string ⟨#[114]⟩, .string ⟨#[100]⟩, .string ⟨#[110]⟩] 9)) HNE.out).keeps hK3 HNE.out)
  have K3 := Lib.hid ((K2.out.alloc (.cells #[.string ⟨#[114]⟩, .string ⟨#[100]⟩, .string ⟨#[110]⟩] 9)).trans hK3)
  have R3 := Lib.hid hR3
  clear hv31 hR3 hK3 F2 K2 R2 hs3 hv30
  have hD : ∀ x : Int, Dr B R a len cap w w.heap.size w3.heap.size (k + 2) x s3 ⟨#[]⟩ 0 (w3.alloc (.cells #[.int .i64 x, .string s3, .string ⟨#[]⟩, .int .i64 0] 24)) := fun x =>
    ⟨R3.out.keeps ((Below.refl _ _).alloc (Nat.le_refl _) _), K3.out.alloc _, RuF.new w3 x s3 ⟨#[]⟩ 0 24, F3.out.keeps (R := R) ((KeepsBut.refl R w3).alloc _) HNE.out, Nat.le_refl _, K3.out.size, HR.out, Nat.ne_of_lt F3.out.hB⟩
  have HD := Lib.hid hD
  clear hD F3 K3 R3 HNE HR
  generalize hRB : w.heap.size = RB at *
  generalize hRU : w3.heap.size = RU at *
  obtain rfl | rfl | rfl | rfl | rfl : v = 0 ∨ v = 1 ∨ v = 2 ∨ v = 3 ∨ v = 4 := by omega
  · go_wp2_with fail
    refine (pick_any B R a len cap (k + 2) 4 _ (HD.out 0).rd (by omega) (by omega) (by omega)).mono ?_
    rintro e w5 ⟨v5, rfl, p0, p1, hR5, hK5⟩
    have p2 := p1 (by omega)
    have D5 := Lib.hid ((HD.out 0).keeps hR5 hK5)
    clear hR5 hK5 p1
    have hwr : IntKind.i64.wrap (v5) = v5 := IntWalk.i64_in _ (by omega)
    have D6 := Lib.hid (D5.out.set3 (v5))
    obtain ⟨⟨y0, y1, y2, y3⟩, f0, f1, f2, f3⟩ := D5.out.cells
    go_wp2_with fail
    clear y0 y1 y2 y3 f0 f1 f2 f3 D5
    refine (odd_any B R a len cap (k + 3) n _ D6.out.rd (by omega) hn (by omega)).mono ?_
    rintro e w7 ⟨b, rfl, hR7, hK7⟩
    have D7 := Lib.hid (D6.out.keeps hR7 hK7)
    clear hR7 hK7 D6
    cases b with
    | false =>
      obtain ⟨⟨y0, y1, y2, y3⟩, f0, f1, f2, f3⟩ := D7.out.cells
      obtain ⟨⟨z0, z1, z2, z3⟩, g0, g1, g2, g3⟩ := D7.out.cellsB
      have hq1 : RB ≠ RU := D7.out.ne
      have hq2 : RU ≠ RB := Ne.symm hq1
      have FI := Lib.hid (fun W hW => D7.out.fin (W := W) hW)
      go_wp2
      obtain ⟨r0, r1, r2, r3, r4, r5⟩ := FI.out _ rfl
      refine bodyPost_ret (v := .agg #[.int .i64 0, .string s3, .string ⟨#[]⟩, .int .i64 (v5)]) ?_ rfl ⟨0, s3, ⟨#[]⟩, (v5), rfl, by omega, by omega, hsz3, Nat.zero_le _, by omega, by omega, k + 4, by omega, by omega, r4, r5⟩
      simp [results, Tryd.results23, go_sem, r0, r1, r2, r3]
    | true =>
      go_wp2_with fail
      refine (pick_any B R a len cap (k + 4) 3 _ D7.out.rd (by omega) (by omega) (by omega)).mono ?_
      rintro e w8 ⟨v8, rfl, q0, q1, hR8, hK8⟩
      have q2 := q1 (by omega)
      have D8 := Lib.hid (D7.out.keeps hR8 hK8)
      clear hR8 hK8 D7 q1
      obtain rfl | rfl | rfl : v8 = 0 ∨ v8 = 1 ∨ v8 = 2 := by omega
      · have D9 := Lib.hid (D8.out.set1 ⟨#[120]⟩)
        obtain ⟨⟨y0, y1, y2, y3⟩, f0, f1, f2, f3⟩ := D8.out.cells
        obtain ⟨⟨z0, z1, z2, z3⟩, g0, g1, g2, g3⟩ := D8.out.cellsB
        have hq1 : RB ≠ RU := D8.out.ne
        have hq2 : RU ≠ RB := Ne.symm hq1
        have FI := Lib.hid (fun W hW => D9.out.fin (W := W) hW)
        go_wp2
        obtain ⟨r0, r1, r2, r3, r4, r5⟩ := FI.out _ rfl
        refine bodyPost_ret (v := .agg #[.int .i64 0, .string ⟨#[120]⟩, .string ⟨#[]⟩, .int .i64 (v5)]) ?_ rfl ⟨0, ⟨#[120]⟩, ⟨#[]⟩, (v5), rfl, by omega, by omega, rfl, Nat.zero_le _, by omega, by omega, k + 5, by omega, by omega, r4, r5⟩
        simp [results, Tryd.results23, go_sem, r0, r1, r2, r3]
      · go_wp2_with fail
        have DA := Lib.hid (D8.out.alloc (.cells #[.int .i64 (-1), .int .i64 6, .int .i64 1] 3))
        refine (pick_any B R a len cap (k + 5) 3 _ DA.out.rd (by omega) (by omega) (by omega)).mono ?_
        rintro e w9 ⟨v9, rfl, p0, p1, hR9, hK9⟩
        obtain ⟨j9, u9, rfl, hj9, hu0, hu1, hc9⟩ := three_ints _ _ _ R (Nat.lt_of_lt_of_le D8.out.hR0 D8.out.kp.size) hK9 v9 p0 (p1 (by omega))
        have D9 := Lib.hid (DA.out.keeps hR9 hK9)
        have DB := Lib.hid (D9.out.set3 u9)
        clear hR9 hK9 D8 DA p1
        obtain ⟨⟨y0, y1, y2, y3⟩, f0, f1, f2, f3⟩ := D9.out.cells
        obtain ⟨⟨z0, z1, z2, z3⟩, g0, g1, g2, g3⟩ := D9.out.cellsB
        have hq1 : RB ≠ RU := D9.out.ne
        have hq2 : RU ≠ RB := Ne.symm hq1
        have FI := Lib.hid (fun W hW => DB.out.fin (W := W) hW)
        go_wp2
        obtain ⟨r0, r1, r2, r3, r4, r5⟩ := FI.out _ rfl
        refine bodyPost_ret (v := .agg #[.int .i64 0, .string s3, .string ⟨#[]⟩, .int .i64 u9]) ?_ rfl ⟨0, s3, ⟨#[]⟩, u9, rfl, by omega, by omega, hsz3, Nat.zero_le _, hu0, hu1, k + 6, by omega, by omega, r4, r5⟩
        simp [results, Tryd.results23, go_sem, r0, r1, r2, r3]
      · have D9 := Lib.hid (D8.out.set0 5)
        obtain ⟨⟨y0, y1, y2, y3⟩, f0, f1, f2, f3⟩ := D8.out.cells
        obtain ⟨⟨z0, z1, z2, z3⟩, g0, g1, g2, g3⟩ := D8.out.cellsB
        have hq1 : RB ≠ RU := D8.out.ne
        have hq2 : RU ≠ RB := Ne.symm hq1
        have FI := Lib.hid (fun W hW => D9.out.fin (W := W) hW)
        go_wp2
        obtain ⟨r0, r1, r2, r3, r4, r5⟩ := FI.out _ rfl
        refine bodyPost_ret (v := .agg #[.int .i64 5, .string s3, .string ⟨#[]⟩, .int .i64 (v5)]) ?_ rfl ⟨5, s3, ⟨#[]⟩, (v5), rfl, by omega, by omega, hsz3, Nat.zero_le _, by omega, by omega, k + 5, by omega, by omega, r4, r5⟩
        simp [results, Tryd.results23, go_sem, r0, r1, r2, r3]
  · go_wp2_with fail
    refine (pick_any B R a len cap (k + 2) 2 _ (HD.out 1).rd (by omega) (by omega) (by omega)).mono ?_
    rintro e w5 ⟨v5, rfl, p0, p1, hR5, hK5⟩
    have p2 := p1 (by omega)
    have D5 := Lib.hid ((HD.out 1).keeps hR5 hK5)
    clear hR5 hK5 p1
    have hwr : IntKind.i64.wrap (2 + v5) = 2 + v5 := IntWalk.i64_in _ (by omega)
    have D6 := Lib.hid (D5.out.set3 (2 + v5))
    obtain ⟨⟨y0, y1, y2, y3⟩, f0, f1, f2, f3⟩ := D5.out.cells
    go_wp2_with fail
    clear y0 y1 y2 y3 f0 f1 f2 f3 D5
    refine (odd_any B R a len cap (k + 3) n _ D6.out.rd (by omega) hn (by omega)).mono ?_
    rintro e w7 ⟨b, rfl, hR7, hK7⟩
    have D7 := Lib.hid (D6.out.keeps hR7 hK7)
    clear hR7 hK7 D6
    cases b with
    | false =>
      obtain ⟨⟨y0, y1, y2, y3⟩, f0, f1, f2, f3⟩ := D7.out.cells
      obtain ⟨⟨z0, z1, z2, z3⟩, g0, g1, g2, g3⟩ := D7.out.cellsB
      have hq1 : RB ≠ RU := D7.out.ne
      have hq2 : RU ≠ RB := Ne.symm hq1
      have FI := Lib.hid (fun W hW => D7.out.fin (W := W) hW)
      go_wp2
      obtain ⟨r0, r1, r2, r3, r4, r5⟩ := FI.out _ rfl
      refine bodyPost_ret (v := .agg #[.int .i64 1, .string s3, .string ⟨#[]⟩, .int .i64 (2 + v5)]) ?_ rfl ⟨1, s3, ⟨#[]⟩, (2 + v5), rfl, by omega, by omega, hsz3, Nat.zero_le _, by omega, by omega, k + 4, by omega, by omega, r4, r5⟩
      simp [results, Tryd.results23, go_sem, r0, r1, r2, r3]
    | true =>
      go_wp2_with fail
      refine (pick_any B R a len cap (k + 4) 3 _ D7.out.rd (by omega) (by omega) (by omega)).mono ?_
      rintro e w8 ⟨v8, rfl, q0, q1, hR8, hK8⟩
      have q2 := q1 (by omega)
      have D8 := Lib.hid (D7.out.keeps hR8 hK8)
      clear hR8 hK8 D7 q1
      obtain rfl | rfl | rfl : v8 = 0 ∨ v8 = 1 ∨ v8 = 2 := by omega
      · have D9 := Lib.hid (D8.out.set1 ⟨#[120]⟩)
        obtain ⟨⟨y0, y1, y2, y3⟩, f0, f1, f2, f3⟩ := D8.out.cells
        obtain ⟨⟨z0, z1, z2, z3⟩, g0, g1, g2, g3⟩ := D8.out.cellsB
        have hq1 : RB ≠ RU := D8.out.ne
        have hq2 : RU ≠ RB := Ne.symm hq1
        have FI := Lib.hid (fun W hW => D9.out.fin (W := W) hW)
        go_wp2
        obtain ⟨r0, r1, r2, r3, r4, r5⟩ := FI.out _ rfl
        refine bodyPost_ret (v := .agg #[.int .i64 1, .string ⟨#[120]⟩, .string ⟨#[]⟩, .int .i64 (2 + v5)]) ?_ rfl ⟨1, ⟨#[120]⟩, ⟨#[]⟩, (2 + v5), rfl, by omega, by omega, rfl, Nat.zero_le _, by omega, by omega, k + 5, by omega, by omega, r4, r5⟩
        simp [results, Tryd.results23, go_sem, r0, r1, r2, r3]
      · go_wp2_with fail
        have DA := Lib.hid (D8.out.alloc (.cells #[.int .i64 (-1), .int .i64 6, .int .i64 1] 3))
        refine (pick_any B R a len cap (k + 5) 3 _ DA.out.rd (by omega) (by omega) (by omega)).mono ?_
        rintro e w9 ⟨v9, rfl, p0, p1, hR9, hK9⟩
        obtain ⟨j9, u9, rfl, hj9, hu0, hu1, hc9⟩ := three_ints _ _ _ R (Nat.lt_of_lt_of_le D8.out.hR0 D8.out.kp.size) hK9 v9 p0 (p1 (by omega))
        have D9 := Lib.hid (DA.out.keeps hR9 hK9)
        have DB := Lib.hid (D9.out.set3 u9)
        clear hR9 hK9 D8 DA p1
        obtain ⟨⟨y0, y1, y2, y3⟩, f0, f1, f2, f3⟩ := D9.out.cells
        obtain ⟨⟨z0, z1, z2, z3⟩, g0, g1, g2, g3⟩ := D9.out.cellsB
        have hq1 : RB ≠ RU := D9.out.ne
        have hq2 : RU ≠ RB := Ne.symm hq1
        have FI := Lib.hid (fun W hW => DB.out.fin (W := W) hW)
        go_wp2
        obtain ⟨r0, r1, r2, r3, r4, r5⟩ := FI.out _ rfl
        refine bodyPost_ret (v := .agg #[.int .i64 1, .string s3, .string ⟨#[]⟩, .int .i64 u9]) ?_ rfl ⟨1, s3, ⟨#[]⟩, u9, rfl, by omega, by omega, hsz3, Nat.zero_le _, hu0, hu1, k + 6, by omega, by omega, r4, r5⟩
        simp [results, Tryd.results23, go_sem, r0, r1, r2, r3]
      · have D9 := Lib.hid (D8.out.set0 5)
        obtain ⟨⟨y0, y1, y2, y3⟩, f0, f1, f2, f3⟩ := D8.out.cells
        obtain ⟨⟨z0, z1, z2, z3⟩, g0, g1, g2, g3⟩ := D8.out.cellsB
        have hq1 : RB ≠ RU := D8.out.ne
        have hq2 : RU ≠ RB := Ne.symm hq1
        have FI := Lib.hid (fun W hW => D9.out.fin (W := W) hW)
        go_wp2
        obtain ⟨r0, r1, r2, r3, r4, r5⟩ := FI.out _ rfl
        refine bodyPost_ret (v := .agg #[.int .i64 5, .string s3, .string ⟨#[]⟩, .int .i64 (2 + v5)]) ?_ rfl ⟨5, s3, ⟨#[]⟩, (2 + v5), rfl, by omega, by omega, hsz3, Nat.zero_le _, by omega, by omega, k + 5, by omega, by omega, r4, r5⟩
        simp [results, Tryd.results23, go_sem, r0, r1, r2, r3]
  · go_wp2_with fail
    have DA := Lib.hid ((HD.out 2).alloc (.cells #[.string ⟨#[114]⟩, .string ⟨#[100]⟩, .string ⟨#[110]⟩] 9))
    refine (pick_any B R a len cap (k + 2) 3 _ DA.out.rd (by omega) (by omega) (by omega)).mono ?_
    rintro e w5 ⟨v5, rfl, p0, p1, hR5, hK5⟩
    obtain ⟨j5, s5, rfl, hj5, hs5, hc5⟩ := three_cells _ _ _ _ _ _ R (HD.out 2).rd.hR hK5 v5 p0 (p1 (by omega))
    rw [World.size_alloc, hRU] at hc5
    have hsz5 : s5.size ≤ 1 := by rcases hs5 with rfl | rfl | rfl <;> simp [ByteArray.size]
    have D5 := Lib.hid (DA.out.keeps hR5 hK5)
    clear hR5 hK5 p1 DA hs5
    have D6 := Lib.hid (D5.out.set2 s5)
    obtain ⟨⟨y0, y1, y2, y3⟩, f0, f1, f2, f3⟩ := D5.out.cells
    go_wp2_with fail
    clear y0 y1 y2 y3 f0 f1 f2 f3 D5
    refine (odd_any B R a len cap (k + 3) n _ D6.out.rd (by omega) hn (by omega)).mono ?_
    rintro e w7 ⟨b, rfl, hR7, hK7⟩
    have D7 := Lib.hid (D6.out.keeps hR7 hK7)
    clear hR7 hK7 D6
    cases b with
    | false =>
      obtain ⟨⟨y0, y1, y2, y3⟩, f0, f1, f2, f3⟩ := D7.out.cells
      obtain ⟨⟨z0, z1, z2, z3⟩, g0, g1, g2, g3⟩ := D7.out.cellsB
      have hq1 : RB ≠ RU := D7.out.ne
      have hq2 : RU ≠ RB := Ne.symm hq1
      have FI := Lib.hid (fun W hW => D7.out.fin (W := W) hW)
      go_wp2
      obtain ⟨r0, r1, r2, r3, r4, r5⟩ := FI.out _ rfl
      refine bodyPost_ret (v := .agg #[.int .i64 2, .string s3, .string s5, .int .i64 0]) ?_ rfl ⟨2, s3, s5, 0, rfl, by omega, by omega, hsz3, hsz5, by omega, by omega, k + 4, by omega, by omega, r4, r5⟩
      simp [results, Tryd.results23, go_sem, r0, r1, r2, r3]
    | true =>
      go_wp2_with fail
      refine (pick_any B R a len cap (k + 4) 3 _ D7.out.rd (by omega) (by omega) (by omega)).mono ?_
      rintro e w8 ⟨v8, rfl, q0, q1, hR8, hK8⟩
      have q2 := q1 (by omega)
      have D8 := Lib.hid (D7.out.keeps hR8 hK8)
      clear hR8 hK8 D7 q1
      obtain rfl | rfl | rfl : v8 = 0 ∨ v8 = 1 ∨ v8 = 2 := by omega
      · have D9 := Lib.hid (D8.out.set1 ⟨#[120]⟩)
        obtain ⟨⟨y0, y1, y2, y3⟩, f0, f1, f2, f3⟩ := D8.out.cells
        obtain ⟨⟨z0, z1, z2, z3⟩, g0, g1, g2, g3⟩ := D8.out.cellsB
        have hq1 : RB ≠ RU := D8.out.ne
        have hq2 : RU ≠ RB := Ne.symm hq1
        have FI := Lib.hid (fun W hW => D9.out.fin (W := W) hW)
        go_wp2
        obtain ⟨r0, r1, r2, r3, r4, r5⟩ := FI.out _ rfl
        refine bodyPost_ret (v := .agg #[.int .i64 2, .string ⟨#[120]⟩, .string s5, .int .i64 0]) ?_ rfl ⟨2, ⟨#[120]⟩, s5, 0, rfl, by omega, by omega, rfl, hsz5, by omega, by omega, k + 5, by omega, by omega, r4, r5⟩
        simp [results, Tryd.results23, go_sem, r0, r1, r2, r3]
      · go_wp2_with fail
        have DA := Lib.hid (D8.out.alloc (.cells #[.int .i64 (-1), .int .i64 6, .int .i64 1] 3))
        refine (pick_any B R a len cap (k + 5) 3 _ DA.out.rd (by omega) (by omega) (by omega)).mono ?_
        rintro e w9 ⟨v9, rfl, p0, p1, hR9, hK9⟩
        obtain ⟨j9, u9, rfl, hj9, hu0, hu1, hc9⟩ := three_ints _ _ _ R (Nat.lt_of_lt_of_le D8.out.hR0 D8.out.kp.size) hK9 v9 p0 (p1 (by omega))
        have D9 := Lib.hid (DA.out.keeps hR9 hK9)
        have DB := Lib.hid (D9.out.set3 u9)
        clear hR9 hK9 D8 DA p1
        obtain ⟨⟨y0, y1, y2, y3⟩, f0, f1, f2, f3⟩ := D9.out.cells
        obtain ⟨⟨z0, z1, z2, z3⟩, g0, g1, g2, g3⟩ := D9.out.cellsB
        have hq1 : RB ≠ RU := D9.out.ne
        have hq2 : RU ≠ RB := Ne.symm hq1
        have FI := Lib.hid (fun W hW => DB.out.fin (W := W) hW)
        go_wp2
        obtain ⟨r0, r1, r2, r3, r4, r5⟩ := FI.out _ rfl
        refine bodyPost_ret (v := .agg #[.int .i64 2, .string s3, .string s5, .int .i64 u9]) ?_ rfl ⟨2, s3, s5, u9, rfl, by omega, by omega, hsz3, hsz5, hu0, hu1, k + 6, by omega, by omega, r4, r5⟩
        simp [results, Tryd.results23, go_sem, r0, r1, r2, r3]
      · have D9 := Lib.hid (D8.out.set0 5)
        obtain ⟨⟨y0, y1, y2, y3⟩, f0, f1, f2, f3⟩ := D8.out.cells
        obtain ⟨⟨z0, z1, z2, z3⟩, g0, g1, g2, g3⟩ := D8.out.cellsB
        have hq1 : RB ≠ RU := D8.out.ne
        have hq2 : RU ≠ RB := Ne.symm hq1
        have FI := Lib.hid (fun W hW => D9.out.fin (W := W) hW)
        go_wp2
        obtain ⟨r0, r1, r2, r3, r4, r5⟩ := FI.out _ rfl
        refine bodyPost_ret (v := .agg #[.int .i64 5, .string s3, .string s5, .int .i64 0]) ?_ rfl ⟨5, s3, s5, 0, rfl, by omega, by omega, hsz3, hsz5, by omega, by omega, k + 5, by omega, by omega, r4, r5⟩
        simp [results, Tryd.results23, go_sem, r0, r1, r2, r3]
  · go_wp2_with fail
    refine (pick_any B R a len cap (k + 2) 5 _ (HD.out 3).rd (by omega) (by omega) (by omega)).mono ?_
    rintro e w5 ⟨v5, rfl, p0, p1, hR5, hK5⟩
    have p2 := p1 (by omega)
    have D5 := Lib.hid ((HD.out 3).keeps hR5 hK5)
    clear hR5 hK5 p1
    have hwr : IntKind.i64.wrap (v5) = v5 := IntWalk.i64_in _ (by omega)
    have D6 := Lib.hid (D5.out.set3 (v5))
    obtain ⟨⟨y0, y1, y2, y3⟩, f0, f1, f2, f3⟩ := D5.out.cells
    go_wp2_with fail
    clear y0 y1 y2 y3 f0 f1 f2 f3 D5
    refine (odd_any B R a len cap (k + 3) n _ D6.out.rd (by omega) hn (by omega)).mono ?_
    rintro e w7 ⟨b, rfl, hR7, hK7⟩
    have D7 := Lib.hid (D6.out.keeps hR7 hK7)
    clear hR7 hK7 D6
    cases b with
    | false =>
      obtain ⟨⟨y0, y1, y2, y3⟩, f0, f1, f2, f3⟩ := D7.out.cells
      obtain ⟨⟨z0, z1, z2, z3⟩, g0, g1, g2, g3⟩ := D7.out.cellsB
      have hq1 : RB ≠ RU := D7.out.ne
      have hq2 : RU ≠ RB := Ne.symm hq1
      have FI := Lib.hid (fun W hW => D7.out.fin (W := W) hW)
      go_wp2
      obtain ⟨r0, r1, r2, r3, r4, r5⟩ := FI.out _ rfl
      refine bodyPost_ret (v := .agg #[.int .i64 3, .string s3, .string ⟨#[]⟩, .int .i64 (v5)]) ?_ rfl ⟨3, s3, ⟨#[]⟩, (v5), rfl, by omega, by omega, hsz3, Nat.zero_le _, by omega, by omega, k + 4, by omega, by omega, r4, r5⟩
      simp [results, Tryd.results23, go_sem, r0, r1, r2, r3]
    | true =>
      go_wp2_with fail
      refine (pick_any B R a len cap (k + 4) 3 _ D7.out.rd (by omega) (by omega) (by omega)).mono ?_
      rintro e w8 ⟨v8, rfl, q0, q1, hR8, hK8⟩
      have q2 := q1 (by omega)
      have D8 := Lib.hid (D7.out.keeps hR8 hK8)
      clear hR8 hK8 D7 q1
      obtain rfl | rfl | rfl : v8 = 0 ∨ v8 = 1 ∨ v8 = 2 := by omega
      · have D9 := Lib.hid (D8.out.set1 ⟨#[120]⟩)
        obtain ⟨⟨y0, y1, y2, y3⟩, f0, f1, f2, f3⟩ := D8.out.cells
        obtain ⟨⟨z0, z1, z2, z3⟩, g0, g1, g2, g3⟩ := D8.out.cellsB
        have hq1 : RB ≠ RU := D8.out.ne
        have hq2 : RU ≠ RB := Ne.symm hq1
        have FI := Lib.hid (fun W hW => D9.out.fin (W := W) hW)
        go_wp2
        obtain ⟨r0, r1, r2, r3, r4, r5⟩ := FI.out _ rfl
        refine bodyPost_ret (v := .agg #[.int .i64 3, .string ⟨#[120]⟩, .string ⟨#[]⟩, .int .i64 (v5)]) ?_ rfl ⟨3, ⟨#[120]⟩, ⟨#[]⟩, (v5), rfl, by omega, by omega, rfl, Nat.zero_le _, by omega, by omega, k + 5, by omega, by omega, r4, r5⟩
        simp [results, Tryd.results23, go_sem, r0, r1, r2, r3]
      · go_wp2_with fail
        have DA := Lib.hid (D8.out.alloc (.cells #[.int .i64 (-1), .int .i64 6, .int .i64 1] 3))
        refine (pick_any B R a len cap (k + 5) 3 _ DA.out.rd (by omega) (by omega) (by omega)).mono ?_
        rintro e w9 ⟨v9, rfl, p0, p1, hR9, hK9⟩
        obtain ⟨j9, u9, rfl, hj9, hu0, hu1, hc9⟩ := three_ints _ _ _ R (Nat.lt_of_lt_of_le D8.out.hR0 D8.out.kp.size) hK9 v9 p0 (p1 (by omega))
        have D9 := Lib.hid (DA.out.keeps hR9 hK9)
        have DB := Lib.hid (D9.out.set3 u9)
        clear hR9 hK9 D8 DA p1
        obtain ⟨⟨y0, y1, y2, y3⟩, f0, f1, f2, f3⟩ := D9.out.cells
        obtain ⟨⟨z0, z1, z2, z3⟩, g0, g1, g2, g3⟩ := D9.out.cellsB
        have hq1 : RB ≠ RU := D9.out.ne
        have hq2 : RU ≠ RB := Ne.symm hq1
        have FI := Lib.hid (fun W hW => DB.out.fin (W := W) hW)
        go_wp2
        obtain ⟨r0, r1, r2, r3, r4, r5⟩ := FI.out _ rfl
        refine bodyPost_ret (v := .agg #[.int .i64 3, .string s3, .string ⟨#[]⟩, .int .i64 u9]) ?_ rfl ⟨3, s3, ⟨#[]⟩, u9, rfl, by omega, by omega, hsz3, Nat.zero_le _, hu0, hu1, k + 6, by omega, by omega, r4, r5⟩
        simp [results, Tryd.results23, go_sem, r0, r1, r2, r3]
      · have D9 := Lib.hid (D8.out.set0 5)
        obtain ⟨⟨y0, y1, y2, y3⟩, f0, f1, f2, f3⟩ := D8.out.cells
        obtain ⟨⟨z0, z1, z2, z3⟩, g0, g1, g2, g3⟩ := D8.out.cellsB
        have hq1 : RB ≠ RU := D8.out.ne
        have hq2 : RU ≠ RB := Ne.symm hq1
        have FI := Lib.hid (fun W hW => D9.out.fin (W := W) hW)
        go_wp2
        obtain ⟨r0, r1, r2, r3, r4, r5⟩ := FI.out _ rfl
        refine bodyPost_ret (v := .agg #[.int .i64 5, .string s3, .string ⟨#[]⟩, .int .i64 (v5)]) ?_ rfl ⟨5, s3, ⟨#[]⟩, (v5), rfl, by omega, by omega, hsz3, Nat.zero_le _, by omega, by omega, k + 5, by omega, by omega, r4, r5⟩
        simp [results, Tryd.results23, go_sem, r0, r1, r2, r3]
  · go_wp2_with fail
    refine (pick_any B R a len cap (k + 2) 3 _ (HD.out 4).rd (by omega) (by omega) (by omega)).mono ?_
    rintro e w5 ⟨v5, rfl, p0, p1, hR5, hK5⟩
    have p2 := p1 (by omega)
    have D5 := Lib.hid ((HD.out 4).keeps hR5 hK5)
    clear hR5 hK5 p1
    have hwr : IntKind.i64.wrap (1 + v5) = 1 + v5 := IntWalk.i64_in _ (by omega)
    have D6 := Lib.hid (D5.out.set3 (1 + v5))
    obtain ⟨⟨y0, y1, y2, y3⟩, f0, f1, f2, f3⟩ := D5.out.cells
    go_wp2_with fail
    clear y0 y1 y2 y3 f0 f1 f2 f3 D5
    refine (odd_any B R a len cap (k + 3) n _ D6.out.rd (by omega) hn (by omega)).mono ?_
    rintro e w7 ⟨b, rfl, hR7, hK7⟩
    have D7 := Lib.hid (D6.out.keeps hR7 hK7)
    clear hR7 hK7 D6
    cases b with
    | false =>
      obtain ⟨⟨y0, y1, y2, y3⟩, f0, f1, f2, f3⟩ := D7.out.cells
      obtain ⟨⟨z0, z1, z2, z3⟩, g0, g1, g2, g3⟩ := D7.out.cellsB
      have hq1 : RB ≠ RU := D7.out.ne
      have hq2 : RU ≠ RB := Ne.symm hq1
      have FI := Lib.hid (fun W hW => D7.out.fin (W := W) hW)
      go_wp2
      obtain ⟨r0, r1, r2, r3, r4, r5⟩ := FI.out _ rfl
      refine bodyPost_ret (v := .agg #[.int .i64 4, .string s3, .string ⟨#[]⟩, .int .i64 (1 + v5)]) ?_ rfl ⟨4, s3, ⟨#[]⟩, (1 + v5), rfl, by omega, by omega, hsz3, Nat.zero_le _, by omega, by omega, k + 4, by omega, by omega, r4, r5⟩
      simp [results, Tryd.results23, go_sem, r0, r1, r2, r3]
    | true =>
      go_wp2_with fail
      refine (pick_any B R a len cap (k + 4) 3 _ D7.out.rd (by omega) (by omega) (by omega)).mono ?_
      rintro e w8 ⟨v8, rfl, q0, q1, hR8, hK8⟩
      have q2 := q1 (by omega)
      have D8 := Lib.hid (D7.out.keeps hR8 hK8)
      clear hR8 hK8 D7 q1
      obtain rfl | rfl | rfl : v8 = 0 ∨ v8 = 1 ∨ v8 = 2 := by omega
      · have D9 := Lib.hid (D8.out.set1 ⟨#[120]⟩)
        obtain ⟨⟨y0, y1, y2, y3⟩, f0, f1, f2, f3⟩ := D8.out.cells
        obtain ⟨⟨z0, z1, z2, z3⟩, g0, g1, g2, g3⟩ := D8.out.cellsB
        have hq1 : RB ≠ RU := D8.out.ne
        have hq2 : RU ≠ RB := Ne.symm hq1
        have FI := Lib.hid (fun W hW => D9.out.fin (W := W) hW)
        go_wp2
        obtain ⟨r0, r1, r2, r3, r4, r5⟩ := FI.out _ rfl
        refine bodyPost_ret (v := .agg #[.int .i64 4, .string ⟨#[120]⟩, .string ⟨#[]⟩, .int .i64 (1 + v5)]) ?_ rfl ⟨4, ⟨#[120]⟩, ⟨#[]⟩, (1 + v5), rfl, by omega, by omega, rfl, Nat.zero_le _, by omega, by omega, k + 5, by omega, by omega, r4, r5⟩
        simp [results, Tryd.results23, go_sem, r0, r1, r2, r3]
      · go_wp2_with fail
        have DA := Lib.hid (D8.out.alloc (.cells #[.int .i64 (-1), .int .i64 6, .int .i64 1] 3))
        refine (pick_any B R a len cap (k + 5) 3 _ DA.out.rd (by omega) (by omega) (by omega)).mono ?_
        rintro e w9 ⟨v9, rfl, p0, p1, hR9, hK9⟩
        obtain ⟨j9, u9, rfl, hj9, hu0, hu1, hc9⟩ := three_ints _ _ _ R (Nat.lt_of_lt_of_le D8.out.hR0 D8.out.kp.size) hK9 v9 p0 (p1 (by omega))
        have D9 := Lib.hid (DA.out.keeps hR9 hK9)
        have DB := Lib.hid (D9.out.set3 u9)
        clear hR9 hK9 D8 DA p1
        obtain ⟨⟨y0, y1, y2, y3⟩, f0, f1, f2, f3⟩ := D9.out.cells
        obtain ⟨⟨z0, z1, z2, z3⟩, g0, g1, g2, g3⟩ := D9.out.cellsB
        have hq1 : RB ≠ RU := D9.out.ne
        have hq2 : RU ≠ RB := Ne.symm hq1
        have FI := Lib.hid (fun W hW => DB.out.fin (W := W) hW)
        go_wp2
        obtain ⟨r0, r1, r2, r3, r4, r5⟩ := FI.out _ rfl
        refine bodyPost_ret (v := .agg #[.int .i64 4, .string s3, .string ⟨#[]⟩, .int .i64 u9]) ?_ rfl ⟨4, s3, ⟨#[]⟩, u9, rfl, by omega, by omega, hsz3, Nat.zero_le _, hu0, hu1, k + 6, by omega, by omega, r4, r5⟩
        simp [results, Tryd.results23, go_sem, r0, r1, r2, r3]
      · have D9 := Lib.hid (D8.out.set0 5)
        obtain ⟨⟨y0, y1, y2, y3⟩, f0, f1, f2, f3⟩ := D8.out.cells
        obtain ⟨⟨z0, z1, z2, z3⟩, g0, g1, g2, g3⟩ := D8.out.cellsB
        have hq1 : RB ≠ RU := D8.out.ne
        have hq2 : RU ≠ RB := Ne.symm hq1
        have FI := Lib.hid (fun W hW => D9.out.fin (W := W) hW)
        go_wp2
        obtain ⟨r0, r1, r2, r3, r4, r5⟩ := FI.out _ rfl
        refine bodyPost_ret (v := .agg #[.int .i64 5, .string s3, .string ⟨#[]⟩, .int .i64 (1 + v5)]) ?_ rfl ⟨5, s3, ⟨#[]⟩, (1 + v5), rfl, by omega, by omega, hsz3, Nat.zero_le _, by omega, by omega, k + 5, by omega, by omega, r4, r5⟩
        simp [results, Tryd.results23, go_sem, r0, r1, r2, r3]

/-- what drawing a rule returns -/
def RuleRes (w : World) (e : Ending) (w' : World) : Prop :=
  ∃ (kind : Int) (letter thn : ByteArray) (many : Int), e = .returned (.agg #[.int .i64 kind, .string letter, .string thn, .int .i64 many]) ∧ 0 ≤ kind ∧ kind ≤ 5 ∧ letter.size = 1 ∧ thn.size ≤ 1 ∧ -1 ≤ many ∧ many ≤ 6 ∧ Below w.heap.size w w'
def RuleWordRes (w : World) (e : Ending) (w' : World) : Prop :=
  ∃ (kind : Int) (letter thn : ByteArray) (many : Int) (s : ByteArray), e = .returned (.tuple #[.agg #[.int .i64 kind, .string letter, .string thn, .int .i64 many], .string s]) ∧ 0 ≤ kind ∧ kind ≤ 5 ∧ letter.size = 1 ∧ thn.size ≤ 1 ∧ -1 ≤ many ∧ many ≤ 6 ∧ s.size ≤ 23 ∧ Below w.heap.size w w'
end Go.Proofs.YtlfjecaffmfgcabDoor
