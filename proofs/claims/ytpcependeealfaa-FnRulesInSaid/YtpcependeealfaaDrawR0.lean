/- Drawing a rule that is one. No condition. -/
import Derived.Test.YtpcependeealfaaDrawR
namespace Go.Proofs.Ytpcependeealfaa
open Go.RowKit

theorem odd0_any (R : Nat) (w : World) :
    Calls Try.prog 105 #[.pointer (some ⟨R, 0, none⟩), .int .i64 0] w fun e w' => e = .returned (.bool false) ∧ w = w' := by
  go_enter Try.func105, Try.ntmps105
  go_wp2_with fail
  go_ret
  exact ⟨rfl, rfl⟩

set_option maxHeartbeats 4000000 in
set_option maxRecDepth 100000 in
theorem l20Rule0_any (B R : Nat) (a : Option Addr) (len cap k : Nat) (w : World) (H : RdAt B R a len cap k w) (hk : k ≤ 900000) :
    Calls Try.prog 114 #[.pointer (some ⟨R, 0, none⟩), .int .i64 0] w (RulePost B R a len cap k w) := by
  have R1 := Lib.hid (H.keeps ((Below.refl _ w).alloc (Nat.le_refl _) (.cells #[.int .i64 0, .string ⟨#[]⟩, .string ⟨#[]⟩, .int .i64 0] 40)))
  have K1 := Lib.hid ((KeepsBut.refl R w).alloc (.cells #[.int .i64 0, .string ⟨#[]⟩, .string ⟨#[]⟩, .int .i64 0] 40))
  have F1 := Lib.hid (RuF.new w 0 ⟨#[]⟩ ⟨#[]⟩ 0 40)
  have HR := Lib.hid H.hR
  have HNE : Hid (w.heap.size ≠ R) := Lib.hid (Nat.ne_of_gt H.hR)
  clear H
  go_enter Try.func114, Try.ntmps114
  go_wp2_with fail
  refine (pick_any B R a len cap k 5 _ R1.out (by omega) (by omega) (by omega)).mono ?_
  rintro e w2 ⟨v, rfl, hv0, hv1, hR2, hK2⟩
  have hv5 := hv1 (by omega)
  have F2 := Lib.hid (F1.out.keeps hK2 HNE.out)
  have K2 := Lib.hid (K1.out.trans hK2)
  have R2 := Lib.hid hR2
  clear hv1 hR2 hK2 F1 K1 R1
  go_wp2_with fail
  refine (pick_any B R a len cap (k + 1) 3 _ (R2.out.keeps ((Below.refl _ _).alloc (Nat.le_refl _) _)) (by omega) (by omega) (by omega)).mono ?_
  rintro e w3 ⟨v3, rfl, hv30, hv31, hR3, hK3⟩
  obtain ⟨j, s3, rfl, hj, hs3, hcell⟩ := three_cells _ _ _ _ _ _ R R2.out.hR hK3 v3 hv30 (hv31 (by omega))
  have hsz3 : s3.size = 1 := by rcases hs3 with rfl | rfl | rfl <;> simp [ByteArray.size]
  have F3 := Lib.hid ((F2.out.keeps ((KeepsBut.refl R w2).alloc (.cells #[.string ⟨#[114]⟩, .string ⟨#[100]⟩, .string ⟨#[110]⟩] 9)) HNE.out).keeps hK3 HNE.out)
  have K3 := Lib.hid ((K2.out.alloc (.cells #[.string ⟨#[114]⟩, .string ⟨#[100]⟩, .string ⟨#[110]⟩] 9)).trans hK3)
  have R3 := Lib.hid hR3
  clear hv31 hR3 hK3 F2 K2 R2 hs3 hv30
  have hD : ∀ x : Int, Dr B R a len cap w w.heap.size w3.heap.size (k + 2) x s3 ⟨#[]⟩ 0 (w3.alloc (.cells #[.int .i64 x, .string s3, .string ⟨#[]⟩, .int .i64 0] 40)) := fun x =>
    ⟨R3.out.keeps ((Below.refl _ _).alloc (Nat.le_refl _) _), K3.out.alloc _, RuF.new w3 x s3 ⟨#[]⟩ 0 40, F3.out.keeps (R := R) ((KeepsBut.refl R w3).alloc _) HNE.out, Nat.le_refl _, K3.out.size, HR.out, Nat.ne_of_lt F3.out.hB⟩
  have HD := Lib.hid hD
  clear hD F3 K3 R3 HNE HR
  generalize hRB : w.heap.size = RB at *
  generalize hRU : w3.heap.size = RU at *
  obtain rfl | rfl | rfl | rfl | rfl : v = 0 ∨ v = 1 ∨ v = 2 ∨ v = 3 ∨ v = 4 := by omega
  · go_wp2_with fail
    refine (pick_any B R a len cap (k + 2) 4 _ (HD.out 0).rd (by omega) (by omega) (by omega)).mono ?_
    rintro e w5 ⟨v5, rfl, p0, p1, hR5, hK5⟩
    have p2 := p1 (by omega)
    have D5 := Lib.hid ((HD.out 0).keeps hR5 hK5)
    clear hR5 hK5 p1
    have hwr : IntKind.i64.wrap (v5) = v5 := IntWalk.i64_in _ (by omega)
    have D6 := Lib.hid (D5.out.set3 (v5))
    obtain ⟨⟨y0, y1, y2, y3⟩, f0, f1, f2, f3⟩ := D5.out.cells
    go_wp2_with fail
    clear y0 y1 y2 y3 f0 f1 f2 f3 D5
    refine (odd0_any R _).mono ?_
    rintro e w7 ⟨rfl, rfl⟩
    have D7 := D6
    clear D6
    obtain ⟨⟨y0, y1, y2, y3⟩, f0, f1, f2, f3⟩ := D7.out.cells
    obtain ⟨⟨z0, z1, z2, z3⟩, g0, g1, g2, g3⟩ := D7.out.cellsB
    have hq1 : RB ≠ RU := D7.out.ne
    have hq2 : RU ≠ RB := Ne.symm hq1
    have FI := Lib.hid (fun W hW => D7.out.fin (W := W) hW)
    go_wp2
    obtain ⟨r0, r1, r2, r3, r4, r5⟩ := FI.out _ rfl
    refine bodyPost_ret (v := .agg #[.int .i64 0, .string s3, .string ⟨#[]⟩, .int .i64 (v5)]) ?_ rfl ⟨0, s3, ⟨#[]⟩, (v5), rfl, by omega, by omega, hsz3, Nat.zero_le _, by omega, by omega, k + 3, by omega, by omega, r4, r5⟩
    simp [results, Try.results114, go_sem, r0, r1, r2, r3]
  · go_wp2_with fail
    refine (pick_any B R a len cap (k + 2) 2 _ (HD.out 1).rd (by omega) (by omega) (by omega)).mono ?_
    rintro e w5 ⟨v5, rfl, p0, p1, hR5, hK5⟩
    have p2 := p1 (by omega)
    have D5 := Lib.hid ((HD.out 1).keeps hR5 hK5)
    clear hR5 hK5 p1
    have hwr : IntKind.i64.wrap (2 + v5) = 2 + v5 := IntWalk.i64_in _ (by omega)
    have D6 := Lib.hid (D5.out.set3 (2 + v5))
    obtain ⟨⟨y0, y1, y2, y3⟩, f0, f1, f2, f3⟩ := D5.out.cells
    go_wp2_with fail
    clear y0 y1 y2 y3 f0 f1 f2 f3 D5
    refine (odd0_any R _).mono ?_
    rintro e w7 ⟨rfl, rfl⟩
    have D7 := D6
    clear D6
    obtain ⟨⟨y0, y1, y2, y3⟩, f0, f1, f2, f3⟩ := D7.out.cells
    obtain ⟨⟨z0, z1, z2, z3⟩, g0, g1, g2, g3⟩ := D7.out.cellsB
    have hq1 : RB ≠ RU := D7.out.ne
    have hq2 : RU ≠ RB := Ne.symm hq1
    have FI := Lib.hid (fun W hW => D7.out.fin (W := W) hW)
    go_wp2
    obtain ⟨r0, r1, r2, r3, r4, r5⟩ := FI.out _ rfl
    refine bodyPost_ret (v := .agg #[.int .i64 1, .string s3, .string ⟨#[]⟩, .int .i64 (2 + v5)]) ?_ rfl ⟨1, s3, ⟨#[]⟩, (2 + v5), rfl, by omega, by omega, hsz3, Nat.zero_le _, by omega, by omega, k + 3, by omega, by omega, r4, r5⟩
    simp [results, Try.results114, go_sem, r0, r1, r2, r3]
  · go_wp2_with fail
    have DA := Lib.hid ((HD.out 2).alloc (.cells #[.string ⟨#[114]⟩, .string ⟨#[100]⟩, .string ⟨#[110]⟩] 9))
    refine (pick_any B R a len cap (k + 2) 3 _ DA.out.rd (by omega) (by omega) (by omega)).mono ?_
    rintro e w5 ⟨v5, rfl, p0, p1, hR5, hK5⟩
    obtain ⟨j5, s5, rfl, hj5, hs5, hc5⟩ := three_cells _ _ _ _ _ _ R (HD.out 2).rd.hR hK5 v5 p0 (p1 (by omega))
    rw [World.size_alloc, hRU] at hc5
    have hsz5 : s5.size ≤ 1 := by rcases hs5 with rfl | rfl | rfl <;> simp [ByteArray.size]
    have D5 := Lib.hid (DA.out.keeps hR5 hK5)
    clear hR5 hK5 p1 DA hs5
    have D6 := Lib.hid (D5.out.set2 s5)
    obtain ⟨⟨y0, y1, y2, y3⟩, f0, f1, f2, f3⟩ := D5.out.cells
    go_wp2_with fail
    clear y0 y1 y2 y3 f0 f1 f2 f3 D5
    refine (odd0_any R _).mono ?_
    rintro e w7 ⟨rfl, rfl⟩
    have D7 := D6
    clear D6
    obtain ⟨⟨y0, y1, y2, y3⟩, f0, f1, f2, f3⟩ := D7.out.cells
    obtain ⟨⟨z0, z1, z2, z3⟩, g0, g1, g2, g3⟩ := D7.out.cellsB
    have hq1 : RB ≠ RU := D7.out.ne
    have hq2 : RU ≠ RB := Ne.symm hq1
    have FI := Lib.hid (fun W hW => D7.out.fin (W := W) hW)
    go_wp2
    obtain ⟨r0, r1, r2, r3, r4, r5⟩ := FI.out _ rfl
    refine bodyPost_ret (v := .agg #[.int .i64 2, .string s3, .string s5, .int .i64 0]) ?_ rfl ⟨2, s3, s5, 0, rfl, by omega, by omega, hsz3, hsz5, by omega, by omega, k + 3, by omega, by omega, r4, r5⟩
    simp [results, Try.results114, go_sem, r0, r1, r2, r3]
  · go_wp2_with fail
    refine (pick_any B R a len cap (k + 2) 5 _ (HD.out 3).rd (by omega) (by omega) (by omega)).mono ?_
    rintro e w5 ⟨v5, rfl, p0, p1, hR5, hK5⟩
    have p2 := p1 (by omega)
    have D5 := Lib.hid ((HD.out 3).keeps hR5 hK5)
    clear hR5 hK5 p1
    have hwr : IntKind.i64.wrap (v5) = v5 := IntWalk.i64_in _ (by omega)
    have D6 := Lib.hid (D5.out.set3 (v5))
    obtain ⟨⟨y0, y1, y2, y3⟩, f0, f1, f2, f3⟩ := D5.out.cells
    go_wp2_with fail
    clear y0 y1 y2 y3 f0 f1 f2 f3 D5
    refine (odd0_any R _).mono ?_
    rintro e w7 ⟨rfl, rfl⟩
    have D7 := D6
    clear D6
    obtain ⟨⟨y0, y1, y2, y3⟩, f0, f1, f2, f3⟩ := D7.out.cells
    obtain ⟨⟨z0, z1, z2, z3⟩, g0, g1, g2, g3⟩ := D7.out.cellsB
    have hq1 : RB ≠ RU := D7.out.ne
    have hq2 : RU ≠ RB := Ne.symm hq1
    have FI := Lib.hid (fun W hW => D7.out.fin (W := W) hW)
    go_wp2
    obtain ⟨r0, r1, r2, r3, r4, r5⟩ := FI.out _ rfl
    refine bodyPost_ret (v := .agg #[.int .i64 3, .string s3, .string ⟨#[]⟩, .int .i64 (v5)]) ?_ rfl ⟨3, s3, ⟨#[]⟩, (v5), rfl, by omega, by omega, hsz3, Nat.zero_le _, by omega, by omega, k + 3, by omega, by omega, r4, r5⟩
    simp [results, Try.results114, go_sem, r0, r1, r2, r3]
  · go_wp2_with fail
    refine (pick_any B R a len cap (k + 2) 3 _ (HD.out 4).rd (by omega) (by omega) (by omega)).mono ?_
    rintro e w5 ⟨v5, rfl, p0, p1, hR5, hK5⟩
    have p2 := p1 (by omega)
    have D5 := Lib.hid ((HD.out 4).keeps hR5 hK5)
    clear hR5 hK5 p1
    have hwr : IntKind.i64.wrap (1 + v5) = 1 + v5 := IntWalk.i64_in _ (by omega)
    have D6 := Lib.hid (D5.out.set3 (1 + v5))
    obtain ⟨⟨y0, y1, y2, y3⟩, f0, f1, f2, f3⟩ := D5.out.cells
    go_wp2_with fail
    clear y0 y1 y2 y3 f0 f1 f2 f3 D5
    refine (odd0_any R _).mono ?_
    rintro e w7 ⟨rfl, rfl⟩
    have D7 := D6
    clear D6
    obtain ⟨⟨y0, y1, y2, y3⟩, f0, f1, f2, f3⟩ := D7.out.cells
    obtain ⟨⟨z0, z1, z2, z3⟩, g0, g1, g2, g3⟩ := D7.out.cellsB
    have hq1 : RB ≠ RU := D7.out.ne
    have hq2 : RU ≠ RB := Ne.symm hq1
    have FI := Lib.hid (fun W hW => D7.out.fin (W := W) hW)
    go_wp2
    obtain ⟨r0, r1, r2, r3, r4, r5⟩ := FI.out _ rfl
    refine bodyPost_ret (v := .agg #[.int .i64 4, .string s3, .string ⟨#[]⟩, .int .i64 (1 + v5)]) ?_ rfl ⟨4, s3, ⟨#[]⟩, (1 + v5), rfl, by omega, by omega, hsz3, Nat.zero_le _, by omega, by omega, k + 3, by omega, by omega, r4, r5⟩
    simp [results, Try.results114, go_sem, r0, r1, r2, r3]
end Go.Proofs.Ytpcependeealfaa
