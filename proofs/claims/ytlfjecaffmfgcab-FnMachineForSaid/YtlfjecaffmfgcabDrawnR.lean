/- The drawing functions of rules. No condition. -/
import Derived.Test.YtlfjecaffmfgcabDrawR2
import Derived.Test.YtlfjecaffmfgcabDrawn1
namespace Go.Proofs.Ytlfjecaffmfgcab
open Go.RowKit

theorem IsRow.below2 {k : IntKind} {w w' : World} {a : Option Addr} {len cap : Nat} {zs : List Int} (h : IsRow k w a len cap zs) (hb : Below w.heap.size w w') : IsRow k w' a len cap zs := by
  rcases h with h | ⟨x, h1, h2, h3, h4, h5, h6⟩
  · exact .inl h
  · exact .inr ⟨x, h1, h2, h3, h4, fun i hi => (hb.cell (World.block_lt_of_cell? w _ (h5 i hi))).trans (h5 i hi), h6⟩

/-- the rule laid into a place of the call's own -/
theorem laid4 {B b : Nat} {w0 w : World} {kind : Int} {letter thn : ByteArray} {many : Int} (h : RuF b 0 ⟨#[]⟩ ⟨#[]⟩ 0 w) (hb : Below B w0 w) (hB : B ≤ b) {W : World} (hW : W = (((w.setCell ⟨b, 0, none⟩ (.int .i64 kind)).setCell ⟨b, 1, none⟩ (.string letter)).setCell ⟨b, 2, none⟩ (.string thn)).setCell ⟨b, 3, none⟩ (.int .i64 many)) :
    W.cell? ⟨b, 0, none⟩ = some (.int .i64 kind) ∧ W.cell? ⟨b, 1, none⟩ = some (.string letter) ∧ W.cell? ⟨b, 2, none⟩ = some (.string thn) ∧ W.cell? ⟨b, 3, none⟩ = some (.int .i64 many) ∧ Below B w0 W := by
  subst hW
  have b0 := h.c0
  have b1 := h.c1
  have b2 := h.c2
  have b3 := h.c3
  exact ⟨by go_simp, by go_simp, by go_simp, by go_simp, (((hb.setCell (p := ⟨b, 0, none⟩) hB _).setCell (p := ⟨b, 1, none⟩) hB _).setCell (p := ⟨b, 2, none⟩) hB _).setCell (p := ⟨b, 3, none⟩) hB _⟩

set_option maxHeartbeats 800000 in
theorem drawMachineFor_any (a : Option Addr) (len cap : Nat) (zs : List Int) (w : World) (h : IsRow .u8 w a len cap zs) :
    Calls Try.prog 18 #[.slice a len cap] w (RuleRes w) := by
  have H0 := h.below2 ((Below.refl w.heap.size w).alloc (Nat.le_refl _) (.cells #[.int .i64 0, .string ⟨#[]⟩, .string ⟨#[]⟩, .int .i64 0] 27))
  have HO := Lib.hid (l20Open_any a len cap zs _ H0)
  have F0 := Lib.hid (RuF.new w 0 ⟨#[]⟩ ⟨#[]⟩ 0 27)
  clear H0 h
  go_enter Try.func18, Try.ntmps18
  go_wp2_with fail
  refine HO.out.mono ?_
  clear HO
  rintro e w1 ⟨a1, len1, cap1, rfl, hR, hb1⟩
  have F1 := Lib.hid (F0.out.keeps (R := w.heap.size + 1) (KeepsBut.of_below hb1) (by omega))
  have q1 := Lib.hid (((Below.refl w.heap.size w).alloc (Nat.le_refl _) (.cells #[.int .i64 0, .string ⟨#[]⟩, .string ⟨#[]⟩, .int .i64 0] 27)).trans (hb1.mono (by simp)))
  simp only [World.size_alloc] at hR hb1
  go_wp2_with fail
  refine (l20Rule_any _ _ a1 len1 cap1 0 _ w1 hR (by omega) (by omega) (by omega)).mono ?_
  rintro e w2 ⟨kind, letter, thn, many, rfl, p1, p2, p3, p4, p5, p6, k2, hk1, hk2, hR2, hK2⟩
  have F2 := Lib.hid (F1.out.keeps hK2 (by omega))
  have q2 : Below w.heap.size w w2 := q1.out.trans (hK2.below (by omega) q1.out.size)
  have FI := Lib.hid (fun W hW => laid4 (kind := kind) (letter := letter) (thn := thn) (many := many) F2.out q2 (Nat.le_refl _) (W := W) hW)
  have y0 := F2.out.c0
  have y1 := F2.out.c1
  have y2 := F2.out.c2
  have y3 := F2.out.c3
  have f0 := F2.out.f 0
  have f1 := F2.out.f 1
  have f2 := F2.out.f 2
  have f3 := F2.out.f 3
  clear q2 hR hb1 hR2 hK2
  go_wp2
  obtain ⟨r0, r1, r2, r3, r4⟩ := FI.out _ rfl
  refine bodyPost_ret (v := .agg #[.int .i64 kind, .string letter, .string thn, .int .i64 many]) ?_ rfl ⟨kind, letter, thn, many, rfl, p1, p2, p3, p4, p5, p6, r4⟩
  simp [results, Try.results18, go_sem, r0, r1, r2, r3]
end Go.Proofs.Ytlfjecaffmfgcab
