/- The drawing function of the law on texts of rules. No condition. -/
import Derived.Test.YtlfjecaffmfgcabDoorDrawnR
namespace Go.Proofs.YtlfjecaffmfgcabDoor
open Go.RowKit

set_option maxHeartbeats 800000 in
theorem drawRuleText_any (a : Option Addr) (len cap : Nat) (zs : List Int) (w : World) (h : IsRow .u8 w a len cap zs) :
    Calls Tryd.prog 7 #[.slice a len cap] w (RuleRes w) := by
  have H0 := h.below2 ((Below.refl w.heap.size w).alloc (Nat.le_refl _) (.cells #[.int .i64 0, .string ⟨#[]⟩, .string ⟨#[]⟩, .int .i64 0] 24))
  have HO := Lib.hid (l20Open_any a len cap zs _ H0)
  have F0 := Lib.hid (RuF.new w 0 ⟨#[]⟩ ⟨#[]⟩ 0 24)
  clear H0 h
  go_enter Tryd.func7, Tryd.ntmps7
  go_wp2_with fail
  refine HO.out.mono ?_
  clear HO
  rintro e w1 ⟨a1, len1, cap1, rfl, hR, hb1⟩
  have F1 := Lib.hid (F0.out.keeps (R := w.heap.size + 1) (KeepsBut.of_below hb1) (by omega))
  have q1 := Lib.hid (((Below.refl w.heap.size w).alloc (Nat.le_refl _) (.cells #[.int .i64 0, .string ⟨#[]⟩, .string ⟨#[]⟩, .int .i64 0] 24)).trans (hb1.mono (by simp)))
  simp only [World.size_alloc] at hR hb1
  go_wp2_with fail
  refine (l20Rule_any _ _ a1 len1 cap1 0 _ w1 hR (by omega) (by omega) (by omega)).mono ?_
  rintro e w2 ⟨kind, letter, thn, many, rfl, p1, p2, p3, p4, p5, p6, k2, hk1, hk2, hR2, hK2⟩
  have F2 := Lib.hid (F1.out.keeps hK2 (by omega))
  have q2 : Below w.heap.size w w2 := q1.out.trans (hK2.below (by omega) q1.out.size)
  have FI := Lib.hid (fun W hW => laid4 (kind := kind) (letter := letter) (thn := thn) (many := many) F2.out q2 (Nat.le_refl _) (W := W) hW)
  have y0 := F2.out.c0
  have y1 := F2.out.c1
  have y2 := F2.out.c2
  have y3 := F2.out.c3
  have f0 := F2.out.f 0
  have f1 := F2.out.f 1
  have f2 := F2.out.f 2
  have f3 := F2.out.f 3
  clear q2 hR hb1 hR2 hK2
  go_wp2
  obtain ⟨r0, r1, r2, r3, r4⟩ := FI.out _ rfl
  refine bodyPost_ret (v := .agg #[.int .i64 kind, .string letter, .string thn, .int .i64 many]) ?_ rfl ⟨kind, letter, thn, many, rfl, p1, p2, p3, p4, p5, p6, r4⟩
  simp [results, Tryd.results7, go_sem, r0, r1, r2, r3]

end Go.Proofs.YtlfjecaffmfgcabDoor
