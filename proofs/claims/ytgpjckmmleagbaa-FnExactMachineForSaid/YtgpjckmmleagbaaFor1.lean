/- MachineFor on the program's side, for one kind of rules. No condition. -/
import Derived.Test.YtgpjckmmleagbaaForBase
namespace Go.Proofs.Ytgpjckmmleagbaa
open Go.RowKit

set_option maxHeartbeats 2000000 in
theorem implMachineFor_1 (letter : ByteArray) (many : Int) (w : World) (hl : letterOk letter = true) (hk0 : 2 ≤ many) (hk4 : many ≤ 4) :
    Calls Try.prog 43 #[.agg #[.int .i64 1, .string letter, .string ⟨#[]⟩, .int .i64 many]] w (MachNewB (mfT (Ru.mk 1 letter ⟨#[]⟩ many)) true w) := by
  have hlm : letter.size ≤ maxLen := by rw [letterOk_size hl]; decide
  have hok : (Ru.mk 1 letter ⟨#[]⟩ many).ok = true := Ru.ok_iff.2 ⟨hl, .inr (.inl ⟨rfl, rfl, hk0, hk4⟩)⟩
  have B0 := Lib.hid ((RuBox.new (w := w) 1 letter ⟨#[]⟩ many 45).below ((Below.refl _ _).alloc (Nat.le_refl _) (.cells #[.int .i64 0, .slice none 0 0, .slice none 0 0] 28)))
  have c0 := fun i => World.cell?_alloc_new (w.alloc (.cells #[.int .i64 1, .string letter, .string ⟨#[]⟩, .int .i64 many] 45)) #[.int .i64 0, .slice none 0 0, .slice none 0 0] 28 i
  have f0 := fun i => World.frozen?_alloc_new (w.alloc (.cells #[.int .i64 1, .string letter, .string ⟨#[]⟩, .int .i64 many] 45)) #[.int .i64 0, .slice none 0 0, .slice none 0 0] 28 i
  simp only [World.size_alloc] at c0 f0
  have q0 : Below w.heap.size w ((w.alloc (.cells #[.int .i64 1, .string letter, .string ⟨#[]⟩, .int .i64 many] 45)).alloc (.cells #[.int .i64 0, .slice none 0 0, .slice none 0 0] 28)) := ((Below.refl w.heap.size w).alloc (Nat.le_refl _) _).alloc (by simp) _
  have C0 := Lib.hid c0
  have F0 := Lib.hid f0
  have Q0 := Lib.hid q0
  clear c0 f0 q0
  go_enter Try.func43, Try.ntmps43
  go_wp2_with fail
  refine (implRuleOk_any 1 letter ⟨#[]⟩ many _ hlm (by decide)).mono ?_
  rintro e w1 ⟨rfl, hb1⟩
  rw [hok]
  have hs0 : ((w.alloc (.cells #[.int .i64 1, .string letter, .string ⟨#[]⟩, .int .i64 many] 45)).alloc (.cells #[.int .i64 0, .slice none 0 0, .slice none 0 0] 28)).heap.size = w.heap.size + 1 + 1 := by simp
  rw [hs0] at hb1
  have HS0 := Lib.hid hs0
  have y0 := (B0.out.below (by rw [hs0]; exact hb1)).c0
  have y1 := (B0.out.below (by rw [hs0]; exact hb1)).c1
  have y2 := (B0.out.below (by rw [hs0]; exact hb1)).c2
  have y3 := (B0.out.below (by rw [hs0]; exact hb1)).c3
  have hB1 := Lib.hid hb1
  clear hs0 hb1
  go_wp2_with fail
  generalize hTT : mfT (Ru.mk 1 letter ⟨#[]⟩ many) = T
  have HTT := Lib.hid hTT
  clear hTT
  go_region_with (first
    | (go_at_call 92; refine (makersOf_any _).mono ?_; rintro e w2 ⟨g, rfl, hb2, m0, m1, m2, m3, m4⟩; have HB2 := Lib.hid (hB1.out.drew.trans (hb2.mono (by have := hB1.out.size; rw [HS0.out] at this; exact this))); have z0 := (B0.out.below (by rw [HS0.out]; exact HB2.out)).c0; have z1 := (B0.out.below (by rw [HS0.out]; exact HB2.out)).c1; have z2 := (B0.out.below (by rw [HS0.out]; exact HB2.out)).c2; have z3 := (B0.out.below (by rw [HS0.out]; exact HB2.out)).c3)
    | (go_at_call 115; refine (runMaker_any letter many _ hl hk0 hk4).mono ?_; rw [HTT.out]; rintro e w3 ⟨a1, a2, c1, c2, rfl, hA, hb3⟩; have hn2 : w.heap.size + 1 + 1 ≤ w2.heap.size := (by have := HB2.out.size; rw [HS0.out] at this; exact this); obtain ⟨⟨h0, h1, h2⟩, k0, k1, k2⟩ := zeros_kept C0.out F0.out HB2.out (Nat.lt_succ_self _) hb3 hn2))
  all_goals
    have q3 : Below w.heap.size w w3 := (Q0.out.trans (HB2.out.mono (by omega))).trans (hb3.mono (by omega))
    have FI := Lib.hid (fin_cells (x := .int .i64 T.st) (y := .slice a1 T.next.length c1) (z := .slice a2 T.ends.length c2) (B := w.heap.size) (b := w.heap.size + 1) hA q3 (Nat.le_succ _) (by omega) (some3 h0 h1 h2) (by omega))
    clear q3 hA hb3 hb2
    go_wp2
    obtain ⟨r1, r2, r3, r4, r5⟩ := FI.out _ rfl
    refine bodyPost_ret (v := .tuple #[.agg #[.int .i64 T.st, .slice a1 T.next.length c1, .slice a2 T.ends.length c2], .bool true]) ?_ rfl (by rw [HTT.out]; exact ⟨a1, a2, c1, c2, rfl, r1, r2⟩)
    simp [results, Try.results43, go_sem, r3, r4, r5]

end Go.Proofs.Ytgpjckmmleagbaa
