/- The walk of FnExactKeepsRule: true at every rule and text. Condition: the library's variable MaxLen holds some number. -/
import Derived.Test.YtgpjckmmleagbaaKeepsAny
namespace Go.Proofs.Ytgpjckmmleagbaa
open Go.RowKit

theorem exactKeepsRule_walk {w : World} (kind : Int) (_hk : (Lit.int .i64 kind).wf = true) (letter : ByteArray) (h1 : letter.size ≤ maxLen) (thn : ByteArray) (h2 : thn.size ≤ maxLen) (many : Int) (_hm : (Lit.int .i64 many).wf = true) (s : ByteArray) (hs : s.size ≤ maxLen)
    (hglob : ∃ m, w.cell? ⟨0, 0, none⟩ = some (.int .i64 m)) :
    Calls Try.prog 12 #[.agg #[.int .i64 kind, .string letter, .string thn, .int .i64 many], .string s] w fun e w' => e = .returned (.bool true) ∧ Below w.heap.size w w' := by
  obtain ⟨m, hmx⟩ := hglob
  have hg0 : (⟨0, 0, none⟩ : Addr).block < w.heap.size := World.block_lt_of_cell? w _ hmx
  have hs' := hs
  unfold maxLen at hs
  have b0 := Lib.hid (Below.refl (w.heap.size + 1) (w.alloc (.cells #[.int .i64 kind, .string letter, .string thn, .int .i64 many] 42)))
  by_cases hbig : 1048576 < s.size
  · go_enter Try.func12, Try.ntmps12
    go_wp2_with fail
    go_ret
    exact ⟨rfl, (ru_cells kind letter thn many b0.out).2.2.2.2.1⟩
  · go_enter Try.func12, Try.ntmps12
    go_wp2_with fail
    refine (szRule_any kind letter thn many 1048576 _ h1 h2 (by omega) (by omega)).mono ?_
    rintro e w1 ⟨rfl, hb1⟩
    simp only [World.size_alloc] at hb1
    have B1 := Lib.hid (b0.out.trans hb1)
    clear hb1
    by_cases hz : szR letter.size thn.size 1048576 < 0
    · go_wp2_with fail
      go_ret
      exact ⟨rfl, (ru_cells kind letter thn many B1.out).2.2.2.2.1⟩
    · generalize szR letter.size thn.size 1048576 = left at *
      obtain ⟨y0, y1, y2, y3, q1, s1⟩ := ru_cells kind letter thn many B1.out
      go_wp2_with fail
      clear y0 y1 y2 y3
      refine (toRule_any kind letter thn many _).mono ?_
      rintro e w2 ⟨rfl, hb2⟩
      have B2 := Lib.hid (B1.out.trans (hb2.mono s1))
      clear hb2 q1 s1 B1
      go_wp2_with fail
      refine (specKeeps_any kind letter thn many s _ hs').mono ?_
      rintro e w3 ⟨rfl, hb3⟩
      obtain ⟨-, -, -, -, -, s2⟩ := ru_cells kind letter thn many B2.out
      have B3 := Lib.hid (B2.out.trans (hb3.mono s2))
      clear hb3 s2 B2
      obtain ⟨y0, y1, y2, y3, q3, s3⟩ := ru_cells kind letter thn many B3.out
      go_wp2_with fail
      clear y0 y1 y2 y3
      refine (toRule_any kind letter thn many _).mono ?_
      rintro e w4 ⟨rfl, hb4⟩
      have B4 := Lib.hid (B3.out.trans (hb4.mono s3))
      clear hb4 q3 s3 B3
      obtain ⟨-, -, -, -, q4, s4⟩ := ru_cells kind letter thn many B4.out
      have hm4 := (q4.cell hg0).trans hmx
      go_wp2_with fail
      refine (implKeeps_any kind letter thn many s m _ h1 h2 hs' hm4).mono ?_
      rintro e w5 ⟨rfl, hb5⟩
      have B5 := Lib.hid (B4.out.trans (hb5.mono s4))
      clear hb5 q4 s4 B4 hm4
      go_wp2_with fail
      go_ret
      exact ⟨rfl, (ru_cells kind letter thn many B5.out).2.2.2.2.1⟩
end Go.Proofs.Ytgpjckmmleagbaa
