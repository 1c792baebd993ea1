/- The walk of FnExactReadRule: true at every text. No condition. -/
import Derived.Test.YtlfjecaffmfgcaaSpRead
import Derived.Test.YtlfjecaffmfgcaaMarksLaw
namespace Go.Proofs.Ytlfjecaffmfgcaa
open Go.RowKit

theorem readV_form (s : ByteArray) : ∃ (k : Int) (l t : ByteArray) (m : Int) (b : Bool), readV s = .tuple #[.agg #[.int .i64 k, .string l, .string t, .int .i64 m], .bool b] := ⟨_, _, _, _, _, rfl⟩
theorem exactReadRule_walk {w : World} (s : ByteArray) (hs : s.size ≤ maxLen) :
    Calls Try.prog 4 #[.string s] w fun e w' => e = .returned (.bool true) ∧ Below w.heap.size w w' := by
  obtain ⟨k, l, t, m, b, hV⟩ := readV_form s
  have HS : Hid (∀ W, Calls Try.prog 17 #[.string s] W fun e w' => e = .returned (.tuple #[.agg #[.int .i64 k, .string l, .string t, .int .i64 m], .bool b]) ∧ Below W.heap.size W w') := Lib.hid (fun W => by rw [← hV]; exact specReadRule_any s W hs)
  have HI : Hid (∀ W, Calls Try.prog 18 #[.string s] W fun e w' => e = .returned (.tuple #[.agg #[.int .i64 k, .string l, .string t, .int .i64 m], .bool b]) ∧ Below W.heap.size W w') := Lib.hid (fun W => by rw [← hV]; exact implReadRule_any s W hs)
  clear hV
  have hne : (b != b) = false := by simp
  unfold maxLen at hs
  by_cases hbig : 1048576 < s.size
  · go_enter Try.func4, Try.ntmps4
    go_wp2_with fail
    go_ret
    exact ⟨rfl, Below.refl _ _⟩
  · go_enter Try.func4, Try.ntmps4
    go_wp2_with fail
    refine (HS.out _).mono ?_
    rintro e w1 ⟨rfl, hb1⟩
    have B1 := Lib.hid hb1
    clear hb1
    go_wp2_with fail
    refine (HI.out _).mono ?_
    rintro e w2 ⟨rfl, hb2⟩
    obtain ⟨x0, x1, x2, x3, hb3, hsz⟩ := ru_of hb2
    have B2 := Lib.hid (B1.out.trans (hb3.mono B1.out.size))
    clear hb2 hb3
    have hal : Below w2.heap.size w2 (w2.alloc (.cells #[.int .i64 k, .string l, .string t, .int .i64 m] 30)) := (Below.refl _ _).alloc (Nat.le_refl _) _
    have y0 := (hal.cell (p := ⟨w1.heap.size, 0, none⟩) (by show w1.heap.size < _; omega)).trans x0
    have y1 := (hal.cell (p := ⟨w1.heap.size, 1, none⟩) (by show w1.heap.size < _; omega)).trans x1
    have y2 := (hal.cell (p := ⟨w1.heap.size, 2, none⟩) (by show w1.heap.size < _; omega)).trans x2
    have y3 := (hal.cell (p := ⟨w1.heap.size, 3, none⟩) (by show w1.heap.size < _; omega)).trans x3
    clear x0 x1 x2 x3 hal hsz
    go_wp2_with (go_at_call 19; refine (eqRule_same k l t m _).mono ?_; rintro e w3 ⟨rfl, hb3⟩)
    go_ret
    exact ⟨rfl, (B2.out.alloc (B2.out.size) _).trans (hb3.mono (by simp; exact Nat.le_succ_of_le B2.out.size))⟩
end Go.Proofs.Ytlfjecaffmfgcaa
