/- The laws' own words on slices of marks: the size, the comparison. No condition. -/
import Derived.Test.YtlbblfbiiceofaaReadsM
import Derived.Test.YtlbblfbiiceofaaRules2
import Derived.Outline
namespace Go.Proofs.Ytlbblfbiiceofaa
open Go.RowKit

def szMk (m : Mk) (left : Int) : Int := if szR m.its.letter.size m.its.thn.size left < 0 then -1 else szR m.its.letter.size m.its.thn.size left
theorem szR_le (a b : Nat) {left : Int} (h : 0 ≤ left) : szR a b left ≤ left ∧ -1 ≤ szR a b left := by
  unfold szR; split
  · omega
  · split <;> omega
theorem szMark_any (m : Mk) (hm : m.wf) (left : Int) (w : World) (h0 : 0 ≤ left) (hl : left ≤ 1048576) :
    Calls Try.prog 74 #[m.val, .int .i64 left] w
      fun e w' => (∃ r : Int, e = .returned (.int .i64 r) ∧ -1 ≤ r ∧ r ≤ left) ∧ Below w.heap.size w w' := by
  obtain ⟨k, a, b, c, d⟩ := m
  obtain ⟨-, -, h1, h2, -⟩ := hm
  have HS := Lib.hid (szR_le b.size c.size h0)
  have h1' := Lib.hid h1
  have h2' := Lib.hid h2
  show Calls Try.prog _ #[.agg #[.int .i64 k, .int .i64 a, .string b, .string c, .int .i64 d], .int .i64 left] w _
  clear h1 h2
  by_cases hs : szR b.size c.size left < 0
  · go_enter Try.func74, Try.ntmps74
    go_wp2_with (go_at_call 93; refine (szRule_any a b c d left _ h1'.out h2'.out h0 hl).mono ?_; rintro e w' ⟨rfl, hb⟩)
    go_ret
    exact ⟨⟨_, rfl, by omega, by omega⟩, (Go.Joins.below_alloc1 _ _).trans (hb.mono (by simp))⟩
  · go_enter Try.func74, Try.ntmps74
    go_wp2_with (go_at_call 93; refine (szRule_any a b c d left _ h1'.out h2'.out h0 hl).mono ?_; rintro e w' ⟨rfl, hb⟩)
    go_ret
    exact ⟨⟨_, rfl, HS.out.2, HS.out.1⟩, (Go.Joins.below_alloc1 _ _).trans (hb.mono (by simp))⟩

set_option maxHeartbeats 1600000 in
theorem szMarkS_any (ms : List Mk) (hwf : ∀ m ∈ ms, m.wf) (v : Value) (w : World) (h : IsMarks w v ms) (left : Int) (h0 : 0 ≤ left) (hl : left ≤ 1048576) :
    Calls Try.prog 47 #[v, .int .i64 left] w
      fun e w' => (∃ r : Int, e = .returned (.int .i64 r) ∧ -1 ≤ r ∧ r ≤ left ∧ (0 ≤ r → ms.length ≤ 1048576)) ∧ Below w.heap.size w w' := by
  obtain ⟨a, cap, rfl, ha1, ha2, ha⟩ := h
  have HA := Lib.hid ha
  have HWF := Lib.hid hwf
  unfold maxLen at ha2
  clear ha hwf
  by_cases hb : left - ms.length < 0
  · go_enter Try.func47, Try.ntmps47
    go_wp2_with fail
    go_ret
    exact ⟨⟨_, rfl, by omega, by omega, by omega⟩, Below.refl _ _⟩
  · go_enter Try.func47, Try.ntmps47
    go_wp2_with fail
    go_loopw [1, 5] (fun l i wr => ∃ (k : Nat) (x : Int), k ≤ ms.length ∧ i = .int .i64 k ∧ l = .int .i64 x ∧ 0 ≤ x ∧ x ≤ left ∧ Below w.heap.size w wr) (fun _ i _ => ms.length - (intOf i).toNat)
    case atStart => exact ⟨0, _, Nat.zero_le _, rfl, rfl, by omega, by omega, Below.refl _ _⟩
    case round =>
      obtain ⟨k, x, hk, rfl, rfl, hx0, hx1, hbel⟩ := hrel
      by_cases hlt : k < ms.length
      · obtain ⟨g, off, rfl, hg, hc⟩ := HA.out.resolve_left (fun h => by rw [h] at hlt; exact absurd hlt (Nat.not_lt_zero k))
        obtain ⟨c0, c1, c2, c3, c4⟩ := (hc k hlt).below hbel hg
        have hmw := Lib.hid (HWF.out ms[k] (List.getElem_mem hlt))
        have BB := Lib.hid hbel
        clear hc hbel
        generalize ms[k] = m at *
        have HZ := Lib.hid (fun W => szMark_any m hmw.out x W (by omega) (by omega))
        obtain ⟨k1, r1, l1, t1, n1⟩ := m
        simp only at c0 c1 c2 c3 c4
        go_wp2_with fail
        refine (HZ.out _).mono ?_
        rintro e w' ⟨⟨r, rfl, hr0, hr1⟩, hb1⟩
        have hb2 := Lib.hid (BB.out.trans (hb1.mono BB.out.size))
        clear hb1
        by_cases hr : r < 0
        · go_wp2_with fail
          go_ret
          exact ⟨⟨_, rfl, by omega, by omega, by omega⟩, hb2.out⟩
        · go_wp2_with fail
          go_roundw
          case rel => exact ⟨k + 1, r, by omega, by go_num, rfl, by omega, by omega, hb2.out⟩
          case measure => simp [intOf]; omega
      · obtain rfl : k = ms.length := by omega
        go_wp2_with fail
        go_ret
        exact ⟨⟨_, rfl, by omega, by omega, fun _ => by omega⟩, hbel⟩

/-- equal rules -/
theorem eqRule_same (kind : Int) (letter thn : ByteArray) (many : Int) (w : World) :
    Calls Try.prog 95 #[.agg #[.int .i64 kind, .string letter, .string thn, .int .i64 many], .agg #[.int .i64 kind, .string letter, .string thn, .int .i64 many]] w
      fun e w' => e = .returned (.bool true) ∧ Below w.heap.size w w' := by
  go_enter Try.func95, Try.ntmps95
  go_wp2_with fail
  go_ret
  exact ⟨rfl, Go.Joins.below_alloc2 _ _ _⟩
theorem eqMark_same (m : Mk) (w : World) :
    Calls Try.prog 76 #[m.val, m.val] w fun e w' => e = .returned (.bool true) ∧ Below w.heap.size w w' := by
  obtain ⟨k, a, b, c, d⟩ := m
  show Calls Try.prog _ #[.agg #[.int .i64 k, .int .i64 a, .string b, .string c, .int .i64 d], .agg #[.int .i64 k, .int .i64 a, .string b, .string c, .int .i64 d]] w _
  go_enter Try.func76, Try.ntmps76
  go_wp2_with (go_at_call 95; refine (eqRule_same a b c d _).mono ?_; rintro e w' ⟨rfl, hb⟩)
  go_ret
  exact ⟨rfl, (Go.Joins.below_alloc2 _ _ _).trans (hb.mono (by simp; omega))⟩
set_option maxHeartbeats 1600000 in
theorem eqMarkS_same (ms : List Mk) (v u : Value) (w : World) (h : IsMarks w v ms) (h2 : IsMarks w u ms) :
    Calls Try.prog 49 #[v, u] w fun e w' => e = .returned (.bool true) ∧ Below w.heap.size w w' := by
  obtain ⟨a, cap, rfl, ha1, ha2, ha⟩ := h
  obtain ⟨b, cap2, rfl, hb1, hb2, hb⟩ := h2
  have HA := Lib.hid ha
  have HB := Lib.hid hb
  unfold maxLen at ha2
  clear ha hb hb1 hb2
  go_enter Try.func49, Try.ntmps49
  go_wp2_with fail
  go_loopw [5] (fun i wr => ∃ k : Nat, k ≤ ms.length ∧ i = .int .i64 k ∧ Below w.heap.size w wr) (fun i _ => ms.length - (intOf i).toNat)
  case atStart => exact ⟨0, Nat.zero_le _, rfl, Below.refl _ _⟩
  case round =>
    obtain ⟨k, hk, rfl, hbel⟩ := hrel
    by_cases hlt : k < ms.length
    · obtain ⟨g, off, rfl, hg, hc⟩ := HA.out.resolve_left (fun h => by rw [h] at hlt; exact absurd hlt (Nat.not_lt_zero k))
      obtain ⟨g2, off2, rfl, hg2, hc2⟩ := HB.out.resolve_left (fun h => by rw [h] at hlt; exact absurd hlt (Nat.not_lt_zero k))
      obtain ⟨c0, c1, c2, c3, c4⟩ := (hc k hlt).below hbel hg
      obtain ⟨d0, d1, d2, d3, d4⟩ := (hc2 k hlt).below hbel hg2
      have BB := Lib.hid hbel
      clear hc hc2 hbel
      generalize ms[k] = m at *
      have HE := Lib.hid (fun W => eqMark_same m W)
      obtain ⟨k1, r1, l1, t1, n1⟩ := m
      have HE2 := Lib.hid (show ∀ W, Calls Try.prog 76 #[.agg #[.int .i64 k1, .int .i64 r1, .string l1, .string t1, .int .i64 n1], .agg #[.int .i64 k1, .int .i64 r1, .string l1, .string t1, .int .i64 n1]] W fun e w' => e = .returned (.bool true) ∧ Below W.heap.size W w' from HE.out)
      simp only at c0 c1 c2 c3 c4 d0 d1 d2 d3 d4
      go_wp2_with fail
      go_region_with (go_at_call 76; refine (HE2.out _).mono ?_; rintro e w' ⟨rfl, hb1⟩)
      all_goals
        go_wp2_with fail
        go_roundw
        case rel => exact ⟨k + 1, by omega, by go_num, BB.out.drew.trans (hb1.mono BB.out.size)⟩
        case measure => simp [intOf]; omega
    · obtain rfl : k = ms.length := by omega
      go_wp2_with fail
      go_ret
      exact ⟨rfl, hbel⟩
end Go.Proofs.Ytlbblfbiiceofaa
