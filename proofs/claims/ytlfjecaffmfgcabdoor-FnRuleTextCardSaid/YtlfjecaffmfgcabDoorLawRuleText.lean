/- The walk of FnRuleText: true at every code. No condition. -/
import Derived.Test.YtlfjecaffmfgcabDoorDrawnT
import Derived.Test.YtlfjecaffmfgcabDoorLawWordOk
import Derived.Test.YtlfjecaffmfgcabDoorImplText
namespace Go.Proofs.YtlfjecaffmfgcabDoor
open Go.RowKit

theorem rText_three {r : Ru} (h : r.ok = true) : ∃ a b c : UInt8, rText r = ⟨#[a, b, c]⟩ ∧ readV ⟨#[a, b, c]⟩ = .tuple #[r.val, .bool true] := by
  obtain ⟨a, b, c, ht, -, hr⟩ := Ru.text_cases h
  refine ⟨a, b, c, by rw [rText, if_pos h, ht], ?_⟩
  rw [readV, readR_yes (by rw [hr]; exact h), hr]
  rfl

set_option maxHeartbeats 1600000 in
set_option maxRecDepth 100000 in
theorem lawRuleText_walk {w : World} (a : Option Addr) (len cap : Nat) (zs : List Int) (h : IsRow .u8 w a len cap zs) :
    Calls Tryd.prog 3 #[.slice a len cap] w fun e w' => e = .returned (.bool true) ∧ Below w.heap.size w w' := by
  have HD := Lib.hid (drawRuleText_any a len cap zs w h)
  have hl : len ≤ maxLen := by
    rcases h with ⟨_, rfl, _⟩ | ⟨x, _, h1, h2, _⟩
    · exact Nat.zero_le _
    · exact Nat.le_trans h1 h2
  unfold maxLen at hl
  clear h
  by_cases hbig : 1048576 < len
  · go_enter Tryd.func3, Tryd.ntmps3
    go_wp2_with fail
    go_ret
    exact ⟨rfl, Below.refl _ _⟩
  · go_enter Tryd.func3, Tryd.ntmps3
    go_wp2_with fail
    refine HD.out.mono ?_
    clear HD
    rintro e w1 ⟨kind, letter, thn, many, rfl, p1, p2, p3, p4, p5, p6, hb⟩
    have hlm : letter.size ≤ maxLen := by rw [p3]; decide
    have htm : thn.size ≤ maxLen := Nat.le_trans p4 (by decide)
    have QB := Lib.hid hb
    have b0 := Lib.hid (Below.refl (w1.alloc (.cells #[.int .i64 kind, .string letter, .string thn, .int .i64 many] 24)).heap.size (w1.alloc (.cells #[.int .i64 kind, .string letter, .string thn, .int .i64 many] 24)))
    clear hb p1 p2 p3 p4 p5 p6
    obtain ⟨y0, y1, y2, y3, -, -⟩ := ru_of b0.out
    go_wp2_with fail
    clear y0 y1 y2 y3
    refine (implRuleText_any kind letter thn many _ hlm htm).mono ?_
    rintro e w2 ⟨rfl, hb2⟩
    have B2 := Lib.hid hb2
    obtain ⟨y0, y1, y2, y3, -, -⟩ := ru_of B2.out
    clear hb2
    go_wp2_with fail
    clear y0 y1 y2 y3
    refine (specRuleText_any kind letter thn many _).mono ?_
    rintro e w3 ⟨rfl, hb3⟩
    have B3 := Lib.hid (B2.out.trans (hb3.mono B2.out.size))
    obtain ⟨y0, y1, y2, y3, hB, -⟩ := ru_of B3.out
    have Q3 := Lib.hid (QB.out.trans (hB.mono QB.out.size))
    clear hb3 hB
    by_cases hok : (Ru.mk kind letter thn many).ok = true
    · obtain ⟨x, y, z, hx, hv⟩ := rText_three hok
      have HR : Hid (∀ W, Calls Tryd.prog 12 #[.string ⟨#[x, y, z]⟩] W fun e w' => e = .returned (.tuple #[.agg #[.int .i64 kind, .string letter, .string thn, .int .i64 many], .bool true]) ∧ Below W.heap.size W w') := Lib.hid (fun W => by
        have h := implReadRule_any ⟨#[x, y, z]⟩ W (by show 3 ≤ maxLen; decide)
        rw [hv] at h
        exact h)
      rw [hx]
      clear hok hx hv
      go_wp2_with fail
      refine (HR.out _).mono ?_
      rintro e w4 ⟨rfl, hb4⟩
      have B4 := Lib.hid (B3.out.trans (hb4.mono B3.out.size))
      clear y0 y1 y2 y3
      obtain ⟨x0, x1, x2, x3, -, hsz⟩ := ru_of B4.out
      have Q4 := Lib.hid (Q3.out.trans (hb4.mono Q3.out.size))
      clear hb4
      have hal : Below w4.heap.size w4 (w4.alloc (.cells #[.int .i64 kind, .string letter, .string thn, .int .i64 many] 24)) := (Below.refl _ _).alloc (Nat.le_refl _) _
      have y0 := (hal.cell (p := ⟨w1.heap.size, 0, none⟩) (by show w1.heap.size < _; omega)).trans x0
      have y1 := (hal.cell (p := ⟨w1.heap.size, 1, none⟩) (by show w1.heap.size < _; omega)).trans x1
      have y2 := (hal.cell (p := ⟨w1.heap.size, 2, none⟩) (by show w1.heap.size < _; omega)).trans x2
      have y3 := (hal.cell (p := ⟨w1.heap.size, 3, none⟩) (by show w1.heap.size < _; omega)).trans x3
      have QE := Lib.hid (Q4.out.trans (hal.mono Q4.out.size))
      clear x0 x1 x2 x3 hal hsz
      go_wp2_with fail
      go_ret
      exact ⟨rfl, QE.out⟩
    · have hok' : (Ru.mk kind letter thn many).ok = false := by simpa using hok
      rw [rText_no hok']
      go_wp2_with fail
      clear y0 y1 y2 y3
      refine (implRuleOk_any kind letter thn many _ hlm htm).mono ?_
      rintro e w4 ⟨rfl, hb4⟩
      rw [hok']
      have Q4 := Lib.hid (Q3.out.trans (hb4.mono Q3.out.size))
      go_wp2_with (go_at_call 11; refine (alive_any _).mono ?_; rintro e w' ⟨rfl, rfl⟩)
      go_ret
      exact ⟨rfl, Q4.out⟩
end Go.Proofs.YtlfjecaffmfgcabDoor
