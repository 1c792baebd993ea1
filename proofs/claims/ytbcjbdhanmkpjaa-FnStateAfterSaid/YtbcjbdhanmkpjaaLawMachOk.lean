/- The walk of FnMachineOk: true at every code. No condition. -/
import Derived.Test.YtbcjbdhanmkpjaaDrawn2
import Derived.Test.YtbcjbdhanmkpjaaImplMachOk
import Derived.Test.YtbcjbdhanmkpjaaLawWordOk
namespace Go.Proofs.Ytbcjbdhanmkpjaa
open Go.RowKit

theorem IsRow.len_le {k : IntKind} {w : World} {a : Option Addr} {len cap : Nat} {zs : List Int} (h : IsRow k w a len cap zs) : len ≤ maxLen := by
  rcases h with ⟨_, rfl, _⟩ | ⟨x, _, h1, h2, _⟩
  · exact Nat.zero_le _
  · exact Nat.le_trans h1 h2
theorem isInts_lit (w : World) (t : TypeId) (cs : Array Value) (n : Nat) (xs : List Int) (hn : cs.size = n) (hc : cs.toList = xs.map (Value.int .i64)) (hm : n ≤ 1000) : IsInts (w.alloc (.cells cs t)) (.slice (some ⟨w.heap.size, 0, none⟩) n n) xs := by
  have h := World.ownsRow_lit (base := 0) (e := t) (size := 1) w cs n (Nat.zero_le _) (by unfold maxLen; omega) (by omega)
  rw [hc] at h
  have hl : xs.length = n := by have := congrArg List.length hc; simp at this; omega
  subst hl
  exact IsInts.of_owns h
theorem isBools_lit (w : World) (t : TypeId) (cs : Array Value) (n : Nat) (xs : List Bool) (hn : cs.size = n) (hc : cs.toList = xs.map Value.bool) (hm : n ≤ 1000) : IsBools (w.alloc (.cells cs t)) (.slice (some ⟨w.heap.size, 0, none⟩) n n) xs := by
  have h := World.ownsRow_lit (base := 0) (e := t) (size := 1) w cs n (Nat.zero_le _) (by unfold maxLen; omega) (by omega)
  rw [hc] at h
  have hl : xs.length = n := by have := congrArg List.length hc; simp at this; omega
  subst hl
  exact IsBools.of_owns h

set_option maxHeartbeats 1600000 in
theorem lawMachineOk_walk {w : World} (a : Option Addr) (len cap : Nat) (zs : List Int) (h : IsRow .u8 w a len cap zs) :
    Calls Try.prog 3 #[.slice a len cap] w fun e w' => e = .returned (.bool true) ∧ Below w.heap.size w w' := by
  have HD := Lib.hid (drawMachineOk_any a len cap zs w h)
  have hl := h.len_le
  unfold maxLen at hl
  clear h
  by_cases hbig : 1048576 < len
  · go_enter Try.func3, Try.ntmps3
    go_wp2_with fail
    go_ret
    exact ⟨rfl, Below.refl _ _⟩
  · go_enter Try.func3, Try.ntmps3
    go_wp2_with fail
    refine HD.out.mono ?_
    clear HD
    rintro e w1 ⟨⟨st, xs, bs⟩, nv, ev, rfl, hd, hb1⟩
    obtain ⟨a1, n1, c1, rfl⟩ := hd.ints.slice
    obtain ⟨a2, n2, c2, rfl⟩ := hd.bools.slice
    have hwf := hd.wf
    have hM := MachBox.new (st := st) 26 hd.ints hd.bools
    have M1 := Lib.hid hM
    have q1 := Lib.hid (hb1.trans ((Below.refl w1.heap.size w1).alloc (Nat.le_refl _) (.cells #[.int .i64 st, .slice a1 n1 c1, .slice a2 n2 c2] 26) |>.mono hb1.size))
    clear hM hb1 hd
    have ok1 : M.ok ⟨1, [-1, -1, -1], [true]⟩ = true := by decide
    have ok2 : M.ok ⟨1, [0, 0, 0], [false]⟩ = true := by decide
    have ok3 : M.ok ⟨0, [], []⟩ = false := by decide
    have K1 := Lib.hid ok1
    have K2 := Lib.hid ok2
    have K3 := Lib.hid ok3
    clear ok1 ok2 ok3
    go_wp2_with fail
    refine (implMachineOk_any ⟨st, xs, bs⟩ _ _ _ M1.out.ints M1.out.bools hwf).mono ?_
    rintro e w2 ⟨rfl, hb2⟩
    have M2 := Lib.hid (M1.out.below hb2)
    have q2 := Lib.hid (q1.out.trans (hb2.mono q1.out.size))
    clear hb2
    have y0 := M2.out.c0
    have y1 := M2.out.c1
    have y2 := M2.out.c2
    go_wp2_with fail
    clear y0 y1 y2
    refine (specMachineOk_any ⟨st, xs, bs⟩ _ _ _ M2.out.ints M2.out.bools hwf).mono ?_
    rintro e w3 ⟨rfl, hb3⟩
    have q3 := Lib.hid (q2.out.trans (hb3.mono q2.out.size))
    clear hb3
    go_wp2_with fail
    have I1 := isInts_lit w3 3 #[.int .i64 (-1), .int .i64 (-1), .int .i64 (-1)] 3 [-1, -1, -1] rfl rfl (by omega)
    have s1 := (Below.refl _ (w3.alloc (.cells #[.int .i64 (-1), .int .i64 (-1), .int .i64 (-1)] 3))).alloc (Nat.le_refl _) (.cells #[.bool true] 4)
    have B1 := isBools_lit (w3.alloc (.cells #[.int .i64 (-1), .int .i64 (-1), .int .i64 (-1)] 3)) 4 #[.bool true] 1 [true] rfl rfl (by omega)
    simp only [World.size_alloc] at B1
    have q4 := Lib.hid (q3.out.trans ((((Below.refl w3.heap.size w3).alloc (Nat.le_refl _) (.cells #[.int .i64 (-1), .int .i64 (-1), .int .i64 (-1)] 3)).alloc (by simp) (.cells #[.bool true] 4)).mono q3.out.size))
    refine (implMachineOk_any ⟨1, [-1, -1, -1], [true]⟩ _ _ _ (I1.below s1) B1 (by decide)).mono ?_
    rintro e w5 ⟨rfl, hb5⟩
    have q5 := Lib.hid (q4.out.trans (hb5.mono q4.out.size))
    clear hb5 I1 s1 B1
    rw [K1.out]
    go_wp2_with fail
    have I1 := isInts_lit w5 3 #[.int .i64 0, .int .i64 0, .int .i64 0] 3 [0, 0, 0] rfl rfl (by omega)
    have s1 := (Below.refl _ (w5.alloc (.cells #[.int .i64 0, .int .i64 0, .int .i64 0] 3))).alloc (Nat.le_refl _) (.cells #[.bool false] 4)
    have B1 := isBools_lit (w5.alloc (.cells #[.int .i64 0, .int .i64 0, .int .i64 0] 3)) 4 #[.bool false] 1 [false] rfl rfl (by omega)
    simp only [World.size_alloc] at B1
    have q6 := Lib.hid (q5.out.trans ((((Below.refl w5.heap.size w5).alloc (Nat.le_refl _) (.cells #[.int .i64 0, .int .i64 0, .int .i64 0] 3)).alloc (by simp) (.cells #[.bool false] 4)).mono q5.out.size))
    refine (implMachineOk_any ⟨1, [0, 0, 0], [false]⟩ _ _ _ (I1.below s1) B1 (by decide)).mono ?_
    rintro e w7 ⟨rfl, hb7⟩
    have q7 := Lib.hid (q6.out.trans (hb7.mono q6.out.size))
    clear hb7 I1 s1 B1
    rw [K2.out]
    go_wp2_with fail
    refine (implMachineOk_any ⟨0, [], []⟩ _ _ _ (IsInts.nil _) (IsBools.nil _) (by decide)).mono ?_
    rintro e w8 ⟨rfl, hb8⟩
    have q8 := Lib.hid (q7.out.trans (hb8.mono q7.out.size))
    clear hb8
    rw [K3.out]
    go_wp2_with fail
    refine (alive_any _).mono ?_
    rintro e w9 ⟨rfl, rfl⟩
    go_wp2_with fail
    go_ret
    exact ⟨rfl, q8.out⟩
end Go.Proofs.Ytbcjbdhanmkpjaa
