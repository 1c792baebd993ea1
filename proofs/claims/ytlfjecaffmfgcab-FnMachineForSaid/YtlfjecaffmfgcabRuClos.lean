/- The functions by which the makers of machines go on. No condition. -/
import Derived.Test.YtlfjecaffmfgcabKeeps
import Derived.Laws.EntriesVeiled
namespace Go.Proofs.Ytlfjecaffmfgcab
open Go.RowKit

/-- a block that holds a rule -/
structure RuBox (B : Nat) (kind : Int) (letter thn : ByteArray) (many : Int) (w : World) : Prop where
  hB : B < w.heap.size
  c0 : w.cell? ⟨B, 0, none⟩ = some (.int .i64 kind)
  c1 : w.cell? ⟨B, 1, none⟩ = some (.string letter)
  c2 : w.cell? ⟨B, 2, none⟩ = some (.string thn)
  c3 : w.cell? ⟨B, 3, none⟩ = some (.int .i64 many)
theorem RuBox.below {B : Nat} {kind : Int} {letter thn : ByteArray} {many : Int} {w w' : World} (h : RuBox B kind letter thn many w) (hb : Below w.heap.size w w') : RuBox B kind letter thn many w' :=
  ⟨Nat.lt_of_lt_of_le h.hB hb.size, (hb.cell (p := ⟨B, 0, none⟩) h.hB).trans h.c0, (hb.cell (p := ⟨B, 1, none⟩) h.hB).trans h.c1, (hb.cell (p := ⟨B, 2, none⟩) h.hB).trans h.c2, (hb.cell (p := ⟨B, 3, none⟩) h.hB).trans h.c3⟩
theorem RuBox.new {w : World} (kind : Int) (letter thn : ByteArray) (many : Int) (t : TypeId) : RuBox w.heap.size kind letter thn many (w.alloc (.cells #[.int .i64 kind, .string letter, .string thn, .int .i64 many] t)) :=
  ⟨by simp, World.cell?_alloc_new w _ _ 0, World.cell?_alloc_new w _ _ 1, World.cell?_alloc_new w _ _ 2, World.cell?_alloc_new w _ _ 3⟩

theorem letterIs_any (l : Nat) (hl : l < 3) (t : ByteArray) (ht : letterOk t = true) (w : World) :
    Calls Try.prog 108 #[.int .i64 (l : Int), .string t] w fun e w' => e = .returned (.bool (byteAt t 0 == byteOf l)) ∧ w = w' := by
  match l, hl with
  | 0, _ =>
    rcases letterOk_cases ht with rfl | rfl | rfl
    all_goals
      go_enter Try.func108, Try.ntmps108
      go_wp2
      go_ret
      exact ⟨ret_bool (by decide +kernel), rfl⟩
  | 1, _ =>
    rcases letterOk_cases ht with rfl | rfl | rfl
    all_goals
      go_enter Try.func108, Try.ntmps108
      go_wp2
      go_ret
      exact ⟨ret_bool (by decide +kernel), rfl⟩
  | 2, _ =>
    rcases letterOk_cases ht with rfl | rfl | rfl
    all_goals
      go_enter Try.func108, Try.ntmps108
      go_wp2
      go_ret
      exact ⟨ret_bool (by decide +kernel), rfl⟩

theorem anyEnd_any (x : Int) (w : World) : Calls Try.prog 109 #[.int .i64 x] w fun e w' => e = .returned (.bool true) ∧ w = w' := by
  go_enter Try.func109, Try.ntmps109
  go_wp2
  go_ret
  exact ⟨rfl, rfl⟩

/-- what a function returns that goes on -/
def OnPost (r : Ru) (x : Int) (l : Nat) (W : World) (e : Ending) (W' : World) : Prop :=
  ∃ v b, e = .returned (.tuple #[.int .i64 v, .bool b]) ∧ r.on x l = (if b = true then some v else none) ∧ Below W.heap.size W W'

theorem row1_any (letter thn : ByteArray) (many : Int) (B : Nat) (W : World) (hM : RuBox B 0 letter thn many W) (hl : letterOk letter = true) (x : Int) (h0 : 0 ≤ x) (h1 : x ≤ many) (h4 : many ≤ 4) (l : Nat) (hl3 : l < 3) :
    Calls Try.prog 107 #[.int .i64 x, .int .i64 (l : Int), .pointer (some ⟨B, 0, none⟩)] W (OnPost ⟨0, letter, thn, many⟩ x l W) := by
  have y1 := hM.c1
  have y3 := hM.c3
  clear hM
  by_cases its : (byteAt letter 0 == byteOf l) = true
  · have HO : Hid ((Ru.mk 0 letter thn many).on x l = if decide (x < many) = true then some (x + 1) else none) := by
      have : (Ru.mk 0 letter thn many).on x l = if decide (x < many) = true then some (x + 1) else none := by
        simp only [Ru.on, Ru.nx, nxR, if_true, its]
        by_cases h : x = many
        · rw [if_pos h]; simp [h]
        · rw [if_neg h, if_neg (by omega), if_pos (by simp; omega)]
      exact Lib.hid this
    go_enter Try.func107, Try.ntmps107
    go_wp2_with (go_at_call 108; refine (letterIs_any _ hl3 _ hl _).mono ?_; rintro e w' ⟨rfl, rfl⟩)
    go_quiet (fail)
    go_wp2
    go_ret2
    exact ⟨_, _, rfl, HO.out, below_drewN (Below.refl _ _) _⟩
  · have its' : (byteAt letter 0 == byteOf l) = false := by simpa using its
    have HO : Hid ((Ru.mk 0 letter thn many).on x l = if true = true then some 0 else none) := by
      have : (Ru.mk 0 letter thn many).on x l = if true = true then some 0 else none := by
        simp [Ru.on, Ru.nx, nxR, its']
      exact Lib.hid this
    clear its
    go_enter Try.func107, Try.ntmps107
    go_wp2_with (go_at_call 108; refine (letterIs_any _ hl3 _ hl _).mono ?_; rintro e w' ⟨rfl, rfl⟩)
    go_ret2
    exact ⟨_, _, rfl, HO.out, Below.refl _ _⟩

theorem most1_any (letter thn : ByteArray) (many : Int) (B : Nat) (W : World) (hM : RuBox B 3 letter thn many W) (hl : letterOk letter = true) (x : Int) (h0 : 0 ≤ x) (h1 : x ≤ many) (h4 : many ≤ 5) (l : Nat) (hl3 : l < 3) :
    Calls Try.prog 113 #[.int .i64 x, .int .i64 (l : Int), .pointer (some ⟨B, 0, none⟩)] W (OnPost ⟨3, letter, thn, many⟩ x l W) := by
  have y1 := hM.c1
  have y3 := hM.c3
  clear hM
  by_cases its : (byteAt letter 0 == byteOf l) = true
  · have HO : Hid ((Ru.mk 3 letter thn many).on x l = if decide (x < many) = true then some (x + 1) else none) := by
      have : (Ru.mk 3 letter thn many).on x l = if decide (x < many) = true then some (x + 1) else none := by
        simp only [Ru.on, Ru.nx, nxR, its]
        by_cases h : x = many
        · simp [h]
        · have e : min (x + 1) many = x + 1 := by rw [Int.min_def]; split <;> omega
          have h5 : ¬ x + 1 = -1 := by omega
          have h6 : x < many := by omega
          simp [h, e, h5, h6]
      exact Lib.hid this
    go_enter Try.func113, Try.ntmps113
    go_wp2_with (go_at_call 108; refine (letterIs_any _ hl3 _ hl _).mono ?_; rintro e w' ⟨rfl, rfl⟩)
    go_quiet (fail)
    go_wp2
    go_ret2
    exact ⟨_, _, rfl, HO.out, below_drewN (Below.refl _ _) _⟩
  · have its' : (byteAt letter 0 == byteOf l) = false := by simpa using its
    have HO : Hid ((Ru.mk 3 letter thn many).on x l = if true = true then some x else none) := by
      have : (Ru.mk 3 letter thn many).on x l = if true = true then some x else none := by
        have : ¬ x = -1 := by omega
        simp [Ru.on, Ru.nx, nxR, its', this]
      exact Lib.hid this
    clear its
    go_enter Try.func113, Try.ntmps113
    go_wp2_with (go_at_call 108; refine (letterIs_any _ hl3 _ hl _).mono ?_; rintro e w' ⟨rfl, rfl⟩)
    go_ret2
    exact ⟨_, _, rfl, HO.out, Below.refl _ _⟩

theorem least1_any (letter thn : ByteArray) (many : Int) (B : Nat) (W : World) (hM : RuBox B 4 letter thn many W) (hl : letterOk letter = true) (x : Int) (h0 : 0 ≤ x) (h1 : x ≤ many) (h4 : many ≤ 5) (l : Nat) (hl3 : l < 3) :
    Calls Try.prog 114 #[.int .i64 x, .int .i64 (l : Int), .pointer (some ⟨B, 0, none⟩)] W (OnPost ⟨4, letter, thn, many⟩ x l W) := by
  have y1 := hM.c1
  have y3 := hM.c3
  clear hM
  by_cases its : (byteAt letter 0 == byteOf l) = true
  · have HO : Hid ((Ru.mk 4 letter thn many).on x l = if true = true then some (min (x + 1) many) else none) := by
      have : (Ru.mk 4 letter thn many).on x l = if true = true then some (min (x + 1) many) else none := by
        have : ¬ min (x + 1) many = -1 := by rw [Int.min_def]; split <;> omega
        simp [Ru.on, Ru.nx, nxR, its, this]
      exact Lib.hid this
    go_enter Try.func114, Try.ntmps114
    go_wp2_with (go_at_call 108; refine (letterIs_any _ hl3 _ hl _).mono ?_; rintro e w' ⟨rfl, rfl⟩)
    go_ret2
    exact ⟨_, _, rfl, HO.out, Below.refl _ _⟩
  · have its' : (byteAt letter 0 == byteOf l) = false := by simpa using its
    have HO : Hid ((Ru.mk 4 letter thn many).on x l = if true = true then some x else none) := by
      have : (Ru.mk 4 letter thn many).on x l = if true = true then some x else none := by
        have : ¬ x = -1 := by omega
        simp [Ru.on, Ru.nx, nxR, its', this]
      exact Lib.hid this
    clear its
    go_enter Try.func114, Try.ntmps114
    go_wp2_with (go_at_call 108; refine (letterIs_any _ hl3 _ hl _).mono ?_; rintro e w' ⟨rfl, rfl⟩)
    go_ret2
    exact ⟨_, _, rfl, HO.out, Below.refl _ _⟩

theorem least2_any (letter thn : ByteArray) (many : Int) (B : Nat) (W : World) (hM : RuBox B 4 letter thn many W) (x : Int) :
    Calls Try.prog 115 #[.int .i64 x, .pointer (some ⟨B, 0, none⟩)] W fun e W' => e = .returned (.bool ((Ru.mk 4 letter thn many).endAt x)) ∧ Below W.heap.size W W' := by
  have y3 := hM.c3
  clear hM
  have HE : Hid ((Ru.mk 4 letter thn many).endAt x = (x == many)) := Lib.hid rfl
  go_enter Try.func115, Try.ntmps115
  go_wp2
  go_ret
  exact ⟨ret_bool HE.out.symm, Below.refl _ _⟩

theorem run1_any (letter thn : ByteArray) (many : Int) (B : Nat) (W : World) (hM : RuBox B 1 letter thn many W) (x : Int) :
    Calls Try.prog 110 #[.int .i64 x, .pointer (some ⟨B, 0, none⟩)] W fun e W' => e = .returned (.bool ((Ru.mk 1 letter thn many).endAt x)) ∧ Below W.heap.size W W' := by
  have y3 := hM.c3
  clear hM
  have HE : Hid ((Ru.mk 1 letter thn many).endAt x = (x == 0 || x == many)) := Lib.hid rfl
  go_enter Try.func110, Try.ntmps110
  go_wp2
  all_goals
    go_ret
    exact ⟨ret_bool (by first | exact HE.out.symm | (rw [HE.out]; simp_all)), Below.refl _ _⟩

theorem run2_any (letter thn : ByteArray) (many : Int) (B L : Nat) (W : World) (hM : RuBox B 1 letter thn many W) (hL : W.cell? ⟨L, 0, none⟩ = some (.func (.func 110) #[] #[.pointer (some ⟨B, 0, none⟩)])) (hl : letterOk letter = true) (x : Int) (h0 : 0 ≤ x) (h1 : x ≤ many) (h4 : many ≤ 4) (l : Nat) (hl3 : l < 3) :
    Calls Try.prog 111 #[.int .i64 x, .int .i64 (l : Int), .pointer (some ⟨B, 0, none⟩), .pointer (some ⟨L, 0, none⟩)] W (OnPost ⟨1, letter, thn, many⟩ x l W) := by
  have y1 := hM.c1
  have y3 := hM.c3
  have MM := Lib.hid hM
  clear hM
  by_cases its : (byteAt letter 0 == byteOf l) = true
  · have HO : Hid ((Ru.mk 1 letter thn many).on x l = if true = true then some (min (x + 1) many) else none) := by
      have : (Ru.mk 1 letter thn many).on x l = if true = true then some (min (x + 1) many) else none := by
        have : ¬ min (x + 1) many = -1 := by rw [Int.min_def]; split <;> omega
        simp [Ru.on, Ru.nx, nxR, its, this]
      exact Lib.hid this
    clear hL
    go_enter Try.func111, Try.ntmps111
    go_wp2_with (go_at_call 108; refine (letterIs_any _ hl3 _ hl _).mono ?_; rintro e w' ⟨rfl, rfl⟩)
    go_ret2
    exact ⟨_, _, rfl, HO.out, Below.refl _ _⟩
  · have its' : (byteAt letter 0 == byteOf l) = false := by simpa using its
    have HO : Hid ((Ru.mk 1 letter thn many).on x l = if (Ru.mk 1 letter thn many).endAt x = true then some 0 else none) := by
      have : (Ru.mk 1 letter thn many).on x l = if (Ru.mk 1 letter thn many).endAt x = true then some 0 else none := by
        by_cases hx0 : x = 0
        · simp [Ru.on, Ru.nx, nxR, its', Ru.endAt, endR, hx0]
        · by_cases hxm : x = many
          · simp [Ru.on, Ru.nx, nxR, its', Ru.endAt, endR, hxm]
          · have h2 : 0 < x ∧ x < many := by omega
            simp [Ru.on, Ru.nx, nxR, its', Ru.endAt, endR, hx0, hxm, h2]
      exact Lib.hid this
    clear its
    go_enter Try.func111, Try.ntmps111
    go_wp2_with (go_at_call 108; refine (letterIs_any _ hl3 _ hl _).mono ?_; rintro e w' ⟨rfl, rfl⟩)
    refine (run1_any letter thn many B _ MM.out x).mono ?_
    rintro e w' ⟨rfl, hb⟩
    go_wp2_with fail
    go_ret2
    exact ⟨_, _, rfl, HO.out, hb⟩

theorem never1_any (letter thn : ByteArray) (many : Int) (B : Nat) (W : World) (hM : RuBox B 2 letter thn many W) (hl : letterOk letter = true) (ht : letterOk thn = true) (x : Int) (h0 : 0 ≤ x) (h1 : x ≤ 1) (l : Nat) (hl3 : l < 3) :
    Calls Try.prog 112 #[.int .i64 x, .int .i64 (l : Int), .pointer (some ⟨B, 0, none⟩)] W (OnPost ⟨2, letter, thn, many⟩ x l W) := by
  have y1 := hM.c1
  have y2 := hM.c2
  clear hM
  by_cases hx : x = 1
  · subst hx
    by_cases th : (byteAt thn 0 == byteOf l) = true
    · have HO : Hid ((Ru.mk 2 letter thn many).on 1 l = if false = true then some (-1) else none) := by
        have : (Ru.mk 2 letter thn many).on 1 l = if false = true then some (-1) else none := by
          simp [Ru.on, Ru.nx, nxR, th]
        exact Lib.hid this
      go_enter Try.func112, Try.ntmps112
      go_wp2_with (go_at_call 108; refine (letterIs_any _ hl3 _ (by assumption) _).mono ?_; rintro e w' ⟨rfl, rfl⟩)
      go_ret2
      exact ⟨_, _, rfl, HO.out, Below.refl _ _⟩
    · have th' : (byteAt thn 0 == byteOf l) = false := by simpa using th
      clear th
      by_cases its : (byteAt letter 0 == byteOf l) = true
      · have HO : Hid ((Ru.mk 2 letter thn many).on 1 l = if true = true then some 1 else none) := by
          have : (Ru.mk 2 letter thn many).on 1 l = if true = true then some 1 else none := by simp [Ru.on, Ru.nx, nxR, its, th']
          exact Lib.hid this
        go_enter Try.func112, Try.ntmps112
        go_wp2_with (go_at_call 108; refine (letterIs_any _ hl3 _ (by assumption) _).mono ?_; rintro e w' ⟨rfl, rfl⟩)
        go_ret2
        exact ⟨_, _, rfl, HO.out, Below.refl _ _⟩
      · have its' : (byteAt letter 0 == byteOf l) = false := by simpa using its
        clear its
        have HO : Hid ((Ru.mk 2 letter thn many).on 1 l = if true = true then some 0 else none) := by
          have : (Ru.mk 2 letter thn many).on 1 l = if true = true then some 0 else none := by simp [Ru.on, Ru.nx, nxR, its', th']
          exact Lib.hid this
        go_enter Try.func112, Try.ntmps112
        go_wp2_with (go_at_call 108; refine (letterIs_any _ hl3 _ (by assumption) _).mono ?_; rintro e w' ⟨rfl, rfl⟩)
        go_ret2
        exact ⟨_, _, rfl, HO.out, Below.refl _ _⟩
  · have hx' : (x == 1) = false := by simpa using hx
    by_cases its : (byteAt letter 0 == byteOf l) = true
    · have HO : Hid ((Ru.mk 2 letter thn many).on x l = if true = true then some 1 else none) := by
        have : (Ru.mk 2 letter thn many).on x l = if true = true then some 1 else none := by simp [Ru.on, Ru.nx, nxR, its, hx]
        exact Lib.hid this
      go_enter Try.func112, Try.ntmps112
      go_wp2_with (go_at_call 108; refine (letterIs_any _ hl3 _ (by assumption) _).mono ?_; rintro e w' ⟨rfl, rfl⟩)
      go_ret2
      exact ⟨_, _, rfl, HO.out, Below.refl _ _⟩
    · have its' : (byteAt letter 0 == byteOf l) = false := by simpa using its
      clear its
      have HO : Hid ((Ru.mk 2 letter thn many).on x l = if true = true then some 0 else none) := by
        have : (Ru.mk 2 letter thn many).on x l = if true = true then some 0 else none := by simp [Ru.on, Ru.nx, nxR, its', hx]
        exact Lib.hid this
      go_enter Try.func112, Try.ntmps112
      go_wp2_with (go_at_call 108; refine (letterIs_any _ hl3 _ (by assumption) _).mono ?_; rintro e w' ⟨rfl, rfl⟩)
      go_ret2
      exact ⟨_, _, rfl, HO.out, Below.refl _ _⟩
end Go.Proofs.Ytlfjecaffmfgcab
