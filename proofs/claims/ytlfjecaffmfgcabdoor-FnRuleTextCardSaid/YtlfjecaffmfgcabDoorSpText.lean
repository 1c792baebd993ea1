/- The model's RuleText. No condition. -/
import Derived.Test.YtlfjecaffmfgcabDoorSpRule
import Derived.Test.YtlfjecaffmfgcabDoorRText
import Derived.Deep.RegionWith
import Derived.Deep.RegionHeld
namespace Go.Proofs.YtlfjecaffmfgcabDoor
open Go.RowKit

theorem rText_many {kind : Int} {letter thn : ByteArray} {m : Nat} (h : (Ru.mk kind letter thn m).ok = true) (hk : kind ≠ 2) : rText (Ru.mk kind letter thn m) = letter ++ ⟨#[ruleSign kind]⟩ ++ digitS m := by
  refine bytes_ext ?_
  simp [rText, h, Ru.text, hk, digitS]
theorem rText_thn {letter thn : ByteArray} (h : (Ru.mk 2 letter thn 0).ok = true) : rText (Ru.mk 2 letter thn 0) = letter ++ ⟨#[47]⟩ ++ thn := by
  refine bytes_ext ?_
  simp [rText, h, Ru.text, ruleSign]

/-- the cells of a rule's box behind a call -/
theorem ru_of {w w1 : World} {kind : Int} {letter thn : ByteArray} {many : Int} {t : TypeId} (hb : Below (w.alloc (.cells #[.int .i64 kind, .string letter, .string thn, .int .i64 many] t)).heap.size (w.alloc (.cells #[.int .i64 kind, .string letter, .string thn, .int .i64 many] t)) w1) :
    w1.cell? ⟨w.heap.size, 0, none⟩ = some (.int .i64 kind) ∧ w1.cell? ⟨w.heap.size, 1, none⟩ = some (.string letter) ∧ w1.cell? ⟨w.heap.size, 2, none⟩ = some (.string thn) ∧ w1.cell? ⟨w.heap.size, 3, none⟩ = some (.int .i64 many) ∧ Below w.heap.size w w1 ∧ w.heap.size + 1 ≤ w1.heap.size := by
  have hs : (w.alloc (.cells #[.int .i64 kind, .string letter, .string thn, .int .i64 many] t)).heap.size = w.heap.size + 1 := by simp
  rw [hs] at hb
  have c : ∀ i, w1.cell? ⟨w.heap.size, i, none⟩ = #[Value.int .i64 kind, .string letter, .string thn, .int .i64 many][i]? := fun i =>
    (hb.cell (p := ⟨w.heap.size, i, none⟩) (Nat.lt_succ_self _)).trans (World.cell?_alloc_new w _ _ i)
  exact ⟨c 0, c 1, c 2, c 3, ((Below.refl w.heap.size w).alloc (Nat.le_refl _) _).trans (hb.mono (Nat.le_succ _)), by have := hb.size; omega⟩

/-- three cells of a box, and the frame around -/
structure Fr (w W : World) : Prop where
  lt : w.heap.size < W.heap.size
  bel : Below w.heap.size w W
abbrev Box3 (w : World) (v0 v1 v3 : Value) (W : World) : Prop := W.cell? ⟨w.heap.size, 0, none⟩ = some v0 ∧ W.cell? ⟨w.heap.size, 1, none⟩ = some v1 ∧ W.cell? ⟨w.heap.size, 3, none⟩ = some v3 ∧ Fr w W
theorem Box3.call {w W W2 : World} {v0 v1 v3 : Value} (h : Box3 w v0 v1 v3 W) (hb : Below W.heap.size W W2) : Box3 w v0 v1 v3 W2 :=
  ⟨(hb.cell (p := ⟨w.heap.size, 0, none⟩) h.2.2.2.lt).trans h.1, (hb.cell (p := ⟨w.heap.size, 1, none⟩) h.2.2.2.lt).trans h.2.1, (hb.cell (p := ⟨w.heap.size, 3, none⟩) h.2.2.2.lt).trans h.2.2.1,
    ⟨Nat.lt_of_lt_of_le h.2.2.2.lt hb.size, h.2.2.2.bel.trans (hb.mono (Nat.le_of_lt h.2.2.2.lt))⟩⟩
theorem Box3.alloc {w W : World} {v0 v1 v3 : Value} (o : Obj) (h : Box3 w v0 v1 v3 W) : Box3 w v0 v1 v3 (W.alloc o) := h.call ((Below.refl _ _).alloc (Nat.le_refl _) o)
theorem Box3.drew {w W : World} {v0 v1 v3 : Value} (h : Box3 w v0 v1 v3 W) : Box3 w v0 v1 v3 W.drew := h.call (Below.refl _ _).drew
theorem Box3.allocd {w W : World} {v0 v1 v3 : Value} (o : Obj) (h : Box3 w v0 v1 v3 W.drew) : Box3 w v0 v1 v3 (W.alloc o).drew := Box3.alloc o h
/-- the cells of a row laid just ahead of a call -/
theorem behind_z {w1 w2 : World} {cs : Array Value} {t : TypeId} (hb : Below (w1.alloc (.cells cs t)).drew.heap.size (w1.alloc (.cells cs t)).drew w2) : ∀ i, w2.cell? ⟨w1.heap.size, i, none⟩ = cs[i]? := fun i => by
  have hs : (w1.alloc (.cells cs t)).drew.heap.size = w1.heap.size + 1 := by simp
  rw [hs] at hb
  exact (hb.cell (p := ⟨w1.heap.size, i, none⟩) (Nat.lt_succ_self _)).trans (World.cell?_alloc_new w1 _ _ i)

/-- the load of the sign out of the row of signs, by a name (so that no tactic takes it for a load that the box tells) -/
abbrev spElem : Oper := { dst := some 21, op := Op.load 9 (Operand.tmp 20), type := 9, pos := "l4_language.go:30", after := #[{ on := 5, ground := Ground.data }], guard := none }
theorem spElem_is : ({ dst := some 21, op := Op.load 9 (Operand.tmp 20), type := 9, pos := "l4_language.go:30", after := #[{ on := 5, ground := Ground.data }], guard := none } : Oper) = spElem := rfl

set_option maxHeartbeats 16000000 in
theorem specRuleText_any (kind : Int) (letter thn : ByteArray) (many : Int) (w : World) :
    Calls Tryd.prog 9 #[.agg #[.int .i64 kind, .string letter, .string thn, .int .i64 many]] w
      fun e w' => e = .returned (.string (rText ⟨kind, letter, thn, many⟩)) ∧ Below w.heap.size w w' := by
  have HOK := Lib.hid (fun W => specRuleOk_any kind letter thn many W)
  have q0 := Lib.hid ((Below.refl w.heap.size w).alloc (Nat.le_refl _) (.cells #[.int .i64 kind, .string letter, .string thn, .int .i64 many] 24))
  by_cases hok : (Ru.mk kind letter thn many).ok = true
  · obtain ⟨hl, hr⟩ := Ru.ok_iff.1 hok
    simp only at hl hr
    have hlm : letter.size ≤ 1 := by simp [letterOk] at hl; omega
    rcases hr with ⟨rfl, rfl, h0, h1⟩ | ⟨rfl, rfl, h0, h1⟩ | ⟨rfl, ht, rfl⟩ | ⟨rfl, rfl, h0, h1⟩ | ⟨rfl, rfl, h0, h1⟩
    · obtain ⟨m, rfl⟩ := Int.eq_ofNat_of_zero_le (show 0 ≤ many by omega)
      have HE : Hid (rText (Ru.mk 0 letter ⟨#[]⟩ m) = letter ++ ⟨#[42]⟩ ++ digitS m) := Lib.hid (rText_many (m := m) hok (by decide))
      have HN := Lib.hid (fun W => l1Number_any m (by omega) W)
      go_enter Tryd.func9, Tryd.ntmps9
      go_wp2_with fail
      refine (HOK.out _).mono ?_
      rintro e w1 ⟨rfl, hb1⟩
      rw [hok]
      obtain ⟨y0, y1, y2, y3, hb, hsz⟩ := ru_of hb1
      have S0 : Box3 w (.int .i64 0) (.string letter) (.int .i64 m) w1 := ⟨y0, y1, y3, by omega, hb⟩
      have HS0 : Hid (Box3 w (.int .i64 0) (.string letter) (.int .i64 m) w1) := Lib.hid S0
      have hds : (digitS m).size = 1 := rfl
      clear hb hb1 hsz
      go_wp2_with fail
      clear hok HOK hl y0 y1 y3
      have hlt : w.heap.size < w1.heap.size := HS0.out.2.2.2.lt
      have hlt2 : w.heap.size < w1.heap.size + 1 := by omega
      clear y2
      rw [spElem_is]
      go_region_held (Box3 w (.int .i64 0) (.string letter) (.int .i64 m)) (first | assumption | exact Box3.drew (by assumption) | exact Box3.alloc _ (by assumption) | exact Box3.allocd _ (by assumption)) (first | (go_at_call 27; refine (HN.out _).mono ?_; rintro e w2 ⟨rfl, rfl⟩))
      all_goals
        go_wp2_with fail
        go_ret
        exact ⟨ret_str HE.out.symm, (Box3.drew (Box3.alloc _ (Box3.alloc _ HS0.out))).2.2.2.bel⟩
    · obtain ⟨m, rfl⟩ := Int.eq_ofNat_of_zero_le (show 0 ≤ many by omega)
      have HE : Hid (rText (Ru.mk 1 letter ⟨#[]⟩ m) = letter ++ ⟨#[94]⟩ ++ digitS m) := Lib.hid (rText_many (m := m) hok (by decide))
      have HN := Lib.hid (fun W => l1Number_any m (by omega) W)
      go_enter Tryd.func9, Tryd.ntmps9
      go_wp2_with fail
      refine (HOK.out _).mono ?_
      rintro e w1 ⟨rfl, hb1⟩
      rw [hok]
      obtain ⟨y0, y1, y2, y3, hb, hsz⟩ := ru_of hb1
      have S0 : Box3 w (.int .i64 1) (.string letter) (.int .i64 m) w1 := ⟨y0, y1, y3, by omega, hb⟩
      have HS0 : Hid (Box3 w (.int .i64 1) (.string letter) (.int .i64 m) w1) := Lib.hid S0
      have hds : (digitS m).size = 1 := rfl
      clear hb hb1 hsz
      go_wp2_with fail
      clear hok HOK hl y0 y1 y3
      have hlt : w.heap.size < w1.heap.size := HS0.out.2.2.2.lt
      have hlt2 : w.heap.size < w1.heap.size + 1 := by omega
      clear y2
      rw [spElem_is]
      go_region_held (Box3 w (.int .i64 1) (.string letter) (.int .i64 m)) (first | assumption | exact Box3.drew (by assumption) | exact Box3.alloc _ (by assumption) | exact Box3.allocd _ (by assumption)) (first | (go_at_call 27; refine (HN.out _).mono ?_; rintro e w2 ⟨rfl, rfl⟩))
      all_goals
        go_wp2_with fail
        go_ret
        exact ⟨ret_str HE.out.symm, (Box3.drew (Box3.alloc _ (Box3.alloc _ HS0.out))).2.2.2.bel⟩
    · have htm : thn.size ≤ 1 := by simp [letterOk] at ht; omega
      have HE : Hid (rText (Ru.mk 2 letter thn 0) = letter ++ ⟨#[47]⟩ ++ thn) := Lib.hid (rText_thn hok)
      go_enter Tryd.func9, Tryd.ntmps9
      go_wp2_with fail
      refine (HOK.out _).mono ?_
      rintro e w1 ⟨rfl, hb1⟩
      rw [hok]
      obtain ⟨y0, y1, y2, y3, hb, hsz⟩ := ru_of hb1
      have HB := Lib.hid hb
      clear hb hb1 hsz
      go_wp2_with fail
      go_ret
      exact ⟨ret_str HE.out.symm, HB.out⟩
    · obtain ⟨m, rfl⟩ := Int.eq_ofNat_of_zero_le (show 0 ≤ many by omega)
      have HE : Hid (rText (Ru.mk 3 letter ⟨#[]⟩ m) = letter ++ ⟨#[60]⟩ ++ digitS m) := Lib.hid (rText_many (m := m) hok (by decide))
      have HN := Lib.hid (fun W => l1Number_any m (by omega) W)
      go_enter Tryd.func9, Tryd.ntmps9
      go_wp2_with fail
      refine (HOK.out _).mono ?_
      rintro e w1 ⟨rfl, hb1⟩
      rw [hok]
      obtain ⟨y0, y1, y2, y3, hb, hsz⟩ := ru_of hb1
      have S0 : Box3 w (.int .i64 3) (.string letter) (.int .i64 m) w1 := ⟨y0, y1, y3, by omega, hb⟩
      have HS0 : Hid (Box3 w (.int .i64 3) (.string letter) (.int .i64 m) w1) := Lib.hid S0
      have hds : (digitS m).size = 1 := rfl
      clear hb hb1 hsz
      go_wp2_with fail
      clear hok HOK hl y0 y1 y3
      have hlt : w.heap.size < w1.heap.size := HS0.out.2.2.2.lt
      have hlt2 : w.heap.size < w1.heap.size + 1 := by omega
      clear y2
      rw [spElem_is]
      go_region_held (Box3 w (.int .i64 3) (.string letter) (.int .i64 m)) (first | assumption | exact Box3.drew (by assumption) | exact Box3.alloc _ (by assumption) | exact Box3.allocd _ (by assumption)) (first | (go_at_call 27; refine (HN.out _).mono ?_; rintro e w2 ⟨rfl, rfl⟩))
      all_goals
        go_wp2_with fail
        go_ret
        exact ⟨ret_str HE.out.symm, (Box3.drew (Box3.alloc _ (Box3.alloc _ HS0.out))).2.2.2.bel⟩
    · obtain ⟨m, rfl⟩ := Int.eq_ofNat_of_zero_le (show 0 ≤ many by omega)
      have HE : Hid (rText (Ru.mk 4 letter ⟨#[]⟩ m) = letter ++ ⟨#[62]⟩ ++ digitS m) := Lib.hid (rText_many (m := m) hok (by decide))
      have HN := Lib.hid (fun W => l1Number_any m (by omega) W)
      go_enter Tryd.func9, Tryd.ntmps9
      go_wp2_with fail
      refine (HOK.out _).mono ?_
      rintro e w1 ⟨rfl, hb1⟩
      rw [hok]
      obtain ⟨y0, y1, y2, y3, hb, hsz⟩ := ru_of hb1
      have S0 : Box3 w (.int .i64 4) (.string letter) (.int .i64 m) w1 := ⟨y0, y1, y3, by omega, hb⟩
      have HS0 : Hid (Box3 w (.int .i64 4) (.string letter) (.int .i64 m) w1) := Lib.hid S0
      have hds : (digitS m).size = 1 := rfl
      clear hb hb1 hsz
      go_wp2_with fail
      clear hok HOK hl y0 y1 y3
      have hlt : w.heap.size < w1.heap.size := HS0.out.2.2.2.lt
      have hlt2 : w.heap.size < w1.heap.size + 1 := by omega
      clear y2
      rw [spElem_is]
      go_region_held (Box3 w (.int .i64 4) (.string letter) (.int .i64 m)) (first | assumption | exact Box3.drew (by assumption) | exact Box3.alloc _ (by assumption) | exact Box3.allocd _ (by assumption)) (first | (go_at_call 27; refine (HN.out _).mono ?_; rintro e w2 ⟨rfl, rfl⟩))
      all_goals
        go_wp2_with fail
        go_ret
        exact ⟨ret_str HE.out.symm, (Box3.drew (Box3.alloc _ (Box3.alloc _ HS0.out))).2.2.2.bel⟩
  · have hok' : (Ru.mk kind letter thn many).ok = false := by simpa using hok
    have HE := Lib.hid (rText_no hok')
    clear hok
    go_enter Tryd.func9, Tryd.ntmps9
    go_wp2_with fail
    refine (HOK.out _).mono ?_
    rintro e w1 ⟨rfl, hb1⟩
    rw [hok']
    go_wp2_with fail
    go_ret
    exact ⟨ret_str HE.out.symm, q0.out.trans (hb1.mono (by simp))⟩
end Go.Proofs.YtlfjecaffmfgcabDoor
