/- ReadRule, as the program and the model have it: the rule that a text tells. No condition. -/
import Derived.Test.YtlfjecaffmfgcabDoorTermRead
import Derived.Test.YtlfjecaffmfgcabDoorRules2
import Derived.Test.YtlfjecaffmfgcabDoorShelf
import Derived.Test.YtlfjecaffmfgcabDoorRolled
import Derived.Deep.RegionWith
namespace Go.Proofs.YtlfjecaffmfgcabDoor
open Go.RowKit

def Ru.val (r : Ru) : Value := .agg #[.int .i64 r.kind, .string r.letter, .string r.thn, .int .i64 r.many]
/-- the rule that a text tells -/
def readR (s : ByteArray) : Option Ru :=
  match s.data.toList with
  | [a, b, c] => if (ruleOf a b c).ok = true then some (ruleOf a b c) else none
  | _ => none
def readV (s : ByteArray) : Value := .tuple #[((readR s).getD Ru.void).val, .bool (readR s).isSome]
theorem readR_size {s : ByteArray} (h : s.size ≠ 3) : readR s = none := by
  unfold readR
  have hl : s.data.toList.length ≠ 3 := by simpa using h
  split
  · rename_i a b c e; rw [e] at hl; simp at hl
  · rfl
theorem readR_yes {a b c : UInt8} (h : (ruleOf a b c).ok = true) : readR ⟨#[a, b, c]⟩ = some (ruleOf a b c) := by simp [readR, h]
theorem readR_no {a b c : UInt8} (h : (ruleOf a b c).ok = false) : readR ⟨#[a, b, c]⟩ = none := by simp [readR, h]
theorem three_bytes {s : ByteArray} (h : s.size = 3) : ∃ a b c, s = ⟨#[a, b, c]⟩ := by
  have hl : s.data.toList.length = 3 := by simpa using h
  match hs : s.data.toList, hl with
  | [a, b, c], _ => exact ⟨a, b, c, bytes_ext (by rw [hs])⟩

/-- where the sign of a kind stands -/
theorem sign_at (b : UInt8) : Lib.indexByte [42, 94, 47, 60, 62] ((b.toNat : Int).toNat.toUInt8) = signKind b := by
  have e : ((b.toNat : Int).toNat.toUInt8) = b := by simp
  rw [e]
  unfold signKind
  by_cases h0 : b = 42
  · subst h0; rfl
  by_cases h1 : b = 94
  · subst h1; rfl
  by_cases h2 : b = 47
  · subst h2; rfl
  by_cases h3 : b = 60
  · subst h3; rfl
  by_cases h4 : b = 62
  · subst h4; rfl
  have k0 : ¬ (42 : UInt8) = b := fun h => h0 h.symm
  have k1 : ¬ (94 : UInt8) = b := fun h => h1 h.symm
  have k2 : ¬ (47 : UInt8) = b := fun h => h2 h.symm
  have k3 : ¬ (60 : UInt8) = b := fun h => h3 h.symm
  have k4 : ¬ (62 : UInt8) = b := fun h => h4 h.symm
  simp [Lib.indexByte, h0, h1, h2, h3, h4, k0, k1, k2, k3, k4]

theorem w64 {x : Int} (h : -9223372036854775808 ≤ x) (h2 : x < 9223372036854775808) : wrap64 x = x := by unfold wrap64; omega
/-- two boxes, a draw, and what keeps them -/
theorem two_boxes {w w1 : World} {cs0 cs1 : Array Value} {t0 t1 : TypeId} (hb : Below ((w.alloc (.cells cs0 t0)).alloc (.cells cs1 t1)).drew.heap.size ((w.alloc (.cells cs0 t0)).alloc (.cells cs1 t1)).drew w1) :
    (∀ i, w1.cell? ⟨w.heap.size, i, none⟩ = cs0[i]?) ∧ (∀ i, w1.cell? ⟨w.heap.size + 1, i, none⟩ = cs1[i]?) ∧ (∀ i, w1.frozen? ⟨w.heap.size, i, none⟩ = false) ∧ Below w.heap.size w w1 ∧ w.heap.size + 2 ≤ w1.heap.size := by
  have hs : ((w.alloc (.cells cs0 t0)).alloc (.cells cs1 t1)).drew.heap.size = w.heap.size + 2 := by simp
  have e1 : (w.alloc (.cells cs0 t0)).heap.size = w.heap.size + 1 := by simp
  rw [hs] at hb
  have hal : Below (w.heap.size + 1) (w.alloc (.cells cs0 t0)) ((w.alloc (.cells cs0 t0)).alloc (.cells cs1 t1)).drew := ((Below.refl _ _).alloc (by rw [e1]; exact Nat.le_refl _) _).drew
  refine ⟨fun i => ?_, fun i => ?_, fun i => ?_, ?_, by have := hb.size; omega⟩
  · rw [hb.cell (p := ⟨w.heap.size, i, none⟩) (by show w.heap.size < _; omega), hal.cell (p := ⟨w.heap.size, i, none⟩) (by show w.heap.size < _; omega)]
    exact World.cell?_alloc_new w _ _ i
  · rw [hb.cell (p := ⟨w.heap.size + 1, i, none⟩) (by show w.heap.size + 1 < _; omega)]
    have := World.cell?_alloc_new (w.alloc (.cells cs0 t0)) cs1 t1 i
    rw [e1] at this
    exact this
  · rw [hb.frozen (p := ⟨w.heap.size, i, none⟩) (by show w.heap.size < _; omega), hal.frozen (p := ⟨w.heap.size, i, none⟩) (by show w.heap.size < _; omega)]
    exact World.frozen?_alloc_new w _ _ i
  · exact ((((Below.refl w.heap.size w).alloc (Nat.le_refl _) _).alloc (by rw [e1]; omega) _).drew).trans (hb.mono (by omega))

set_option maxHeartbeats 1600000 in
theorem implReadRule_any (s : ByteArray) (w : World) (hs : s.size ≤ maxLen) :
    Calls Tryd.prog 12 #[.string s] w fun e w' => e = .returned (readV s) ∧ Below w.heap.size w w' := by
  unfold maxLen at hs
  by_cases h3 : s.size = 3
  · obtain ⟨a, b, c, rfl⟩ := three_bytes h3
    clear h3 hs
    have hib : ∀ W, Calls Tryd.prog 31 #[.string ⟨#[42, 94, 47, 60, 62]⟩, .int .u8 (b.toNat : Int)] W fun e w' => e = .returned (.int .i64 (signKind b)) ∧ w' = W := fun W => by
      have := strings_IndexByte ⟨#[42, 94, 47, 60, 62]⟩ (b.toNat : Int) W
      rw [show (⟨#[42, 94, 47, 60, 62]⟩ : ByteArray).data.toList = [42, 94, 47, 60, 62] from rfl, sign_at] at this
      exact this
    have HIB := Lib.hid hib
    clear hib
    have HX := Lib.hid (show (⟨#[a, b, c]⟩ : ByteArray).extract 0 1 = ⟨#[a]⟩ from rfl)
    by_cases hb : b = 47
    · subst hb
      have hib : ∀ W, Calls Tryd.prog 31 #[.string ⟨#[42, 94, 47, 60, 62]⟩, .int .u8 ((47 : UInt8).toNat : Int)] W fun e w' => e = .returned (.int .i64 2) ∧ w' = W := HIB.out
      have HI2 := Lib.hid hib
      clear hib HIB
      have HQ := Lib.hid (show Ru.mk 2 ((⟨#[a, 47, c]⟩ : ByteArray).extract 0 1) ((⟨#[a, 47, c]⟩ : ByteArray).extract 2 3) 0 = ruleOf a 47 c from rfl)
      go_enter Tryd.func12, Tryd.ntmps12
      go_wp2_with fail
      go_region_with (go_at_call 31; refine (HI2.out _).mono ?_; rintro e w' ⟨rfl, rfl⟩)
      all_goals
        go_wp2_with fail
        refine (implRuleOk_any _ _ _ _ _ (by show 1 ≤ maxLen; decide) (by show 1 ≤ maxLen; decide)).mono ?_
        rintro e w1 ⟨rfl, hb1⟩
        rw [HQ.out]
        obtain ⟨x0, x1, xf, hbel, -⟩ := two_boxes hb1
        have HB := Lib.hid hbel
        clear hbel hb1
        have y0 := x0 0
        have y1 := x0 1
        have y2 := x0 2
        have y3 := x0 3
        have z0 := x1 0
        have z1 := x1 1
        have z2 := x1 2
        have z3 := x1 3
        have f0 := xf 0
        have f1 := xf 1
        have f2 := xf 2
        have f3 := xf 3
        clear x0 x1 xf
        simp only [List.getElem?_toArray, List.getElem?_cons_zero, List.getElem?_cons_succ] at y0 y1 y2 y3 z0 z1 z2 z3
        by_cases hok : (ruleOf a 47 c).ok = true
        · have HV := Lib.hid (show readV ⟨#[a, 47, c]⟩ = .tuple #[.agg #[.int .i64 2, .string ((⟨#[a, 47, c]⟩ : ByteArray).extract 0 1), .string ((⟨#[a, 47, c]⟩ : ByteArray).extract 2 3), .int .i64 0], .bool true] by rw [readV, readR_yes hok, ← HQ.out]; rfl)
          rw [hok]
          go_wp2_with fail
          refine bodyPost_ret (v := .tuple #[.agg #[.int .i64 2, .string ((⟨#[a, 47, c]⟩ : ByteArray).extract 0 1), .string ((⟨#[a, 47, c]⟩ : ByteArray).extract 2 3), .int .i64 0], .bool true]) ?_ rfl ⟨by rw [HV.out], ?_⟩
          · simp [results, Tryd.results12, go_sem, y0, y1, y2, y3]
          · exact (((HB.out.setCell (Nat.le_refl _) _).setCell (Nat.le_refl _) _).setCell (Nat.le_refl _) _).setCell (Nat.le_refl _) _
        · have hok' : (ruleOf a 47 c).ok = false := by simpa using hok
          have HV := Lib.hid (show readV ⟨#[a, 47, c]⟩ = .tuple #[.agg #[.int .i64 0, .string ⟨#[]⟩, .string ⟨#[]⟩, .int .i64 0], .bool false] by rw [readV, readR_no hok']; rfl)
          rw [hok']
          go_wp2_with fail
          refine bodyPost_ret (v := .tuple #[.agg #[.int .i64 0, .string ⟨#[]⟩, .string ⟨#[]⟩, .int .i64 0], .bool false]) ?_ rfl ⟨by rw [HV.out], ?_⟩
          · simp [results, Tryd.results12, go_sem, y0, y1, y2, y3]
          · exact (((HB.out.setCell (Nat.le_refl _) _).setCell (Nat.le_refl _) _).setCell (Nat.le_refl _) _).setCell (Nat.le_refl _) _
    · have hk : (signKind b == 2) = false := by
        unfold signKind
        rw [if_neg hb]
        repeat' split
        all_goals rfl
      have HQ := Lib.hid (show Ru.mk (signKind b) ((⟨#[a, b, c]⟩ : ByteArray).extract 0 1) ⟨#[]⟩ (wrap64 (wrap64 (((⟨#[a, b, c]⟩ : ByteArray)[2]'(by show 2 < 3; decide)).toNat : Int) - 48)) = ruleOf a b c by
        have hc : (c.toNat : Int) < 256 := by have := c.toNat_lt; omega
        have e1 : ((⟨#[a, b, c]⟩ : ByteArray)[2]'(by show 2 < 3; decide)) = c := rfl
        rw [ruleOf, if_neg hb, if_neg hb, e1, w64 (x := (c.toNat : Int)) (by omega) (by omega), w64 (by omega) (by omega)]
        rfl)
      go_enter Tryd.func12, Tryd.ntmps12
      go_wp2_with fail
      go_region_with (go_at_call 31; refine (HIB.out _).mono ?_; rintro e w' ⟨rfl, rfl⟩)
      all_goals
        go_wp2_with fail
        refine (implRuleOk_any _ _ _ _ _ (by show 1 ≤ maxLen; decide) (by decide)).mono ?_
        rintro e w1 ⟨rfl, hb1⟩
        rw [HQ.out]
        obtain ⟨x0, x1, xf, hbel, -⟩ := two_boxes hb1
        have HB := Lib.hid hbel
        clear hbel hb1
        have y0 := x0 0
        have y1 := x0 1
        have y2 := x0 2
        have y3 := x0 3
        have z0 := x1 0
        have z1 := x1 1
        have z2 := x1 2
        have z3 := x1 3
        have f0 := xf 0
        have f1 := xf 1
        have f2 := xf 2
        have f3 := xf 3
        clear x0 x1 xf
        simp only [List.getElem?_toArray, List.getElem?_cons_zero, List.getElem?_cons_succ] at y0 y1 y2 y3 z0 z1 z2 z3
        by_cases hok : (ruleOf a b c).ok = true
        · have HV := Lib.hid (show readV ⟨#[a, b, c]⟩ = .tuple #[.agg #[.int .i64 (signKind b), .string ((⟨#[a, b, c]⟩ : ByteArray).extract 0 1), .string ⟨#[]⟩, .int .i64 (wrap64 (wrap64 (((⟨#[a, b, c]⟩ : ByteArray)[2]'(by show 2 < 3; decide)).toNat : Int) - 48))], .bool true] by rw [readV, readR_yes hok, ← HQ.out]; rfl)
          rw [hok]
          go_wp2_with fail
          refine bodyPost_ret (v := .tuple #[.agg #[.int .i64 (signKind b), .string ((⟨#[a, b, c]⟩ : ByteArray).extract 0 1), .string ⟨#[]⟩, .int .i64 (wrap64 (wrap64 (((⟨#[a, b, c]⟩ : ByteArray)[2]'(by show 2 < 3; decide)).toNat : Int) - 48))], .bool true]) ?_ rfl ⟨by rw [HV.out], ?_⟩
          · simp [results, Tryd.results12, go_sem, y0, y1, y2, y3]
          · exact (((HB.out.setCell (Nat.le_refl _) _).setCell (Nat.le_refl _) _).setCell (Nat.le_refl _) _).setCell (Nat.le_refl _) _
        · have hok' : (ruleOf a b c).ok = false := by simpa using hok
          have HV := Lib.hid (show readV ⟨#[a, b, c]⟩ = .tuple #[.agg #[.int .i64 0, .string ⟨#[]⟩, .string ⟨#[]⟩, .int .i64 0], .bool false] by rw [readV, readR_no hok']; rfl)
          rw [hok']
          go_wp2_with fail
          refine bodyPost_ret (v := .tuple #[.agg #[.int .i64 0, .string ⟨#[]⟩, .string ⟨#[]⟩, .int .i64 0], .bool false]) ?_ rfl ⟨by rw [HV.out], ?_⟩
          · simp [results, Tryd.results12, go_sem, y0, y1, y2, y3]
          · exact (((HB.out.setCell (Nat.le_refl _) _).setCell (Nat.le_refl _) _).setCell (Nat.le_refl _) _).setCell (Nat.le_refl _) _
  · have HE := Lib.hid (show readV s = .tuple #[.agg #[.int .i64 0, .string ⟨#[]⟩, .string ⟨#[]⟩, .int .i64 0], .bool false] by rw [readV, readR_size h3]; rfl)
    have h3' : ((s.size : Int) != 3) = true := by simp; omega
    clear h3
    go_enter Tryd.func12, Tryd.ntmps12
    go_wp2_with fail
    refine bodyPost_ret (v := .tuple #[.agg #[.int .i64 0, .string ⟨#[]⟩, .string ⟨#[]⟩, .int .i64 0], .bool false]) ?_ rfl ⟨by rw [HE.out], ?_⟩
    · simp [results, Tryd.results12, go_sem]
    · exact (Below.refl _ _).alloc (Nat.le_refl _) _
end Go.Proofs.YtlfjecaffmfgcabDoor
