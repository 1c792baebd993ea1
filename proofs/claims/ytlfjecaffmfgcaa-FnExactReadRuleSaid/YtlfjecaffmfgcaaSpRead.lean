/- The model's ReadRule: the rule that a text tells. No condition. -/
import Derived.Test.YtlfjecaffmfgcaaSpText
namespace Go.Proofs.Ytlfjecaffmfgcaa
open Go.RowKit

set_option maxHeartbeats 1600000 in
theorem l1Digits_one (c : UInt8) (w : World) :
    Calls Try.prog 44 #[.string ⟨#[c]⟩] w fun e w' => e = .returned (.int .i64 (dg c)) ∧ Below w.heap.size w w' := by
  have e0 : ((⟨#[c]⟩ : ByteArray)[0]'(by show 0 < 1; decide)) = c := rfl
  have hsz : (⟨#[c]⟩ : ByteArray).size = 1 := rfl
  have hin : ∀ W, Calls Try.prog 84 #[.int .i64 1, .int .i64 1, .int .i64 6] W fun e w' => e = .returned (.bool true) ∧ W = w' := fun W => l1In_any 1 1 6 W
  have HIN := Lib.hid hin
  clear hin
  have hb := c.toNat_lt
  go_enter Try.func44, Try.ntmps44
  go_wp2_with (go_at_call 84; refine (HIN.out _).mono ?_; rintro e w' ⟨rfl, rfl⟩)
  by_cases h1 : c.toNat < 48
  · have HE : Hid (dg c = -1) := Lib.hid (by unfold dg; rw [if_neg (by omega)])
    go_loopw [3, 4] (fun l i wr => i = .int .i64 0 ∧ l = .int .i64 0 ∧ wr = w) (fun _ i _ => 1 - (intOf i).toNat)
    case atStart => exact ⟨rfl, rfl, rfl⟩
    case round =>
      obtain ⟨rfl, rfl, rfl⟩ := hrel
      go_wp2_with fail
      go_ret
      exact ⟨ret_int HE.out.symm, Below.refl _ _⟩
  · by_cases h2 : 57 < c.toNat
    · have HE : Hid (dg c = -1) := Lib.hid (by unfold dg; rw [if_neg (by omega)])
      go_loopw [3, 4] (fun l i wr => i = .int .i64 0 ∧ l = .int .i64 0 ∧ wr = w) (fun _ i _ => 1 - (intOf i).toNat)
      case atStart => exact ⟨rfl, rfl, rfl⟩
      case round =>
        obtain ⟨rfl, rfl, rfl⟩ := hrel
        go_wp2_with fail
        go_ret
        exact ⟨ret_int HE.out.symm, Below.refl _ _⟩
    · have HE : Hid (dg c = (c.toNat : Int) - 48) := Lib.hid (by unfold dg; rw [if_pos (by omega)])
      go_loopw [3, 4] (fun l i wr => wr = w ∧ ((i = .int .i64 0 ∧ l = .int .i64 0) ∨ (i = .int .i64 1 ∧ l = .int .i64 (dg c)))) (fun _ i _ => 1 - (intOf i).toNat)
      case atStart => exact ⟨rfl, .inl ⟨rfl, rfl⟩⟩
      case round =>
        obtain ⟨rfl, ⟨rfl, rfl⟩ | ⟨rfl, rfl⟩⟩ := hrel
        · go_wp2_with fail
          go_roundw
          case rel =>
            refine ⟨trivial, .inr ⟨by go_num, ?_⟩⟩
            rw [HE.out]
          case measure => simp [intOf]
        · go_wp2_with fail
          go_ret
          exact ⟨rfl, Below.refl _ _⟩

/-- two boxes in a row, and the frame around -/
structure TwoB (w : World) (cs0 cs1 : Array Value) (W : World) : Prop where
  c0 : ∀ i, W.cell? ⟨w.heap.size, i, none⟩ = cs0[i]?
  c1 : ∀ i, W.cell? ⟨w.heap.size + 1, i, none⟩ = cs1[i]?
  f0 : ∀ i, W.frozen? ⟨w.heap.size, i, none⟩ = false
  f1 : ∀ i, W.frozen? ⟨w.heap.size + 1, i, none⟩ = false
  bel : Below w.heap.size w W
  lt : w.heap.size + 2 ≤ W.heap.size
theorem TwoB.new (w : World) (cs0 cs1 : Array Value) (t0 t1 : TypeId) : TwoB w cs0 cs1 ((w.alloc (.cells cs0 t0)).alloc (.cells cs1 t1)) := by
  have e1 : (w.alloc (.cells cs0 t0)).heap.size = w.heap.size + 1 := by simp
  have hal : Below (w.heap.size + 1) (w.alloc (.cells cs0 t0)) ((w.alloc (.cells cs0 t0)).alloc (.cells cs1 t1)) := (Below.refl _ _).alloc (by rw [e1]; exact Nat.le_refl _) _
  refine ⟨fun i => ?_, fun i => ?_, fun i => ?_, fun i => ?_, ?_, by simp⟩
  · rw [hal.cell (p := ⟨w.heap.size, i, none⟩) (by show w.heap.size < _; omega)]
    exact World.cell?_alloc_new w _ _ i
  · have := World.cell?_alloc_new (w.alloc (.cells cs0 t0)) cs1 t1 i
    rwa [e1] at this
  · rw [hal.frozen (p := ⟨w.heap.size, i, none⟩) (by show w.heap.size < _; omega)]
    exact World.frozen?_alloc_new w _ _ i
  · have := World.frozen?_alloc_new (w.alloc (.cells cs0 t0)) cs1 t1 i
    rwa [e1] at this
  · exact ((Below.refl w.heap.size w).alloc (Nat.le_refl _) _).alloc (by rw [e1]; omega) _
theorem TwoB.call {w W W2 : World} {cs0 cs1 : Array Value} (h : TwoB w cs0 cs1 W) (hb : Below W.heap.size W W2) : TwoB w cs0 cs1 W2 := by
  have := h.lt
  exact ⟨fun i => (hb.cell (p := ⟨w.heap.size, i, none⟩) (by show w.heap.size < _; omega)).trans (h.c0 i), fun i => (hb.cell (p := ⟨w.heap.size + 1, i, none⟩) (by show w.heap.size + 1 < _; omega)).trans (h.c1 i),
    fun i => (hb.frozen (p := ⟨w.heap.size, i, none⟩) (by show w.heap.size < _; omega)).trans (h.f0 i), fun i => (hb.frozen (p := ⟨w.heap.size + 1, i, none⟩) (by show w.heap.size + 1 < _; omega)).trans (h.f1 i),
    h.bel.trans (hb.mono (by omega)), Nat.le_trans h.lt hb.size⟩
theorem TwoB.set1 {w W : World} {cs0 cs1 : Array Value} (h : TwoB w cs0 cs1 W) (k : Nat) (v : Value) (hk : k < cs1.size) : TwoB w cs0 (cs1.setIfInBounds k v) (W.setCell ⟨w.heap.size + 1, k, none⟩ v) := by
  refine ⟨fun i => ?_, fun i => ?_, fun i => ?_, fun i => ?_, h.bel.setCell (Nat.le_succ _) _, by simpa using h.lt⟩
  · rw [World.cell?_setCell_far _ _ _ _ (by show w.heap.size + 1 ≠ w.heap.size; omega)]; exact h.c0 i
  · by_cases e : k = i
    · subst e
      rw [World.cell?_setCell_same _ _ _ (u := cs1[k]) (by rw [h.c1]; simp [hk])]
      simp [hk]
    · rw [World.cell?_setCell_other _ _ _ _ (fun hh => e (by injection hh)), h.c1, Array.getElem?_setIfInBounds_ne e]
  · rw [World.frozen?_setCell]; exact h.f0 i
  · rw [World.frozen?_setCell]; exact h.f1 i
theorem ext01 (a b c : UInt8) : (⟨#[a, b, c]⟩ : ByteArray).extract 0 1 = ⟨#[a]⟩ := rfl
theorem ext23 (a b c : UInt8) : (⟨#[a, b, c]⟩ : ByteArray).extract 2 3 = ⟨#[c]⟩ := rfl
theorem u8_ne {b : UInt8} {n : UInt8} (h : b ≠ n) : ((b.toNat : Int) == (n.toNat : Int)) = false := by
  rw [u8_beq]; simpa using h
set_option maxHeartbeats 4000000 in
theorem spRead42 (a c : UInt8) (w : World) :
    Calls Try.prog 17 #[.string ⟨#[a, 42, c]⟩] w fun e w' => e = .returned (readV ⟨#[a, 42, c]⟩) ∧ Below w.heap.size w w' := by
  have hq : spRule a 42 c = ⟨0, ⟨#[a]⟩, ⟨#[]⟩, (dg c)⟩ := rfl
  have HD : Hid (∀ W, Calls Try.prog 44 #[.string ((⟨#[a, 42, c]⟩ : ByteArray).extract 2 3)] W fun e w' => e = .returned (.int .i64 (dg c)) ∧ Below W.heap.size W w') := Lib.hid (fun W => l1Digits_one c W)
  have HRT : Hid (∀ W, Calls Try.prog 45 #[.agg #[.int .i64 0, .string ((⟨#[a, 42, c]⟩ : ByteArray).extract 0 1), .string ⟨#[]⟩, .int .i64 (dg c)]] W fun e w' => e = .returned (.string (rText (spRule a 42 c))) ∧ Below W.heap.size W w') := Lib.hid (fun W => by rw [hq]; exact specRuleText_any _ _ _ _ W)
  clear hq
  have T0 := TwoB.new w #[.int .i64 0, .string ⟨#[]⟩, .string ⟨#[]⟩, .int .i64 0] #[.int .i64 0, .string ((⟨#[a, 42, c]⟩ : ByteArray).extract 0 1), .string ⟨#[]⟩, .int .i64 0] 30 30
  go_enter Try.func17, Try.ntmps17
  go_wp2_with fail
  refine (HD.out _).mono ?_
  rintro e w1 ⟨rfl, hb1⟩
  have T1 := Lib.hid ((T0).call hb1)
  clear hb1 T0
  have y0 := T1.out.c1 0
  have y1 := T1.out.c1 1
  have y2 := T1.out.c1 2
  have y3 := T1.out.c1 3
  have f3 := T1.out.f1 3
  simp only [List.getElem?_toArray, List.getElem?_cons_zero, List.getElem?_cons_succ] at y0 y1 y2 y3
  go_wp2_with fail
  have T2 := Lib.hid (T1.out.set1 3 (.int .i64 (dg c)) (by show 3 < 4; decide))
  clear y0 y1 y2 y3 f3
  by_cases hok : (ruleOf a 42 c).ok = true
  · have HV := Lib.hid (show readV ⟨#[a, 42, c]⟩ = .tuple #[.agg #[.int .i64 0, .string ((⟨#[a, 42, c]⟩ : ByteArray).extract 0 1), .string ⟨#[]⟩, .int .i64 (dg c)], .bool true] by rw [readV, readR_yes hok, ← spRule_eq hok]; rfl)
    have ht := spText_yes hok
    rw [ht] at HRT
    clear ht
    refine (HRT.out _).mono ?_
    rintro e w2 ⟨rfl, hb2⟩
    have T3 := Lib.hid (T2.out.call hb2)
    clear hb2
    have y0 := T3.out.c1 0
    have y1 := T3.out.c1 1
    have y2 := T3.out.c1 2
    have y3 := T3.out.c1 3
    have z0 := T3.out.c0 0
    have z1 := T3.out.c0 1
    have z2 := T3.out.c0 2
    have z3 := T3.out.c0 3
    have f0 := T3.out.f0 0
    have f1 := T3.out.f0 1
    have f2 := T3.out.f0 2
    have f3 := T3.out.f0 3
    simp only [List.getElem?_toArray, List.getElem?_cons_zero, List.getElem?_cons_succ, List.setIfInBounds_toArray, List.set_cons_zero, List.set_cons_succ] at y0 y1 y2 y3 z0 z1 z2 z3
    go_wp2_with fail
    refine bodyPost_ret (v := .tuple #[.agg #[.int .i64 0, .string ((⟨#[a, 42, c]⟩ : ByteArray).extract 0 1), .string ⟨#[]⟩, .int .i64 (dg c)], .bool true]) ?_ rfl ⟨by rw [HV.out], ?_⟩
    · simp [results, Try.results17, go_sem, z0, z1, z2, z3]
    · exact (((T3.out.bel.setCell (Nat.le_refl _) _).setCell (Nat.le_refl _) _).setCell (Nat.le_refl _) _).setCell (Nat.le_refl _) _
  · have hok' : (ruleOf a 42 c).ok = false := by simpa using hok
    clear hok
    have HV := Lib.hid (show readV ⟨#[a, 42, c]⟩ = .tuple #[.agg #[.int .i64 0, .string ⟨#[]⟩, .string ⟨#[]⟩, .int .i64 0], .bool false] by rw [readV, readR_no hok']; rfl)
    have ht : (rText (spRule a 42 c)).toList ≠ [a, 42, c] := fun h => spText_no hok' (bytes_ext (by rw [ByteArray.toList_eq] at h; simpa using h))
    have ht2 : ((rText (spRule a 42 c)).toList == [a, 42, c]) = false := by simpa using ht
    clear ht
    generalize rText (spRule a 42 c) = t at *
    refine (HRT.out _).mono ?_
    rintro e w2 ⟨rfl, hb2⟩
    have T3 := Lib.hid (T2.out.call hb2)
    clear hb2
    have y0 := T3.out.c1 0
    have y1 := T3.out.c1 1
    have y2 := T3.out.c1 2
    have y3 := T3.out.c1 3
    have z0 := T3.out.c0 0
    have z1 := T3.out.c0 1
    have z2 := T3.out.c0 2
    have z3 := T3.out.c0 3
    have f0 := T3.out.f0 0
    have f1 := T3.out.f0 1
    have f2 := T3.out.f0 2
    have f3 := T3.out.f0 3
    simp only [List.getElem?_toArray, List.getElem?_cons_zero, List.getElem?_cons_succ, List.setIfInBounds_toArray, List.set_cons_zero, List.set_cons_succ] at y0 y1 y2 y3 z0 z1 z2 z3
    go_wp2_with fail
    refine bodyPost_ret (v := .tuple #[.agg #[.int .i64 0, .string ⟨#[]⟩, .string ⟨#[]⟩, .int .i64 0], .bool false]) ?_ rfl ⟨by rw [HV.out], ?_⟩
    · simp [results, Try.results17, go_sem, z0, z1, z2, z3]
    · exact (((T3.out.bel.setCell (Nat.le_refl _) _).setCell (Nat.le_refl _) _).setCell (Nat.le_refl _) _).setCell (Nat.le_refl _) _
set_option maxHeartbeats 4000000 in
theorem spRead94 (a c : UInt8) (w : World) :
    Calls Try.prog 17 #[.string ⟨#[a, 94, c]⟩] w fun e w' => e = .returned (readV ⟨#[a, 94, c]⟩) ∧ Below w.heap.size w w' := by
  have hq : spRule a 94 c = ⟨1, ⟨#[a]⟩, ⟨#[]⟩, (dg c)⟩ := rfl
  have HD : Hid (∀ W, Calls Try.prog 44 #[.string ((⟨#[a, 94, c]⟩ : ByteArray).extract 2 3)] W fun e w' => e = .returned (.int .i64 (dg c)) ∧ Below W.heap.size W w') := Lib.hid (fun W => l1Digits_one c W)
  have HRT : Hid (∀ W, Calls Try.prog 45 #[.agg #[.int .i64 1, .string ((⟨#[a, 94, c]⟩ : ByteArray).extract 0 1), .string ⟨#[]⟩, .int .i64 (dg c)]] W fun e w' => e = .returned (.string (rText (spRule a 94 c))) ∧ Below W.heap.size W w') := Lib.hid (fun W => by rw [hq]; exact specRuleText_any _ _ _ _ W)
  clear hq
  have T0 := TwoB.new w #[.int .i64 0, .string ⟨#[]⟩, .string ⟨#[]⟩, .int .i64 0] #[.int .i64 1, .string ((⟨#[a, 94, c]⟩ : ByteArray).extract 0 1), .string ⟨#[]⟩, .int .i64 0] 30 30
  go_enter Try.func17, Try.ntmps17
  go_wp2_with fail
  refine (HD.out _).mono ?_
  rintro e w1 ⟨rfl, hb1⟩
  have T1 := Lib.hid (T0.call hb1)
  clear hb1 T0
  have y0 := T1.out.c1 0
  have y1 := T1.out.c1 1
  have y2 := T1.out.c1 2
  have y3 := T1.out.c1 3
  have f3 := T1.out.f1 3
  simp only [List.getElem?_toArray, List.getElem?_cons_zero, List.getElem?_cons_succ] at y0 y1 y2 y3
  go_wp2_with fail
  have T2 := Lib.hid (T1.out.set1 3 (.int .i64 (dg c)) (by show 3 < 4; decide))
  clear y0 y1 y2 y3 f3
  by_cases hok : (ruleOf a 94 c).ok = true
  · have HV := Lib.hid (show readV ⟨#[a, 94, c]⟩ = .tuple #[.agg #[.int .i64 1, .string ((⟨#[a, 94, c]⟩ : ByteArray).extract 0 1), .string ⟨#[]⟩, .int .i64 (dg c)], .bool true] by rw [readV, readR_yes hok, ← spRule_eq hok]; rfl)
    have ht := spText_yes hok
    rw [ht] at HRT
    clear ht
    refine (HRT.out _).mono ?_
    rintro e w2 ⟨rfl, hb2⟩
    have T3 := Lib.hid (T2.out.call hb2)
    clear hb2
    have y0 := T3.out.c1 0
    have y1 := T3.out.c1 1
    have y2 := T3.out.c1 2
    have y3 := T3.out.c1 3
    have z0 := T3.out.c0 0
    have z1 := T3.out.c0 1
    have z2 := T3.out.c0 2
    have z3 := T3.out.c0 3
    have f0 := T3.out.f0 0
    have f1 := T3.out.f0 1
    have f2 := T3.out.f0 2
    have f3 := T3.out.f0 3
    simp only [List.getElem?_toArray, List.getElem?_cons_zero, List.getElem?_cons_succ, List.setIfInBounds_toArray, List.set_cons_zero, List.set_cons_succ] at y0 y1 y2 y3 z0 z1 z2 z3
    go_wp2_with fail
    refine bodyPost_ret (v := .tuple #[.agg #[.int .i64 1, .string ((⟨#[a, 94, c]⟩ : ByteArray).extract 0 1), .string ⟨#[]⟩, .int .i64 (dg c)], .bool true]) ?_ rfl ⟨by rw [HV.out], ?_⟩
    · simp [results, Try.results17, go_sem, z0, z1, z2, z3]
    · exact (((T3.out.bel.setCell (Nat.le_refl _) _).setCell (Nat.le_refl _) _).setCell (Nat.le_refl _) _).setCell (Nat.le_refl _) _
  · have hok' : (ruleOf a 94 c).ok = false := by simpa using hok
    clear hok
    have HV := Lib.hid (show readV ⟨#[a, 94, c]⟩ = .tuple #[.agg #[.int .i64 0, .string ⟨#[]⟩, .string ⟨#[]⟩, .int .i64 0], .bool false] by rw [readV, readR_no hok']; rfl)
    have ht : (rText (spRule a 94 c)).toList ≠ [a, 94, c] := fun h => spText_no hok' (bytes_ext (by rw [ByteArray.toList_eq] at h; simpa using h))
    have ht2 : ((rText (spRule a 94 c)).toList == [a, 94, c]) = false := by simpa using ht
    clear ht
    generalize rText (spRule a 94 c) = t at *
    refine (HRT.out _).mono ?_
    rintro e w2 ⟨rfl, hb2⟩
    have T3 := Lib.hid (T2.out.call hb2)
    clear hb2
    have y0 := T3.out.c1 0
    have y1 := T3.out.c1 1
    have y2 := T3.out.c1 2
    have y3 := T3.out.c1 3
    have z0 := T3.out.c0 0
    have z1 := T3.out.c0 1
    have z2 := T3.out.c0 2
    have z3 := T3.out.c0 3
    have f0 := T3.out.f0 0
    have f1 := T3.out.f0 1
    have f2 := T3.out.f0 2
    have f3 := T3.out.f0 3
    simp only [List.getElem?_toArray, List.getElem?_cons_zero, List.getElem?_cons_succ, List.setIfInBounds_toArray, List.set_cons_zero, List.set_cons_succ] at y0 y1 y2 y3 z0 z1 z2 z3
    go_wp2_with fail
    refine bodyPost_ret (v := .tuple #[.agg #[.int .i64 0, .string ⟨#[]⟩, .string ⟨#[]⟩, .int .i64 0], .bool false]) ?_ rfl ⟨by rw [HV.out], ?_⟩
    · simp [results, Try.results17, go_sem, z0, z1, z2, z3]
    · exact (((T3.out.bel.setCell (Nat.le_refl _) _).setCell (Nat.le_refl _) _).setCell (Nat.le_refl _) _).setCell (Nat.le_refl _) _
set_option maxHeartbeats 4000000 in
theorem spRead47 (a c : UInt8) (w : World) :
    Calls Try.prog 17 #[.string ⟨#[a, 47, c]⟩] w fun e w' => e = .returned (readV ⟨#[a, 47, c]⟩) ∧ Below w.heap.size w w' := by
  have hq : spRule a 47 c = ⟨2, ⟨#[a]⟩, ⟨#[c]⟩, 0⟩ := rfl
  have HRT : Hid (∀ W, Calls Try.prog 45 #[.agg #[.int .i64 2, .string ((⟨#[a, 47, c]⟩ : ByteArray).extract 0 1), .string ((⟨#[a, 47, c]⟩ : ByteArray).extract 2 3), .int .i64 0]] W fun e w' => e = .returned (.string (rText (spRule a 47 c))) ∧ Below W.heap.size W w') := Lib.hid (fun W => by rw [hq]; exact specRuleText_any _ _ _ _ W)
  clear hq
  have T0 := TwoB.new w #[.int .i64 0, .string ⟨#[]⟩, .string ⟨#[]⟩, .int .i64 0] #[.int .i64 2, .string ((⟨#[a, 47, c]⟩ : ByteArray).extract 0 1), .string ((⟨#[a, 47, c]⟩ : ByteArray).extract 2 3), .int .i64 0] 30 30
  go_enter Try.func17, Try.ntmps17
  go_wp2_with fail
  have T2 := Lib.hid T0
  clear T0
  by_cases hok : (ruleOf a 47 c).ok = true
  · have HV := Lib.hid (show readV ⟨#[a, 47, c]⟩ = .tuple #[.agg #[.int .i64 2, .string ((⟨#[a, 47, c]⟩ : ByteArray).extract 0 1), .string ((⟨#[a, 47, c]⟩ : ByteArray).extract 2 3), .int .i64 0], .bool true] by rw [readV, readR_yes hok, ← spRule_eq hok]; rfl)
    have ht := spText_yes hok
    rw [ht] at HRT
    clear ht
    refine (HRT.out _).mono ?_
    rintro e w2 ⟨rfl, hb2⟩
    have T3 := Lib.hid (T2.out.call hb2)
    clear hb2
    have y0 := T3.out.c1 0
    have y1 := T3.out.c1 1
    have y2 := T3.out.c1 2
    have y3 := T3.out.c1 3
    have z0 := T3.out.c0 0
    have z1 := T3.out.c0 1
    have z2 := T3.out.c0 2
    have z3 := T3.out.c0 3
    have f0 := T3.out.f0 0
    have f1 := T3.out.f0 1
    have f2 := T3.out.f0 2
    have f3 := T3.out.f0 3
    simp only [List.getElem?_toArray, List.getElem?_cons_zero, List.getElem?_cons_succ] at y0 y1 y2 y3 z0 z1 z2 z3
    go_wp2_with fail
    refine bodyPost_ret (v := .tuple #[.agg #[.int .i64 2, .string ((⟨#[a, 47, c]⟩ : ByteArray).extract 0 1), .string ((⟨#[a, 47, c]⟩ : ByteArray).extract 2 3), .int .i64 0], .bool true]) ?_ rfl ⟨by rw [HV.out], ?_⟩
    · simp [results, Try.results17, go_sem, z0, z1, z2, z3]
    · exact (((T3.out.bel.setCell (Nat.le_refl _) _).setCell (Nat.le_refl _) _).setCell (Nat.le_refl _) _).setCell (Nat.le_refl _) _
  · have hok' : (ruleOf a 47 c).ok = false := by simpa using hok
    clear hok
    have HV := Lib.hid (show readV ⟨#[a, 47, c]⟩ = .tuple #[.agg #[.int .i64 0, .string ⟨#[]⟩, .string ⟨#[]⟩, .int .i64 0], .bool false] by rw [readV, readR_no hok']; rfl)
    have ht : (rText (spRule a 47 c)).toList ≠ [a, 47, c] := fun h => spText_no hok' (bytes_ext (by rw [ByteArray.toList_eq] at h; simpa using h))
    have ht2 : ((rText (spRule a 47 c)).toList == [a, 47, c]) = false := by simpa using ht
    clear ht
    generalize rText (spRule a 47 c) = t at *
    refine (HRT.out _).mono ?_
    rintro e w2 ⟨rfl, hb2⟩
    have T3 := Lib.hid (T2.out.call hb2)
    clear hb2
    have y0 := T3.out.c1 0
    have y1 := T3.out.c1 1
    have y2 := T3.out.c1 2
    have y3 := T3.out.c1 3
    have z0 := T3.out.c0 0
    have z1 := T3.out.c0 1
    have z2 := T3.out.c0 2
    have z3 := T3.out.c0 3
    have f0 := T3.out.f0 0
    have f1 := T3.out.f0 1
    have f2 := T3.out.f0 2
    have f3 := T3.out.f0 3
    simp only [List.getElem?_toArray, List.getElem?_cons_zero, List.getElem?_cons_succ] at y0 y1 y2 y3 z0 z1 z2 z3
    go_wp2_with fail
    refine bodyPost_ret (v := .tuple #[.agg #[.int .i64 0, .string ⟨#[]⟩, .string ⟨#[]⟩, .int .i64 0], .bool false]) ?_ rfl ⟨by rw [HV.out], ?_⟩
    · simp [results, Try.results17, go_sem, z0, z1, z2, z3]
    · exact (((T3.out.bel.setCell (Nat.le_refl _) _).setCell (Nat.le_refl _) _).setCell (Nat.le_refl _) _).setCell (Nat.le_refl _) _
set_option maxHeartbeats 4000000 in
theorem spRead60 (a c : UInt8) (w : World) :
    Calls Try.prog 17 #[.string ⟨#[a, 60, c]⟩] w fun e w' => e = .returned (readV ⟨#[a, 60, c]⟩) ∧ Below w.heap.size w w' := by
  have hq : spRule a 60 c = ⟨3, ⟨#[a]⟩, ⟨#[]⟩, (dg c)⟩ := rfl
  have HD : Hid (∀ W, Calls Try.prog 44 #[.string ((⟨#[a, 60, c]⟩ : ByteArray).extract 2 3)] W fun e w' => e = .returned (.int .i64 (dg c)) ∧ Below W.heap.size W w') := Lib.hid (fun W => l1Digits_one c W)
  have HRT : Hid (∀ W, Calls Try.prog 45 #[.agg #[.int .i64 3, .string ((⟨#[a, 60, c]⟩ : ByteArray).extract 0 1), .string ⟨#[]⟩, .int .i64 (dg c)]] W fun e w' => e = .returned (.string (rText (spRule a 60 c))) ∧ Below W.heap.size W w') := Lib.hid (fun W => by rw [hq]; exact specRuleText_any _ _ _ _ W)
  clear hq
  have T0 := TwoB.new w #[.int .i64 0, .string ⟨#[]⟩, .string ⟨#[]⟩, .int .i64 0] #[.int .i64 3, .string ((⟨#[a, 60, c]⟩ : ByteArray).extract 0 1), .string ⟨#[]⟩, .int .i64 0] 30 30
  go_enter Try.func17, Try.ntmps17
  go_wp2_with fail
  refine (HD.out _).mono ?_
  rintro e w1 ⟨rfl, hb1⟩
  have T1 := Lib.hid (T0.call hb1)
  clear hb1 T0
  have y0 := T1.out.c1 0
  have y1 := T1.out.c1 1
  have y2 := T1.out.c1 2
  have y3 := T1.out.c1 3
  have f3 := T1.out.f1 3
  simp only [List.getElem?_toArray, List.getElem?_cons_zero, List.getElem?_cons_succ] at y0 y1 y2 y3
  go_wp2_with fail
  have T2 := Lib.hid (T1.out.set1 3 (.int .i64 (dg c)) (by show 3 < 4; decide))
  clear y0 y1 y2 y3 f3
  by_cases hok : (ruleOf a 60 c).ok = true
  · have HV := Lib.hid (show readV ⟨#[a, 60, c]⟩ = .tuple #[.agg #[.int .i64 3, .string ((⟨#[a, 60, c]⟩ : ByteArray).extract 0 1), .string ⟨#[]⟩, .int .i64 (dg c)], .bool true] by rw [readV, readR_yes hok, ← spRule_eq hok]; rfl)
    have ht := spText_yes hok
    rw [ht] at HRT
    clear ht
    refine (HRT.out _).mono ?_
    rintro e w2 ⟨rfl, hb2⟩
    have T3 := Lib.hid (T2.out.call hb2)
    clear hb2
    have y0 := T3.out.c1 0
    have y1 := T3.out.c1 1
    have y2 := T3.out.c1 2
    have y3 := T3.out.c1 3
    have z0 := T3.out.c0 0
    have z1 := T3.out.c0 1
    have z2 := T3.out.c0 2
    have z3 := T3.out.c0 3
    have f0 := T3.out.f0 0
    have f1 := T3.out.f0 1
    have f2 := T3.out.f0 2
    have f3 := T3.out.f0 3
    simp only [List.getElem?_toArray, List.getElem?_cons_zero, List.getElem?_cons_succ, List.setIfInBounds_toArray, List.set_cons_zero, List.set_cons_succ] at y0 y1 y2 y3 z0 z1 z2 z3
    go_wp2_with fail
    refine bodyPost_ret (v := .tuple #[.agg #[.int .i64 3, .string ((⟨#[a, 60, c]⟩ : ByteArray).extract 0 1), .string ⟨#[]⟩, .int .i64 (dg c)], .bool true]) ?_ rfl ⟨by rw [HV.out], ?_⟩
    · simp [results, Try.results17, go_sem, z0, z1, z2, z3]
    · exact (((T3.out.bel.setCell (Nat.le_refl _) _).setCell (Nat.le_refl _) _).setCell (Nat.le_refl _) _).setCell (Nat.le_refl _) _
  · have hok' : (ruleOf a 60 c).ok = false := by simpa using hok
    clear hok
    have HV := Lib.hid (show readV ⟨#[a, 60, c]⟩ = .tuple #[.agg #[.int .i64 0, .string ⟨#[]⟩, .string ⟨#[]⟩, .int .i64 0], .bool false] by rw [readV, readR_no hok']; rfl)
    have ht : (rText (spRule a 60 c)).toList ≠ [a, 60, c] := fun h => spText_no hok' (bytes_ext (by rw [ByteArray.toList_eq] at h; simpa using h))
    have ht2 : ((rText (spRule a 60 c)).toList == [a, 60, c]) = false := by simpa using ht
    clear ht
    generalize rText (spRule a 60 c) = t at *
    refine (HRT.out _).mono ?_
    rintro e w2 ⟨rfl, hb2⟩
    have T3 := Lib.hid (T2.out.call hb2)
    clear hb2
    have y0 := T3.out.c1 0
    have y1 := T3.out.c1 1
    have y2 := T3.out.c1 2
    have y3 := T3.out.c1 3
    have z0 := T3.out.c0 0
    have z1 := T3.out.c0 1
    have z2 := T3.out.c0 2
    have z3 := T3.out.c0 3
    have f0 := T3.out.f0 0
    have f1 := T3.out.f0 1
    have f2 := T3.out.f0 2
    have f3 := T3.out.f0 3
    simp only [List.getElem?_toArray, List.getElem?_cons_zero, List.getElem?_cons_succ, List.setIfInBounds_toArray, List.set_cons_zero, List.set_cons_succ] at y0 y1 y2 y3 z0 z1 z2 z3
    go_wp2_with fail
    refine bodyPost_ret (v := .tuple #[.agg #[.int .i64 0, .string ⟨#[]⟩, .string ⟨#[]⟩, .int .i64 0], .bool false]) ?_ rfl ⟨by rw [HV.out], ?_⟩
    · simp [results, Try.results17, go_sem, z0, z1, z2, z3]
    · exact (((T3.out.bel.setCell (Nat.le_refl _) _).setCell (Nat.le_refl _) _).setCell (Nat.le_refl _) _).setCell (Nat.le_refl _) _
set_option maxHeartbeats 4000000 in
theorem spRead62 (a c : UInt8) (w : World) :
    Calls Try.prog 17 #[.string ⟨#[a, 62, c]⟩] w fun e w' => e = .returned (readV ⟨#[a, 62, c]⟩) ∧ Below w.heap.size w w' := by
  have hq : spRule a 62 c = ⟨4, ⟨#[a]⟩, ⟨#[]⟩, (dg c)⟩ := rfl
  have HD : Hid (∀ W, Calls Try.prog 44 #[.string ((⟨#[a, 62, c]⟩ : ByteArray).extract 2 3)] W fun e w' => e = .returned (.int .i64 (dg c)) ∧ Below W.heap.size W w') := Lib.hid (fun W => l1Digits_one c W)
  have HRT : Hid (∀ W, Calls Try.prog 45 #[.agg #[.int .i64 4, .string ((⟨#[a, 62, c]⟩ : ByteArray).extract 0 1), .string ⟨#[]⟩, .int .i64 (dg c)]] W fun e w' => e = .returned (.string (rText (spRule a 62 c))) ∧ Below W.heap.size W w') := Lib.hid (fun W => by rw [hq]; exact specRuleText_any _ _ _ _ W)
  clear hq
  have T0 := TwoB.new w #[.int .i64 0, .string ⟨#[]⟩, .string ⟨#[]⟩, .int .i64 0] #[.int .i64 4, .string ((⟨#[a, 62, c]⟩ : ByteArray).extract 0 1), .string ⟨#[]⟩, .int .i64 0] 30 30
  go_enter Try.func17, Try.ntmps17
  go_wp2_with fail
  refine (HD.out _).mono ?_
  rintro e w1 ⟨rfl, hb1⟩
  have T1 := Lib.hid (T0.call hb1)
  clear hb1 T0
  have y0 := T1.out.c1 0
  have y1 := T1.out.c1 1
  have y2 := T1.out.c1 2
  have y3 := T1.out.c1 3
  have f3 := T1.out.f1 3
  simp only [List.getElem?_toArray, List.getElem?_cons_zero, List.getElem?_cons_succ] at y0 y1 y2 y3
  go_wp2_with fail
  have T2 := Lib.hid (T1.out.set1 3 (.int .i64 (dg c)) (by show 3 < 4; decide))
  clear y0 y1 y2 y3 f3
  by_cases hok : (ruleOf a 62 c).ok = true
  · have HV := Lib.hid (show readV ⟨#[a, 62, c]⟩ = .tuple #[.agg #[.int .i64 4, .string ((⟨#[a, 62, c]⟩ : ByteArray).extract 0 1), .string ⟨#[]⟩, .int .i64 (dg c)], .bool true] by rw [readV, readR_yes hok, ← spRule_eq hok]; rfl)
    have ht := spText_yes hok
    rw [ht] at HRT
    clear ht
    refine (HRT.out _).mono ?_
    rintro e w2 ⟨rfl, hb2⟩
    have T3 := Lib.hid (T2.out.call hb2)
    clear hb2
    have y0 := T3.out.c1 0
    have y1 := T3.out.c1 1
    have y2 := T3.out.c1 2
    have y3 := T3.out.c1 3
    have z0 := T3.out.c0 0
    have z1 := T3.out.c0 1
    have z2 := T3.out.c0 2
    have z3 := T3.out.c0 3
    have f0 := T3.out.f0 0
    have f1 := T3.out.f0 1
    have f2 := T3.out.f0 2
    have f3 := T3.out.f0 3
    simp only [List.getElem?_toArray, List.getElem?_cons_zero, List.getElem?_cons_succ, List.setIfInBounds_toArray, List.set_cons_zero, List.set_cons_succ] at y0 y1 y2 y3 z0 z1 z2 z3
    go_wp2_with fail
    refine bodyPost_ret (v := .tuple #[.agg #[.int .i64 4, .string ((⟨#[a, 62, c]⟩ : ByteArray).extract 0 1), .string ⟨#[]⟩, .int .i64 (dg c)], .bool true]) ?_ rfl ⟨by rw [HV.out], ?_⟩
    · simp [results, Try.results17, go_sem, z0, z1, z2, z3]
    · exact (((T3.out.bel.setCell (Nat.le_refl _) _).setCell (Nat.le_refl _) _).setCell (Nat.le_refl _) _).setCell (Nat.le_refl _) _
  · have hok' : (ruleOf a 62 c).ok = false := by simpa using hok
    clear hok
    have HV := Lib.hid (show readV ⟨#[a, 62, c]⟩ = .tuple #[.agg #[.int .i64 0, .string ⟨#[]⟩, .string ⟨#[]⟩, .int .i64 0], .bool false] by rw [readV, readR_no hok']; rfl)
    have ht : (rText (spRule a 62 c)).toList ≠ [a, 62, c] := fun h => spText_no hok' (bytes_ext (by rw [ByteArray.toList_eq] at h; simpa using h))
    have ht2 : ((rText (spRule a 62 c)).toList == [a, 62, c]) = false := by simpa using ht
    clear ht
    generalize rText (spRule a 62 c) = t at *
    refine (HRT.out _).mono ?_
    rintro e w2 ⟨rfl, hb2⟩
    have T3 := Lib.hid (T2.out.call hb2)
    clear hb2
    have y0 := T3.out.c1 0
    have y1 := T3.out.c1 1
    have y2 := T3.out.c1 2
    have y3 := T3.out.c1 3
    have z0 := T3.out.c0 0
    have z1 := T3.out.c0 1
    have z2 := T3.out.c0 2
    have z3 := T3.out.c0 3
    have f0 := T3.out.f0 0
    have f1 := T3.out.f0 1
    have f2 := T3.out.f0 2
    have f3 := T3.out.f0 3
    simp only [List.getElem?_toArray, List.getElem?_cons_zero, List.getElem?_cons_succ, List.setIfInBounds_toArray, List.set_cons_zero, List.set_cons_succ] at y0 y1 y2 y3 z0 z1 z2 z3
    go_wp2_with fail
    refine bodyPost_ret (v := .tuple #[.agg #[.int .i64 0, .string ⟨#[]⟩, .string ⟨#[]⟩, .int .i64 0], .bool false]) ?_ rfl ⟨by rw [HV.out], ?_⟩
    · simp [results, Try.results17, go_sem, z0, z1, z2, z3]
    · exact (((T3.out.bel.setCell (Nat.le_refl _) _).setCell (Nat.le_refl _) _).setCell (Nat.le_refl _) _).setCell (Nat.le_refl _) _
set_option maxHeartbeats 4000000 in
theorem spReadB (a b c : UInt8) (w : World) (h42 : b ≠ 42) (h94 : b ≠ 94) (h47 : b ≠ 47) (h60 : b ≠ 60) (h62 : b ≠ 62) :
    Calls Try.prog 17 #[.string ⟨#[a, b, c]⟩] w fun e w' => e = .returned (readV ⟨#[a, b, c]⟩) ∧ Below w.heap.size w w' := by
  have n42 : ((((⟨#[a, b, c]⟩ : ByteArray)[1]'(by show 1 < 3; decide)).toNat : Int) == 42) = false := by
    have e : ((⟨#[a, b, c]⟩ : ByteArray)[1]'(by show 1 < 3; decide)) = b := rfl
    rw [e]
    exact u8_ne h42
  have n94 : ((((⟨#[a, b, c]⟩ : ByteArray)[1]'(by show 1 < 3; decide)).toNat : Int) == 94) = false := by
    have e : ((⟨#[a, b, c]⟩ : ByteArray)[1]'(by show 1 < 3; decide)) = b := rfl
    rw [e]
    exact u8_ne h94
  have n47 : ((((⟨#[a, b, c]⟩ : ByteArray)[1]'(by show 1 < 3; decide)).toNat : Int) == 47) = false := by
    have e : ((⟨#[a, b, c]⟩ : ByteArray)[1]'(by show 1 < 3; decide)) = b := rfl
    rw [e]
    exact u8_ne h47
  have n60 : ((((⟨#[a, b, c]⟩ : ByteArray)[1]'(by show 1 < 3; decide)).toNat : Int) == 60) = false := by
    have e : ((⟨#[a, b, c]⟩ : ByteArray)[1]'(by show 1 < 3; decide)) = b := rfl
    rw [e]
    exact u8_ne h60
  have n62 : ((((⟨#[a, b, c]⟩ : ByteArray)[1]'(by show 1 < 3; decide)).toNat : Int) == 62) = false := by
    have e : ((⟨#[a, b, c]⟩ : ByteArray)[1]'(by show 1 < 3; decide)) = b := rfl
    rw [e]
    exact u8_ne h62
  have hq : spRule a b c = ⟨0, ⟨#[a]⟩, ⟨#[]⟩, dg c⟩ := by simp [spRule, spKind, h94, h47, h60, h62]
  have hok' : (ruleOf a b c).ok = false := by
    cases hx : (ruleOf a b c).ok with
    | false => rfl
    | true =>
      rcases sign_cases hx with h | h | h | h | h
      · exact absurd h h42
      · exact absurd h h94
      · exact absurd h h47
      · exact absurd h h60
      · exact absurd h h62
  clear h42 h94 h47 h60 h62
  have HD : Hid (∀ W, Calls Try.prog 44 #[.string ((⟨#[a, b, c]⟩ : ByteArray).extract 2 3)] W fun e w' => e = .returned (.int .i64 (dg c)) ∧ Below W.heap.size W w') := Lib.hid (fun W => l1Digits_one c W)
  have HRT : Hid (∀ W, Calls Try.prog 45 #[.agg #[.int .i64 0, .string ((⟨#[a, b, c]⟩ : ByteArray).extract 0 1), .string ⟨#[]⟩, .int .i64 (dg c)]] W fun e w' => e = .returned (.string (rText (spRule a b c))) ∧ Below W.heap.size W w') := Lib.hid (fun W => by rw [hq]; exact specRuleText_any _ _ _ _ W)
  clear hq
  have T0 := TwoB.new w #[.int .i64 0, .string ⟨#[]⟩, .string ⟨#[]⟩, .int .i64 0] #[.int .i64 0, .string ((⟨#[a, b, c]⟩ : ByteArray).extract 0 1), .string ⟨#[]⟩, .int .i64 0] 30 30
  go_enter Try.func17, Try.ntmps17
  go_wp2_with fail
  refine (HD.out _).mono ?_
  rintro e w1 ⟨rfl, hb1⟩
  have T1 := Lib.hid ((T0).call hb1)
  clear hb1 T0
  have y0 := T1.out.c1 0
  have y1 := T1.out.c1 1
  have y2 := T1.out.c1 2
  have y3 := T1.out.c1 3
  have f3 := T1.out.f1 3
  simp only [List.getElem?_toArray, List.getElem?_cons_zero, List.getElem?_cons_succ] at y0 y1 y2 y3
  go_wp2_with fail
  have T2 := Lib.hid (T1.out.set1 3 (.int .i64 (dg c)) (by show 3 < 4; decide))
  clear y0 y1 y2 y3 f3
  have HV := Lib.hid (show readV ⟨#[a, b, c]⟩ = .tuple #[.agg #[.int .i64 0, .string ⟨#[]⟩, .string ⟨#[]⟩, .int .i64 0], .bool false] by rw [readV, readR_no hok']; rfl)
  have ht : (rText (spRule a b c)).toList ≠ [a, b, c] := fun h => spText_no hok' (bytes_ext (by rw [ByteArray.toList_eq] at h; simpa using h))
  have ht2 : ((rText (spRule a b c)).toList == [a, b, c]) = false := by simpa using ht
  clear ht
  generalize rText (spRule a b c) = t at *
  refine (HRT.out _).mono ?_
  rintro e w2 ⟨rfl, hb2⟩
  have T3 := Lib.hid (T2.out.call hb2)
  clear hb2
  have y0 := T3.out.c1 0
  have y1 := T3.out.c1 1
  have y2 := T3.out.c1 2
  have y3 := T3.out.c1 3
  have z0 := T3.out.c0 0
  have z1 := T3.out.c0 1
  have z2 := T3.out.c0 2
  have z3 := T3.out.c0 3
  have f0 := T3.out.f0 0
  have f1 := T3.out.f0 1
  have f2 := T3.out.f0 2
  have f3 := T3.out.f0 3
  simp only [List.getElem?_toArray, List.getElem?_cons_zero, List.getElem?_cons_succ, List.setIfInBounds_toArray, List.set_cons_zero, List.set_cons_succ] at y0 y1 y2 y3 z0 z1 z2 z3
  go_wp2_with fail
  refine bodyPost_ret (v := .tuple #[.agg #[.int .i64 0, .string ⟨#[]⟩, .string ⟨#[]⟩, .int .i64 0], .bool false]) ?_ rfl ⟨by rw [HV.out], ?_⟩
  · simp [results, Try.results17, go_sem, z0, z1, z2, z3]
  · exact (((T3.out.bel.setCell (Nat.le_refl _) _).setCell (Nat.le_refl _) _).setCell (Nat.le_refl _) _).setCell (Nat.le_refl _) _
theorem specReadRule_any (s : ByteArray) (w : World) (hs : s.size ≤ maxLen) :
    Calls Try.prog 17 #[.string s] w fun e w' => e = .returned (readV s) ∧ Below w.heap.size w w' := by
  unfold maxLen at hs
  by_cases h3 : s.size = 3
  · obtain ⟨a, b, c, rfl⟩ := three_bytes h3
    clear h3 hs
    by_cases h42 : b = 42
    · subst h42; exact spRead42 a c w
    by_cases h94 : b = 94
    · subst h94; exact spRead94 a c w
    by_cases h47 : b = 47
    · subst h47; exact spRead47 a c w
    by_cases h60 : b = 60
    · subst h60; exact spRead60 a c w
    by_cases h62 : b = 62
    · subst h62; exact spRead62 a c w
    exact spReadB a b c w h42 h94 h47 h60 h62
  · have HE := Lib.hid (show readV s = .tuple #[.agg #[.int .i64 0, .string ⟨#[]⟩, .string ⟨#[]⟩, .int .i64 0], .bool false] by rw [readV, readR_size h3]; rfl)
    have h3' : ((s.size : Int) != 3) = true := by simp; omega
    clear h3
    go_enter Try.func17, Try.ntmps17
    go_wp2_with fail
    refine bodyPost_ret (v := .tuple #[.agg #[.int .i64 0, .string ⟨#[]⟩, .string ⟨#[]⟩, .int .i64 0], .bool false]) ?_ rfl ⟨by rw [HE.out], ?_⟩
    · simp [results, Try.results17, go_sem]
    · exact (Below.refl _ _).alloc (Nat.le_refl _) _
end Go.Proofs.Ytlfjecaffmfgcaa
