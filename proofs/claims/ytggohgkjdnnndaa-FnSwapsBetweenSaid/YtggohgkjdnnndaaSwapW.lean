/- The table of wishes: wishesOn, canBeMet, swaps of the program, l11Day of the model. No condition. -/
import Derived.Test.YtggohgkjdnnndaaSwapAl
namespace Go.Proofs.Ytggohgkjdnnndaa
open Go.RowKit

/-- a table of nine numbers in one block -/
structure Tbl (w : World) (g : Nat) (f : Nat → Int) : Prop where
  lt : g < w.heap.size
  cell : ∀ p, p < 9 → w.cell? ⟨g, p, none⟩ = some (.int .i64 (f p))
  frozen : ∀ p, w.frozen? ⟨g, p, none⟩ = false
/-- how many of the first k places have the pair p of letters -/
def wTo (s t : ByteArray) (k : Nat) (p : Nat) : Int := cntTo (fun j => Nat.beq (lc (byteAt s j) * 3 + lc (byteAt t j)) p) k
theorem wTo_bd (s t : ByteArray) (k p : Nat) : 0 ≤ wTo s t k p ∧ wTo s t k p ≤ k := cntTo_bd _ _
theorem wTo_at (s t : ByteArray) (k : Nat) : wTo s t (k + 1) (lc (byteAt s k) * 3 + lc (byteAt t k)) = wTo s t k (lc (byteAt s k) * 3 + lc (byteAt t k)) + 1 := by
  simp [wTo, cntTo]
theorem wTo_ne (s t : ByteArray) (k p : Nat) (h : p ≠ lc (byteAt s k) * 3 + lc (byteAt t k)) : wTo s t (k + 1) p = wTo s t k p := by
  have : Nat.beq (lc (byteAt s k) * 3 + lc (byteAt t k)) p = false := by
    cases e : Nat.beq (lc (byteAt s k) * 3 + lc (byteAt t k)) p with
    | false => rfl
    | true => exact absurd ((nbeq _ _).1 e).symm h
  simp [wTo, cntTo, this]
theorem Tbl.inc {w : World} {g : Nat} {s t : ByteArray} {k : Nat} (h : Tbl w g (wTo s t k)) :
    Tbl (w.setCell ⟨g, lc (byteAt s k) * 3 + lc (byteAt t k), none⟩ (.int .i64 (wTo s t k (lc (byteAt s k) * 3 + lc (byteAt t k)) + 1))) g (wTo s t (k + 1)) := by
  have h1 := lc_lt (byteAt s k)
  have h2 := lc_lt (byteAt t k)
  refine ⟨by rw [World.size_setCell]; exact h.lt, fun p hp => ?_, fun p => by rw [World.frozen?_setCell]; exact h.frozen p⟩
  by_cases e : p = lc (byteAt s k) * 3 + lc (byteAt t k)
  · subst e
    rw [World.cell?_setCell_same _ _ _ (h.cell _ (by omega)), wTo_at]
  · rw [World.cell?_setCell_other _ _ _ _ (by intro e2; injection e2 with _ e3; exact e e3.symm), h.cell p hp, wTo_ne _ _ _ _ e]
theorem Tbl.below {w w' : World} {g : Nat} {f : Nat → Int} (h : Tbl w g f) (hb : Below w.heap.size w w') : Tbl w' g f :=
  ⟨Nat.lt_of_lt_of_le h.lt hb.size, fun p hp => (hb.cell (p := ⟨g, p, none⟩) h.lt).trans (h.cell p hp), fun p => (hb.frozen (p := ⟨g, p, none⟩) h.lt).trans (h.frozen p)⟩
theorem Tbl.other {w : World} {g : Nat} {f : Nat → Int} (h : Tbl w g f) {b : Nat} (hb : b ≠ g) (q : Nat) (v : Value) : Tbl (w.setCell ⟨b, q, none⟩ v) g f :=
  ⟨by rw [World.size_setCell]; exact h.lt, fun p hp => (World.cell?_setCell_far w _ _ _ (by exact hb)).trans (h.cell p hp), fun p => by rw [World.frozen?_setCell]; exact h.frozen p⟩
theorem Tbl.drew {w : World} {g : Nat} {f : Nat → Int} (h : Tbl w g f) : Tbl w.drew g f := ⟨h.lt, h.cell, h.frozen⟩
theorem Tbl.new (w : World) (t : TypeId) (zs : Array Value) (f : Nat → Int) (hz : ∀ p, p < 9 → zs[p]? = some (.int .i64 (f p))) : Tbl (w.alloc (.cells zs t)) w.heap.size f :=
  ⟨by rw [World.size_alloc]; exact Nat.lt_succ_self _, fun p hp => by rw [World.cell?_alloc_new]; exact hz p hp, fun p => World.frozen?_alloc_new w _ _ p⟩
theorem Tbl.alloc {w : World} {g : Nat} {f : Nat → Int} (h : Tbl w g f) (o : Obj) : Tbl (w.alloc o) g f :=
  h.below ((Below.refl _ _).alloc (Nat.le_refl _) o)
/-- nine numbers as one value -/
def tblV (f : Nat → Int) : Value := .agg #[.int .i64 (f 0), .int .i64 (f 1), .int .i64 (f 2), .int .i64 (f 3), .int .i64 (f 4), .int .i64 (f 5), .int .i64 (f 6), .int .i64 (f 7), .int .i64 (f 8)]
theorem zeros9 (p : Nat) (hp : p < 9) : (#[.int .i64 0, .int .i64 0, .int .i64 0, .int .i64 0, .int .i64 0, .int .i64 0, .int .i64 0, .int .i64 0, .int .i64 0] : Array Value)[p]? = some (.int .i64 0) := by
  have : p = 0 ∨ p = 1 ∨ p = 2 ∨ p = 3 ∨ p = 4 ∨ p = 5 ∨ p = 6 ∨ p = 7 ∨ p = 8 := by omega
  rcases this with rfl | rfl | rfl | rfl | rfl | rfl | rfl | rfl | rfl <;> rfl
theorem index_lc (c : UInt8) (h : isL c = true) (w : World) :
    Calls Try.prog 76 #[.string ⟨#[114, 100, 110]⟩, .int .u8 (c.toNat : Int)] w fun e w' => e = .returned (.int .i64 (lc c : Int)) ∧ w' = w := by
  refine (strings_IndexByte _ _ _).mono ?_
  rintro e w' ⟨rfl, rfl⟩
  refine ⟨ret_int ?_, rfl⟩
  rcases isL_cases h with rfl | rfl | rfl <;> decide

set_option maxHeartbeats 3200000 in
theorem wishesOn_any (s t : ByteArray) (w : World) (hs : s.size ≤ 4) (he : t.size = s.size) (h1 : wordOk s = true) (h2 : wordOk t = true) :
    Calls Try.prog 57 #[.string s, .string t] w fun e w' => e = .returned (tblV (wTo s t s.size)) ∧ Below w.heap.size w w' := by
  have HI := Lib.hid (fun c h W => index_lc c h W)
  have HW1 := Lib.hid h1
  have HW2 := Lib.hid h2
  clear h1 h2
  go_enter Try.func57, Try.ntmps57
  go_wp2_with fail
  go_loopw [6, 9] (fun rv iv wr => ∃ (k : Nat), k ≤ s.size ∧ iv = .int .i64 (k : Int) ∧ Hid (Tbl wr (w.heap.size + 1) (wTo s t k)) ∧ Hid (Tbl wr w.heap.size (fun _ => 0)) ∧ Hid (Below w.heap.size w wr)) (fun _ iv _ => s.size - (intOf iv).toNat)
  case atStart =>
    have T0 := Tbl.new w 62 #[.int .i64 0, .int .i64 0, .int .i64 0, .int .i64 0, .int .i64 0, .int .i64 0, .int .i64 0, .int .i64 0, .int .i64 0] (fun _ => 0) zeros9
    have T1 := Tbl.new (w.alloc (.cells #[.int .i64 0, .int .i64 0, .int .i64 0, .int .i64 0, .int .i64 0, .int .i64 0, .int .i64 0, .int .i64 0, .int .i64 0] 62)) 62 #[.int .i64 0, .int .i64 0, .int .i64 0, .int .i64 0, .int .i64 0, .int .i64 0, .int .i64 0, .int .i64 0, .int .i64 0] (wTo s t 0) zeros9
    rw [World.size_alloc] at T1
    exact ⟨0, Nat.zero_le _, rfl, Lib.hid T1, Lib.hid (T0.alloc _), Lib.hid (((Below.refl _ _).alloc (Nat.le_refl _) _).alloc (by simp) _)⟩
  case round =>
    obtain ⟨k, hk, rfl, HT, HZ, HBL⟩ := hrel
    by_cases hlt : k < s.size
    · have hlt2 : k < t.size := by omega
      have hki : (k : Int) < (s.size : Int) := by omega
      have hki2 : (k : Int) < (t.size : Int) := by omega
      have HA := Lib.hid (HI.out s[k] (by rw [byteAt_eq s k hlt]; exact isL_byteAt HW1.out k hlt))
      have HB := Lib.hid (HI.out t[k] (by rw [byteAt_eq t k hlt2]; exact isL_byteAt HW2.out k hlt2))
      have ha := lc_lt (byteAt s k)
      have hb := lc_lt (byteAt t k)
      have hv := wTo_bd s t k (lc (byteAt s k) * 3 + lc (byteAt t k))
      have hc := HT.out.cell _ (by omega : lc (byteAt s k) * 3 + lc (byteAt t k) < 9)
      have hf := HT.out.frozen (lc (byteAt s k) * 3 + lc (byteAt t k))
      have HN := Lib.hid HT.out.inc
      rw [show lc s[k] = lc (byteAt s k) from by rw [byteAt_eq s k hlt]] at HA
      rw [show lc t[k] = lc (byteAt t k) from by rw [byteAt_eq t k hlt2]] at HB
      generalize lc (byteAt s k) = A at *
      generalize lc (byteAt t k) = B at *
      have hai : (A : Int) < 3 := by omega
      have hbi : (B : Int) < 3 := by omega
      have hval : wTo s t k (A * 3 + B) ≤ 4 := by omega
      generalize wTo s t k (A * 3 + B) = cv at *
      go_wp2_with fail
      go_region_with (first | (go_at_call 76; with_reducible refine Calls.mono (HA.out _) ?_; rintro e w' ⟨rfl, rfl⟩) | (go_at_call 76; with_reducible refine Calls.mono (HB.out _) ?_; rintro e w' ⟨rfl, rfl⟩))
      all_goals
        go_wp2_with fail
        go_roundw
        case rel =>
          exact ⟨k + 1, by omega, by go_num, Lib.hid HN.out.drew, Lib.hid ((HZ.out.other (by omega) _ _).drew), Lib.hid ((HBL.out.setCell (p := ⟨w.heap.size + 1, A * 3 + B, none⟩) (Nat.le_succ _) _).drew)⟩
        case measure => simp [intOf]; omega
    · obtain rfl : k = s.size := by omega
      have c0 := HT.out.cell 0 (by omega)
      have c1 := HT.out.cell 1 (by omega)
      have c2 := HT.out.cell 2 (by omega)
      have c3 := HT.out.cell 3 (by omega)
      have c4 := HT.out.cell 4 (by omega)
      have c5 := HT.out.cell 5 (by omega)
      have c6 := HT.out.cell 6 (by omega)
      have c7 := HT.out.cell 7 (by omega)
      have c8 := HT.out.cell 8 (by omega)
      have d0 := HZ.out.cell 0 (by omega)
      have d1 := HZ.out.cell 1 (by omega)
      have d2 := HZ.out.cell 2 (by omega)
      have d3 := HZ.out.cell 3 (by omega)
      have d4 := HZ.out.cell 4 (by omega)
      have d5 := HZ.out.cell 5 (by omega)
      have d6 := HZ.out.cell 6 (by omega)
      have d7 := HZ.out.cell 7 (by omega)
      have d8 := HZ.out.cell 8 (by omega)
      have hfz := HZ.out.frozen
      go_wp2_with fail
      refine bodyPost_ret (v := tblV (wTo s t s.size)) ?_ rfl ⟨rfl, (((((((((HBL.out.setCell (p := ⟨w.heap.size, 0, none⟩) (Nat.le_refl _) (.int .i64 (wTo s t s.size 0))).setCell (p := ⟨w.heap.size, 1, none⟩) (Nat.le_refl _) (.int .i64 (wTo s t s.size 1))).setCell (p := ⟨w.heap.size, 2, none⟩) (Nat.le_refl _) (.int .i64 (wTo s t s.size 2))).setCell (p := ⟨w.heap.size, 3, none⟩) (Nat.le_refl _) (.int .i64 (wTo s t s.size 3))).setCell (p := ⟨w.heap.size, 4, none⟩) (Nat.le_refl _) (.int .i64 (wTo s t s.size 4))).setCell (p := ⟨w.heap.size, 5, none⟩) (Nat.le_refl _) (.int .i64 (wTo s t s.size 5))).setCell (p := ⟨w.heap.size, 6, none⟩) (Nat.le_refl _) (.int .i64 (wTo s t s.size 6))).setCell (p := ⟨w.heap.size, 7, none⟩) (Nat.le_refl _) (.int .i64 (wTo s t s.size 7))).setCell (p := ⟨w.heap.size, 8, none⟩) (Nat.le_refl _) (.int .i64 (wTo s t s.size 8)))⟩
      have r0 : (((((((((wr.setCell ⟨w.heap.size, 0, none⟩ (.int .i64 (wTo s t s.size 0))).setCell ⟨w.heap.size, 1, none⟩ (.int .i64 (wTo s t s.size 1))).setCell ⟨w.heap.size, 2, none⟩ (.int .i64 (wTo s t s.size 2))).setCell ⟨w.heap.size, 3, none⟩ (.int .i64 (wTo s t s.size 3))).setCell ⟨w.heap.size, 4, none⟩ (.int .i64 (wTo s t s.size 4))).setCell ⟨w.heap.size, 5, none⟩ (.int .i64 (wTo s t s.size 5))).setCell ⟨w.heap.size, 6, none⟩ (.int .i64 (wTo s t s.size 6))).setCell ⟨w.heap.size, 7, none⟩ (.int .i64 (wTo s t s.size 7))).setCell ⟨w.heap.size, 8, none⟩ (.int .i64 (wTo s t s.size 8))).cell? ⟨w.heap.size, 0, none⟩ = some (.int .i64 (wTo s t s.size 0)) := by go_simp
      have r1 : (((((((((wr.setCell ⟨w.heap.size, 0, none⟩ (.int .i64 (wTo s t s.size 0))).setCell ⟨w.heap.size, 1, none⟩ (.int .i64 (wTo s t s.size 1))).setCell ⟨w.heap.size, 2, none⟩ (.int .i64 (wTo s t s.size 2))).setCell ⟨w.heap.size, 3, none⟩ (.int .i64 (wTo s t s.size 3))).setCell ⟨w.heap.size, 4, none⟩ (.int .i64 (wTo s t s.size 4))).setCell ⟨w.heap.size, 5, none⟩ (.int .i64 (wTo s t s.size 5))).setCell ⟨w.heap.size, 6, none⟩ (.int .i64 (wTo s t s.size 6))).setCell ⟨w.heap.size, 7, none⟩ (.int .i64 (wTo s t s.size 7))).setCell ⟨w.heap.size, 8, none⟩ (.int .i64 (wTo s t s.size 8))).cell? ⟨w.heap.size, 1, none⟩ = some (.int .i64 (wTo s t s.size 1)) := by go_simp
      have r2 : (((((((((wr.setCell ⟨w.heap.size, 0, none⟩ (.int .i64 (wTo s t s.size 0))).setCell ⟨w.heap.size, 1, none⟩ (.int .i64 (wTo s t s.size 1))).setCell ⟨w.heap.size, 2, none⟩ (.int .i64 (wTo s t s.size 2))).setCell ⟨w.heap.size, 3, none⟩ (.int .i64 (wTo s t s.size 3))).setCell ⟨w.heap.size, 4, none⟩ (.int .i64 (wTo s t s.size 4))).setCell ⟨w.heap.size, 5, none⟩ (.int .i64 (wTo s t s.size 5))).setCell ⟨w.heap.size, 6, none⟩ (.int .i64 (wTo s t s.size 6))).setCell ⟨w.heap.size, 7, none⟩ (.int .i64 (wTo s t s.size 7))).setCell ⟨w.heap.size, 8, none⟩ (.int .i64 (wTo s t s.size 8))).cell? ⟨w.heap.size, 2, none⟩ = some (.int .i64 (wTo s t s.size 2)) := by go_simp
      have r3 : (((((((((wr.setCell ⟨w.heap.size, 0, none⟩ (.int .i64 (wTo s t s.size 0))).setCell ⟨w.heap.size, 1, none⟩ (.int .i64 (wTo s t s.size 1))).setCell ⟨w.heap.size, 2, none⟩ (.int .i64 (wTo s t s.size 2))).setCell ⟨w.heap.size, 3, none⟩ (.int .i64 (wTo s t s.size 3))).setCell ⟨w.heap.size, 4, none⟩ (.int .i64 (wTo s t s.size 4))).setCell ⟨w.heap.size, 5, none⟩ (.int .i64 (wTo s t s.size 5))).setCell ⟨w.heap.size, 6, none⟩ (.int .i64 (wTo s t s.size 6))).setCell ⟨w.heap.size, 7, none⟩ (.int .i64 (wTo s t s.size 7))).setCell ⟨w.heap.size, 8, none⟩ (.int .i64 (wTo s t s.size 8))).cell? ⟨w.heap.size, 3, none⟩ = some (.int .i64 (wTo s t s.size 3)) := by go_simp
      have r4 : (((((((((wr.setCell ⟨w.heap.size, 0, none⟩ (.int .i64 (wTo s t s.size 0))).setCell ⟨w.heap.size, 1, none⟩ (.int .i64 (wTo s t s.size 1))).setCell ⟨w.heap.size, 2, none⟩ (.int .i64 (wTo s t s.size 2))).setCell ⟨w.heap.size, 3, none⟩ (.int .i64 (wTo s t s.size 3))).setCell ⟨w.heap.size, 4, none⟩ (.int .i64 (wTo s t s.size 4))).setCell ⟨w.heap.size, 5, none⟩ (.int .i64 (wTo s t s.size 5))).setCell ⟨w.heap.size, 6, none⟩ (.int .i64 (wTo s t s.size 6))).setCell ⟨w.heap.size, 7, none⟩ (.int .i64 (wTo s t s.size 7))).setCell ⟨w.heap.size, 8, none⟩ (.int .i64 (wTo s t s.size 8))).cell? ⟨w.heap.size, 4, none⟩ = some (.int .i64 (wTo s t s.size 4)) := by go_simp
      have r5 : (((((((((wr.setCell ⟨w.heap.size, 0, none⟩ (.int .i64 (wTo s t s.size 0))).setCell ⟨w.heap.size, 1, none⟩ (.int .i64 (wTo s t s.size 1))).setCell ⟨w.heap.size, 2, none⟩ (.int .i64 (wTo s t s.size 2))).setCell ⟨w.heap.size, 3, none⟩ (.int .i64 (wTo s t s.size 3))).setCell ⟨w.heap.size, 4, none⟩ (.int .i64 (wTo s t s.size 4))).setCell ⟨w.heap.size, 5, none⟩ (.int .i64 (wTo s t s.size 5))).setCell ⟨w.heap.size, 6, none⟩ (.int .i64 (wTo s t s.size 6))).setCell ⟨w.heap.size, 7, none⟩ (.int .i64 (wTo s t s.size 7))).setCell ⟨w.heap.size, 8, none⟩ (.int .i64 (wTo s t s.size 8))).cell? ⟨w.heap.size, 5, none⟩ = some (.int .i64 (wTo s t s.size 5)) := by go_simp
      have r6 : (((((((((wr.setCell ⟨w.heap.size, 0, none⟩ (.int .i64 (wTo s t s.size 0))).setCell ⟨w.heap.size, 1, none⟩ (.int .i64 (wTo s t s.size 1))).setCell ⟨w.heap.size, 2, none⟩ (.int .i64 (wTo s t s.size 2))).setCell ⟨w.heap.size, 3, none⟩ (.int .i64 (wTo s t s.size 3))).setCell ⟨w.heap.size, 4, none⟩ (.int .i64 (wTo s t s.size 4))).setCell ⟨w.heap.size, 5, none⟩ (.int .i64 (wTo s t s.size 5))).setCell ⟨w.heap.size, 6, none⟩ (.int .i64 (wTo s t s.size 6))).setCell ⟨w.heap.size, 7, none⟩ (.int .i64 (wTo s t s.size 7))).setCell ⟨w.heap.size, 8, none⟩ (.int .i64 (wTo s t s.size 8))).cell? ⟨w.heap.size, 6, none⟩ = some (.int .i64 (wTo s t s.size 6)) := by go_simp
      have r7 : (((((((((wr.setCell ⟨w.heap.size, 0, none⟩ (.int .i64 (wTo s t s.size 0))).setCell ⟨w.heap.size, 1, none⟩ (.int .i64 (wTo s t s.size 1))).setCell ⟨w.heap.size, 2, none⟩ (.int .i64 (wTo s t s.size 2))).setCell ⟨w.heap.size, 3, none⟩ (.int .i64 (wTo s t s.size 3))).setCell ⟨w.heap.size, 4, none⟩ (.int .i64 (wTo s t s.size 4))).setCell ⟨w.heap.size, 5, none⟩ (.int .i64 (wTo s t s.size 5))).setCell ⟨w.heap.size, 6, none⟩ (.int .i64 (wTo s t s.size 6))).setCell ⟨w.heap.size, 7, none⟩ (.int .i64 (wTo s t s.size 7))).setCell ⟨w.heap.size, 8, none⟩ (.int .i64 (wTo s t s.size 8))).cell? ⟨w.heap.size, 7, none⟩ = some (.int .i64 (wTo s t s.size 7)) := by go_simp
      have r8 : (((((((((wr.setCell ⟨w.heap.size, 0, none⟩ (.int .i64 (wTo s t s.size 0))).setCell ⟨w.heap.size, 1, none⟩ (.int .i64 (wTo s t s.size 1))).setCell ⟨w.heap.size, 2, none⟩ (.int .i64 (wTo s t s.size 2))).setCell ⟨w.heap.size, 3, none⟩ (.int .i64 (wTo s t s.size 3))).setCell ⟨w.heap.size, 4, none⟩ (.int .i64 (wTo s t s.size 4))).setCell ⟨w.heap.size, 5, none⟩ (.int .i64 (wTo s t s.size 5))).setCell ⟨w.heap.size, 6, none⟩ (.int .i64 (wTo s t s.size 6))).setCell ⟨w.heap.size, 7, none⟩ (.int .i64 (wTo s t s.size 7))).setCell ⟨w.heap.size, 8, none⟩ (.int .i64 (wTo s t s.size 8))).cell? ⟨w.heap.size, 8, none⟩ = some (.int .i64 (wTo s t s.size 8)) := by go_simp
      simp [results, Try.results57, go_sem, r0, r1, r2, r3, r4, r5, r6, r7, r8, tblV]
end Go.Proofs.Ytggohgkjdnnndaa
