/- markText, markMarkS: a row of marks is written over. No condition. The walk of FnExactMachineOf: true at every row of marks. No condition. -/
import Derived.Test.YtaghjddndgpljaaCkA
import Derived.Outline
import Derived.WalkSmall
import Derived.Deep.CutRange
import Derived.Deep.CutBlock
import Derived.Test.YtaghjddndgpljaaCkD
import Derived.Test.YtaghjddndgpljaaMachMark

namespace Go.Proofs.Ytaghjddndgpljaa
open Go.RowKit

theorem one_convert (w : World) (b : UInt8) : (convert 22 9 (.slice (some ⟨w.heap.size, 0, none⟩) 1 1)).run Try.prog (w.alloc (.cells #[.int .u8 (b.toNat : Int)] 5)) = .ok (.string ⟨#[b]⟩) (w.alloc (.cells #[.int .u8 (b.toNat : Int)] 5)) := by
  refine run_convert_bytes_back (P := Try.prog) (w.alloc (.cells #[.int .u8 (b.toNat : Int)] 5)) 22 9 5 ⟨w.heap.size, 0, none⟩ 1 [b] Try.underlying22 Try.underlying5 Try.underlying9 (fun j hj => ?_)
  obtain rfl : j = 0 := by simp at hj; omega
  exact World.cell?_alloc_new w _ _ 0

set_option maxHeartbeats 1600000 in
set_option maxRecDepth 100000 in
theorem markText_any (k : Int) (h : k ≤ 1000000000) (w : World) :
    Calls Try.prog 114 #[.int .i64 k] w fun e w' => (∃ s, e = .returned (.string s)) ∧ Below w.heap.size w w' := by
  go_enter Try.func114, Try.ntmps114
  by_cases h0 : k ≤ 0
  · go_wp2_with fail
    go_ret
    exact ⟨⟨_, rfl⟩, Below.refl _ _⟩
  go_wp2_with fail
  go_loopw [0, 3] (fun kv ov wr => ∃ (j : Int) (o : ByteArray), kv = .int .i64 j ∧ ov = .string o ∧ 0 ≤ j ∧ (o.size : Int) + j ≤ 1000000000 ∧ Below w.heap.size w wr) (fun kv _ _ => (intOf kv).toNat)
  case atStart => exact ⟨k, _, rfl, rfl, by omega, by show ((0 : Nat) : Int) + k ≤ _; omega, Below.refl _ _⟩
  case round =>
    obtain ⟨j, o, rfl, rfl, hj0, hjs, hb⟩ := hrel
    have HB := Lib.hid hb
    by_cases hj : j ≤ 0
    · go_wp2_with fail
      go_ret
      exact ⟨⟨_, rfl⟩, hb⟩
    · obtain ⟨b, hb8⟩ : ∃ b : UInt8, (b.toNat : Int) = 48 + j % 10 := ⟨UInt8.ofNat (48 + j % 10).toNat, by simp; omega⟩
      have hc := one_convert wr b
      rw [hb8] at hc
      have hr1 : j.tmod 10 = j % 10 := Int.tmod_eq_emod_of_nonneg hj0
      have hr2 : j.tdiv 10 = j / 10 := Int.tdiv_eq_ediv_of_nonneg hj0
      clear hb hb8
      go_upto_region 5 with fail
      go_wp2_with fail
      exact ⟨⟨j / 10, _, rfl, rfl, by omega, by rw [ByteArray.size_append]; show (((1 : Nat) + o.size : Nat) : Int) + _ ≤ _; omega, HB.out.alloc HB.out.size _⟩, by simp [intOf]; omega⟩

/-- a store into a row of whatever width -/
theorem Own.storeN {wB w : World} {ts : List Thing} {i g cap n sz : Nat} {e : TypeId} {xs : List Value} (h : Own wB ts w) (hi : i < ts.length) (he : ts[i] = rowT e sz (.slice (some ⟨g, 0, none⟩) n cap) n xs) (j : Nat) (u : Value) :
    Own wB (ts.set i (rowT e sz (.slice (some ⟨g, 0, none⟩) n cap) n (xs.set j u))) (w.setCell ⟨g, j, none⟩ u) := by
  have hlt := h.ap.ltAt i hi
  rw [he] at hlt
  have hr : w.ownsRow 0 e sz (.slice (some ⟨g, 0, none⟩) n cap) n xs := by
    have := h.ap.at i hi
    rw [he] at this; exact this
  refine ⟨h.keep.setCell (p := ⟨g, j, none⟩) (hlt g rfl).1 _, h.ap.turnAt i hi (by rw [he]; exact grown_setCell w g j u) _ (World.ownsRow.stored hr j u).1 h.size ?_⟩
  intro k e
  exact ⟨.inl (by rw [he]; exact e), by have := (hlt k e).2; simpa using this⟩
theorem Own.rowN {wB w : World} {ts : List Thing} (h : Own wB ts w) (i : Nat) (hi : i < ts.length) {e : TypeId} {sz : Nat} {v : Value} {n : Nat} {xs : List Value} (he : ts[i] = rowT e sz v n xs) : w.ownsRow 0 e sz v n xs := by
  have := h.ap.at i hi
  rw [he] at this; exact this

set_option maxHeartbeats 3200000 in
set_option maxRecDepth 100000 in
theorem markMarkS_any (wB : World) (ts : List Thing) (v : Value) (n : Nat) (xs : List Value) (hx : xs.length = n * 5) (k : Int) (w : World) (hn : n ≤ 1048576) (k0 : 0 ≤ k) (k1 : k ≤ 100000000) (h : Own wB (rowT 109 5 v n xs :: ts) w) :
    Calls Try.prog 52 #[v, .int .i64 k] w fun e w' => e = .returned (.int .i64 (k + 5 * n)) ∧ ∃ ys, Own wB (rowT 109 5 v n ys :: ts) w' := by
  have H0 := Lib.hid h
  obtain ⟨a, cap, rfl⟩ := ownsRow_slice (h.rowN 0 (by simp) rfl)
  clear h
  go_enter Try.func52, Try.ntmps52
  go_wp2_with fail
  go_loopw [1, 5] (fun kv iv wr => ∃ (j : Nat) (q : Int) (ys : List Value), j ≤ n ∧ kv = .int .i64 q ∧ iv = .int .i64 j ∧ q = k + 5 * j ∧ ys.length = n * 5 ∧ Own wB (rowT 109 5 (.slice a n cap) n ys :: ts) wr) (fun _ iv _ => n - (intOf iv).toNat)
  case atStart => exact ⟨0, k, xs, Nat.zero_le _, rfl, rfl, by simp, hx, H0.out⟩
  case round =>
    obtain ⟨j, q, ys, hj, rfl, rfl, hq, hys, hO⟩ := hrel
    by_cases hlt : j < n
    · obtain ⟨g, rfl⟩ : ∃ g, a = some ⟨g, 0, none⟩ := by
        rcases (hO.rowN 0 (by simp) rfl).2 with ⟨_, hn0⟩ | ⟨g, cap', cur, hv, _⟩
        · omega
        · cases hv; exact ⟨g, rfl⟩
      have O1 := Lib.hid hO
      have HYS := Lib.hid hys
      have HQ := Lib.hid hq
      have hq0 : 0 ≤ q := by omega
      have hq1 : q ≤ 110000000 := by omega
      have hr := hO.rowN 0 (by simp) rfl
      obtain ⟨u0, d0⟩ : ∃ u, wr.cell? ⟨g, j * 5, none⟩ = some u := ⟨_, (hr.cellAt (j * 5) (by omega)).trans (List.getElem?_eq_getElem (by omega))⟩
      obtain ⟨u1, d1⟩ : ∃ u, wr.cell? ⟨g, j * 5 + 1, none⟩ = some u := ⟨_, (hr.cellAt (j * 5 + 1) (by omega)).trans (List.getElem?_eq_getElem (by omega))⟩
      have f0 := hr.frozenAt (j * 5)
      have f1 := hr.frozenAt (j * 5 + 1)
      clear hO hys hr hq
      go_wp2_with fail
      refine (markText_any (q + 1 + 1) (by omega) _).mono ?_
      rintro e w2 ⟨⟨s1, rfl⟩, hb2⟩
      obtain ⟨zs, hzs, hO2⟩ : ∃ zs : List Value, zs.length = n * 5 ∧ Own wB (rowT 109 5 (.slice (some ⟨g, 0, none⟩) n cap) n zs :: ts) w2 :=
        ⟨_, by rw [List.length_set, List.length_set]; exact HYS.out, ((O1.out.storeN (i := 0) (by simp) rfl (j * 5) (.int .i64 q)).storeN (i := 0) (by simp) rfl (j * 5 + 1) (.int .i64 (q + 1))).below hb2⟩
      have O2 := Lib.hid hO2
      have HZS := Lib.hid hzs
      have hr := hO2.rowN 0 (by simp) rfl
      obtain ⟨u2, d2⟩ : ∃ u, w2.cell? ⟨g, j * 5 + 2, none⟩ = some u := ⟨_, (hr.cellAt (j * 5 + 2) (by omega)).trans (List.getElem?_eq_getElem (by omega))⟩
      have f2 := hr.frozenAt (j * 5 + 2)
      clear hO2 hzs hr hb2 d0 d1 f0 f1
      go_wp2_with fail
      refine (markText_any (q + 1 + 1 + 1) (by omega) _).mono ?_
      rintro e w3 ⟨⟨s2, rfl⟩, hb3⟩
      obtain ⟨zs3, hzs, hO3⟩ : ∃ zs : List Value, zs.length = n * 5 ∧ Own wB (rowT 109 5 (.slice (some ⟨g, 0, none⟩) n cap) n zs :: ts) w3 :=
        ⟨_, by rw [List.length_set]; exact HZS.out, (O2.out.storeN (i := 0) (by simp) rfl (j * 5 + 2) (.string s1)).below hb3⟩
      have O3 := Lib.hid hO3
      have HZS3 := Lib.hid hzs
      have hr := hO3.rowN 0 (by simp) rfl
      obtain ⟨u3, d3⟩ : ∃ u, w3.cell? ⟨g, j * 5 + 3, none⟩ = some u := ⟨_, (hr.cellAt (j * 5 + 3) (by omega)).trans (List.getElem?_eq_getElem (by omega))⟩
      obtain ⟨u4, d4⟩ : ∃ u, w3.cell? ⟨g, j * 5 + 4, none⟩ = some u := ⟨_, (hr.cellAt (j * 5 + 4) (by omega)).trans (List.getElem?_eq_getElem (by omega))⟩
      have f3 := hr.frozenAt (j * 5 + 3)
      have f4 := hr.frozenAt (j * 5 + 4)
      clear hO3 hzs hr hb3 d2 f2
      go_wp2_with fail
      go_roundw
      case rel => exact ⟨j + 1, q + 1 + 1 + 1 + 1 + 1, _, by omega, rfl, by go_num, by have := HQ.out; omega, by rw [List.length_set, List.length_set]; exact HZS3.out, (O3.out.storeN (i := 0) (by simp) rfl (j * 5 + 3) (.string s2)).storeN (i := 0) (by simp) rfl (j * 5 + 4) (.int .i64 (q + 1 + 1 + 1 + 1))⟩
      case measure => simp [intOf]; omega
    · obtain rfl : j = n := by omega
      have HO := Lib.hid hO
      have HQ := Lib.hid hq
      clear hO hq
      go_wp2_with fail
      go_ret
      obtain rfl := HQ.out
      exact ⟨rfl, ys, HO.out⟩
end Go.Proofs.Ytaghjddndgpljaa

namespace Go.Proofs.Ytaghjddndgpljaa
open Go.RowKit

theorem Own.one {w w' : World} {e : TypeId} {sz : Nat} {v : Value} {n : Nat} {xs : List Value} (ho : w'.ownsRow w.heap.size e sz v n xs) (hb : Below w.heap.size w w') : Own w [rowT e sz v n xs] w' :=
  ⟨hb, ⟨fun t ht => by
    obtain rfl := List.mem_singleton.1 ht
    exact ⟨ownsRow_base ho (fun _ _ => Nat.zero_le _), fun k e => World.ownsRow.lt ho k e⟩, List.pairwise_singleton _ _⟩⟩

theorem Own.rot31 {wB w : World} {t1 t2 t3 t4 : Thing} (h : Own wB [t1, t2, t3, t4] w) : Own wB [t4, t1, t2, t3] w := h.perm (List.perm_append_comm (l₁ := [t1, t2, t3]) (l₂ := [t4]))
theorem Own.rot22 {wB w : World} {t1 t2 t3 t4 : Thing} (h : Own wB [t1, t2, t3, t4] w) : Own wB [t3, t4, t1, t2] w := h.perm (List.perm_append_comm (l₁ := [t1, t2]) (l₂ := [t3, t4]))
theorem Own.turnM {wB w w' : World} {ts us : List Thing} (h : Own wB ts w) (hA : Apart wB.heap.size us w') (hb : Below wB.heap.size w w') : Own wB us w' := ⟨h.keep.trans hb, hA⟩
theorem Own.seqs {wB w : World} {ts : List Thing} {nv ev : Value} {n1 n2 : Nat} {k : Int} (h : Own wB (rowT 3 1 nv n1 ((seqL k n1).map (Value.int .i64)) :: rowT 4 1 ev n2 ((seqB (k + n1) n2).map Value.bool) :: ts) w) : IsInts w nv (seqL k n1) ∧ IsBools w ev (seqB (k + n1) n2) := by
  refine ⟨IsInts.of_owns (e := 3) (base := 0) ?_, IsBools.of_owns (e := 4) (base := 0) ?_⟩
  · rw [seqL_length]; exact h.rowN 0 (by simp) rfl
  · rw [seqB_length]; exact h.rowN 1 (by simp) rfl

set_option maxHeartbeats 6400000 in
set_option maxRecDepth 100000 in
theorem exactMachineOf_walk {w : World} (v : Value) (ms : List Mk) (h : IsMarks w v ms) (hwf : ∀ m ∈ ms, m.wf) :
    Calls Try.prog 12 #[v] w fun e w' => e = .returned (.bool true) ∧ Below w.heap.size w w' := by
  have HM := Lib.hid h
  have hne : ∀ b : Bool, (b != b) = false := fun b => by cases b <;> rfl
  obtain ⟨a, n, cap, rfl⟩ := h.slice
  clear h
  go_enter Try.func12, Try.ntmps12
  go_wp2_with fail
  refine (szMarkS_any ms hwf _ w HM.out 1048576 (by omega) (by omega)).mono ?_
  rintro e w1 ⟨⟨r, rfl, hr0, hr1, hrl⟩, hb1⟩
  have B1 := Lib.hid hb1
  clear hb1
  by_cases hr : r < 0
  · go_wp2_with fail
    go_ret
    exact ⟨rfl, B1.out⟩
  have hlen := hrl (by omega)
  clear hrl
  go_wp2_with fail
  refine (toMarkS_any _ ms w1 (HM.out.below B1.out) hlen).mono ?_
  rintro e w2 ⟨v2, rfl, hown, hb2⟩
  have B2 := Lib.hid (B1.out.trans (hb2.mono B1.out.size))
  have M2 := Lib.hid (IsMarks.of_owns hown)
  obtain ⟨a2, n2, cap2, rfl⟩ := (IsMarks.of_owns hown).slice
  clear hown hb2
  go_wp2_with fail
  refine (specMachineOf_any ms _ w2 M2.out hlen).mono ?_
  rintro e w3 h3
  obtain ⟨m, b, a3, a4, c3, c4, hI, rfl, hi3, hj3, hb3⟩ := h3.reads
  have HI := Lib.hid hI
  have HL := Lib.hid (And.intro hI.len.1 hI.len.2.1)
  have S3 := Lib.hid (MachBox.new (st := m.st) 26 hi3 hj3)
  have hal : Below w3.heap.size w3 (w3.alloc (.cells #[.int .i64 m.st, .slice a3 m.next.length c3, .slice a4 m.ends.length c4] 26)) := (Below.refl _ _).alloc (Nat.le_refl _) _
  have B3 := Lib.hid ((B2.out.trans (hb3.mono B2.out.size)).trans (hal.mono (Nat.le_trans B2.out.size hb3.size)))
  clear hI hi3 hj3 hb3 h3 hal M2 B1 B2
  go_upto_region 6 with fail
  generalize hW3 : (w3.alloc (.cells #[.int .i64 m.st, .slice a3 m.next.length c3, .slice a4 m.ends.length c4] 26)) = W3 at *
  clear hW3
  generalize w3.heap.size = P4 at *
  have HS := Lib.hid (fun W (hb : Below W3.heap.size W3 W) => S3.out.below hb)
  have HMW := Lib.hid (fun W (hb : Below W3.heap.size W3 W) => HM.out.below (B3.out.trans (hb.mono B3.out.size)))
  go_wp2_with fail
  refine (toMarkS_any _ ms W3 (HM.out.below B3.out) hlen).mono ?_
  rintro e w4 ⟨v4, rfl, hown, hb4⟩
  have O4 := Lib.hid (Own.one hown hb4)
  have M4 := Lib.hid (IsMarks.of_owns hown)
  obtain ⟨a4', n4, cap4, rfl⟩ := (IsMarks.of_owns hown).slice
  clear hown hb4
  go_wp2_with fail
  refine (implMachineOf_any ms hwf _ w4 M4.out).mono ?_
  rintro e w5 ⟨m', b', a5, a6, c5, c6, hI5, rfl, hA5, hb5⟩
  obtain ⟨rfl, rfl⟩ := hI5.one HI.out
  have O5 := Lib.hid ((O4.out.join hA5 hb5).box #[.int .i64 m'.st, .slice a5 m'.next.length c5, .slice a6 m'.ends.length c6] 26)
  have hal : Below w5.heap.size w5 (w5.alloc (.cells #[.int .i64 m'.st, .slice a5 m'.next.length c5, .slice a6 m'.ends.length c6] 26)) := (Below.refl _ _).alloc (Nat.le_refl _) _
  have M5 := Lib.hid ((M4.out.below hb5).below hal)
  clear hI5 hA5 hb5 hal M4 O4
  go_upto_region 8 with fail
  generalize hW5 : (w5.alloc (.cells #[.int .i64 m'.st, .slice a5 m'.next.length c5, .slice a6 m'.ends.length c6] 26)) = W5 at *
  clear hW5
  generalize w5.heap.size = P7 at *
  have hbb := hne b'
  have Z5 := Lib.hid (HS.out _ O5.out.keep)
  have y0 := Z5.out.c0
  have y1 := Z5.out.c1
  have y2 := Z5.out.c2
  have x0 := cellsT_cell (O5.out.cells 0 (by simp) rfl) 0
  have x1 := cellsT_cell (O5.out.cells 0 (by simp) rfl) 1
  have x2 := cellsT_cell (O5.out.cells 0 (by simp) rfl) 2
  simp only [List.getElem?_toArray, List.getElem?_cons_succ, List.getElem?_cons_zero] at x0 x1 x2
  go_wp2_with fail
  clear y0 y1 y2 x0 x1 x2
  refine (eqMachine_same m' _ _ _ _ W5 (O5.out.ints 1 (by simp) rfl) (O5.out.bools 2 (by simp) rfl) Z5.out.ints Z5.out.bools).mono ?_
  rintro e w6 ⟨rfl, hb6⟩
  have O6 := Lib.hid (O5.out.below hb6)
  have M6 := Lib.hid (M5.out.below hb6)
  clear hb6 O5 M5 Z5
  go_wp2_with fail
  refine (toMarkS_any _ ms w6 (HMW.out _ O6.out.keep) hlen).mono ?_
  rintro e w7 ⟨v7, rfl, hown, hb7⟩
  have O7 := Lib.hid (O6.out.below hb7)
  have M7 := Lib.hid (IsMarks.of_owns hown)
  have M67 := Lib.hid (M6.out.below hb7)
  obtain ⟨a7, n7, cap7, rfl⟩ := (IsMarks.of_owns hown).slice
  clear hown hb7 O6 M6
  go_wp2_with fail
  refine (eqMarkS_same ms _ _ w7 M67.out M7.out).mono ?_
  rintro e w8 ⟨rfl, hb8⟩
  have O8 := Lib.hid (O7.out.below hb8)
  clear hb8 O7 M67 M7
  go_wp2_with fail
  refine (markMarkS_any W3 _ _ ms.length (cellsM ms) (cellsM_length ms) 1 w8 hlen (by omega) (by omega) O8.out.rot31).mono ?_
  rintro e w9 ⟨rfl, ys, hO9⟩
  have O9 := Lib.hid hO9
  clear hO9 O8
  have hge : ¬ ((1 : Int) + 5 * (ms.length : Int) < 0) := by omega
  have Z9 := Lib.hid (HS.out _ O9.out.keep)
  have y0 := Z9.out.c0
  have y1 := Z9.out.c1
  have y2 := Z9.out.c2
  have x0 := cellsT_cell (O9.out.cells 1 (by simp) rfl) 0
  have x1 := cellsT_cell (O9.out.cells 1 (by simp) rfl) 1
  have x2 := cellsT_cell (O9.out.cells 1 (by simp) rfl) 2
  simp only [List.getElem?_toArray, List.getElem?_cons_succ, List.getElem?_cons_zero] at x0 x1 x2
  go_wp2_with fail
  clear y0 y1 y2 x0 x1 x2
  refine (eqMachine_same m' _ _ _ _ w9 (O9.out.ints 2 (by simp) rfl) (O9.out.bools 3 (by simp) rfl) Z9.out.ints Z9.out.bools).mono ?_
  rintro e w10 ⟨rfl, hb10⟩
  have O10 := Lib.hid ((O9.out.below hb10).rot22)
  clear hb10 O9 Z9 hge
  have x0 := cellsT_cell (O10.out.cells 3 (by simp) rfl) 0
  have x1 := cellsT_cell (O10.out.cells 3 (by simp) rfl) 1
  have x2 := cellsT_cell (O10.out.cells 3 (by simp) rfl) 2
  simp only [List.getElem?_toArray, List.getElem?_cons_succ, List.getElem?_cons_zero] at x0 x1 x2
  go_wp2_with fail
  clear x0 x1 x2
  have hL := HL.out
  refine (markMachine_any W3.heap.size _ m'.st _ _ m'.next m'.ends 1 w10 O10.out.ap O10.out.keep.size (by omega) (by omega) (by omega) (by omega)).mono ?_
  rintro e w11 ⟨rfl, hA11, hb11⟩
  have O11 := Lib.hid (O10.out.turnM hA11 hb11)
  clear hA11 hb11 O10
  have x0 := cellsT_cell (O11.out.cells 3 (by simp) rfl) 0
  have x1 := cellsT_cell (O11.out.cells 3 (by simp) rfl) 1
  have x2 := cellsT_cell (O11.out.cells 3 (by simp) rfl) 2
  simp only [List.getElem?_toArray, List.getElem?_cons_succ, List.getElem?_cons_zero] at x0 x1 x2
  go_wp2_with fail
  clear x0 x1 x2
  refine (heldMachine_any m'.st _ _ m'.next.length m'.ends.length 1 w11 O11.out.seqs.1 O11.out.seqs.2 (by omega) (by omega) (by omega) (by omega)).mono ?_
  rintro e w12 ⟨rfl, hb12⟩
  have O12 := Lib.hid (O11.out.below hb12)
  clear hb12 O11
  have hge : ¬ ((1 : Int) + (m'.next.length : Int) + (m'.ends.length : Int) < 0) := by omega
  have hnn : (((1 : Int) + (m'.next.length : Int) + (m'.ends.length : Int)) != ((1 : Int) + (m'.next.length : Int) + (m'.ends.length : Int))) = false := by simp
  go_wp2_with fail
  refine (toMarkS_any _ ms w12 (HMW.out _ O12.out.keep) hlen).mono ?_
  rintro e w13 ⟨v13, rfl, hown, hb13⟩
  have O13 := Lib.hid (O12.out.below hb13)
  have M13 := Lib.hid (IsMarks.of_owns hown)
  obtain ⟨a13, n13, cap13, rfl⟩ := (IsMarks.of_owns hown).slice
  clear hown hb13 O12
  go_wp2_with fail
  refine (implMachineOf_any ms hwf _ w13 M13.out).mono ?_
  rintro e w14 h14
  obtain ⟨m14, b14, a14, a15, c14, c15, hI14, rfl, hi14, hj14, hb14⟩ := h14.reads
  obtain ⟨rfl, rfl⟩ := hI14.one HI.out
  have hal : Below w14.heap.size w14 (w14.alloc (.cells #[.int .i64 m14.st, .slice a14 m14.next.length c14, .slice a15 m14.ends.length c15] 26)) := (Below.refl _ _).alloc (Nat.le_refl _) _
  have E14 := Lib.hid (MachBox.new (st := m14.st) 26 hi14 hj14)
  have O14 := Lib.hid ((O13.out.below hb14).below hal)
  clear hI14 hi14 hj14 hb14 h14 hal O13 M13
  go_upto_region 25 with fail
  generalize hW14 : (w14.alloc (.cells #[.int .i64 m14.st, .slice a14 m14.next.length c14, .slice a15 m14.ends.length c15] 26)) = W14 at *
  clear hW14
  generalize w14.heap.size = P12 at *
  have Z14 := Lib.hid (HS.out _ O14.out.keep)
  have y0 := Z14.out.c0
  have y1 := Z14.out.c1
  have y2 := Z14.out.c2
  have x0 := E14.out.c0
  have x1 := E14.out.c1
  have x2 := E14.out.c2
  go_wp2_with fail
  clear y0 y1 y2 x0 x1 x2
  refine (eqMachine_same m14 _ _ _ _ W14 E14.out.ints E14.out.bools Z14.out.ints Z14.out.bools).mono ?_
  rintro e w15 ⟨rfl, hb15⟩
  have O15 := Lib.hid (O14.out.below hb15)
  clear hb15 O14 Z14 E14
  have x0 := cellsT_cell (O15.out.cells 3 (by simp) rfl) 0
  have x1 := cellsT_cell (O15.out.cells 3 (by simp) rfl) 1
  have x2 := cellsT_cell (O15.out.cells 3 (by simp) rfl) 2
  simp only [List.getElem?_toArray, List.getElem?_cons_succ, List.getElem?_cons_zero] at x0 x1 x2
  go_wp2_with fail
  clear x0 x1 x2
  refine (heldMachine_any m14.st _ _ m14.next.length m14.ends.length 1 w15 O15.out.seqs.1 O15.out.seqs.2 (by omega) (by omega) (by omega) (by omega)).mono ?_
  rintro e w16 ⟨rfl, hb16⟩
  have O16 := Lib.hid (O15.out.below hb16)
  clear hb16 O15
  go_wp2_with fail
  go_ret
  exact ⟨rfl, B3.out.trans (O16.out.keep.mono B3.out.size)⟩
end Go.Proofs.Ytaghjddndgpljaa
