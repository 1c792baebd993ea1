/- impl.trimmedOf and impl.TrimmedMachine. No condition. -/
import Derived.Test.YtjdeahdngpccpaaTrim
import Derived.Test.YtjdeahdngpccpaaRounds
import Derived.Test.YtjdeahdngpccpaaImplMachOk
namespace Go.Proofs.Ytjdeahdngpccpaa
open Go.RowKit

/-- the machine without the states that are left out -/
def tm (m : M) : M := trimM m (lrounds m m.ends.length)

theorem MachNew.reads {m : M} {w w' : World} {e : Ending} (h : MachNew m w e w') : ∃ nv ev, e = .returned (.agg #[.int .i64 m.st, nv, ev]) ∧ IsInts w' nv m.next ∧ IsBools w' ev m.ends ∧ Below w.heap.size w w' := by
  obtain ⟨a1, a2, c1, c2, rfl, hA, hb⟩ := h
  exact ⟨_, _, rfl, IsInts.of_owns hA.head, IsBools.of_owns hA.tail.head, hb⟩

set_option maxHeartbeats 1600000 in
theorem implTrimmedOf_any (m : M) (nv ev : Value) (w : World) (h1 : IsInts w nv m.next) (h2 : IsBools w ev m.ends) (hg : m.good) :
    Calls Try.prog 69 #[.agg #[.int .i64 m.st, nv, ev]] w (MachNew (tm m) w) := by
  obtain ⟨st, xs, bs⟩ := m
  have hst : st = (bs.length : Int) := hg.le.symm
  subst hst
  simp only at h1 h2
  have HG := Lib.hid hg
  have hM : MachBox w.heap.size (bs.length : Int) nv xs ev bs (w.alloc (.cells #[.int .i64 (bs.length : Int), nv, ev] 26)) := MachBox.new _ h1 h2
  have hb2 := (Below.refl _ (w.alloc (.cells #[.int .i64 (bs.length : Int), nv, ev] 26))).alloc (Nat.le_refl _) (.cells #[.int .i64 0, .slice none 0 0, .slice none 0 0] 26)
  have M2 := Lib.hid (hM.below hb2)
  have q2 := Lib.hid (((Below.refl w.heap.size w).alloc (Nat.le_refl _) (.cells #[.int .i64 (bs.length : Int), nv, ev] 26)).trans (hb2.mono (by simp)))
  have c0 := fun i => World.cell?_alloc_new (w.alloc (.cells #[.int .i64 (bs.length : Int), nv, ev] 26)) #[.int .i64 0, .slice none 0 0, .slice none 0 0] 26 i
  have f0 := fun i => World.frozen?_alloc_new (w.alloc (.cells #[.int .i64 (bs.length : Int), nv, ev] 26)) #[.int .i64 0, .slice none 0 0, .slice none 0 0] 26 i
  simp only [World.size_alloc] at c0 f0
  clear hg hM hb2 h1 h2
  have hs2 : ((w.alloc (.cells #[.int .i64 (bs.length : Int), nv, ev] 26)).alloc (.cells #[.int .i64 0, .slice none 0 0, .slice none 0 0] 26)).heap.size = w.heap.size + 1 + 1 := by simp
  have HS2 := Lib.hid hs2
  have HC0 := Lib.hid c0
  have HF0 := Lib.hid f0
  have y0 := M2.out.c0
  have y1 := M2.out.c1
  have y2 := M2.out.c2
  clear hs2 c0 f0
  go_enter Try.func69, Try.ntmps69
  go_wp2_with fail
  refine (implLiveStates_any xs bs nv ev _ M2.out.ints M2.out.bools HG.out).mono ?_
  rintro e w3 ⟨X, hXL, al, cl, rfl, hA, hb3⟩
  have HXE : Hid (X = lrounds ⟨(bs.length : Int), xs, bs⟩ bs.length) := Lib.hid (hXL.unique (lrounds_live HG.out))
  have HX1 := Lib.hid hXL.1
  have M3 := Lib.hid (M2.out.below hb3)
  have q3 := Lib.hid (q2.out.trans (hb3.mono (by rw [HS2.out]; omega)))
  have d0 : ∀ i, w3.cell? ⟨w.heap.size + 1, i, none⟩ = (#[.int .i64 0, .slice none 0 0, .slice none 0 0] : Array Value)[i]? := fun i => (hb3.cell (p := ⟨w.heap.size + 1, i, none⟩) (by rw [HS2.out]; show w.heap.size + 1 < _; omega)).trans (HC0.out i)
  have g0 : ∀ i, w3.frozen? ⟨w.heap.size + 1, i, none⟩ = false := fun i => (hb3.frozen (p := ⟨w.heap.size + 1, i, none⟩) (by rw [HS2.out]; show w.heap.size + 1 < _; omega)).trans (HF0.out i)
  have hs3 : w.heap.size + 1 + 1 ≤ w3.heap.size := by have := hb3.size; rw [HS2.out] at this; exact this
  have hb4 := (Below.refl w3.heap.size w3).alloc (Nat.le_refl _) (.cells #[.slice al X.length cl] 24)
  have M4 := Lib.hid (M3.out.below hb4)
  have hXB := Lib.hid ((IsBools.of_owns hA.head).below hb4)
  have hLc : (w3.alloc (.cells #[.slice al X.length cl] 24)).cell? ⟨w3.heap.size, 0, none⟩ = some (.slice al X.length cl) := World.cell?_alloc_new w3 _ _ 0
  have hLs : w3.heap.size < (w3.alloc (.cells #[.slice al X.length cl] 24)).heap.size := by simp
  have D0 := Lib.hid d0
  have G0 := Lib.hid g0
  clear hA hb3 hb4 d0 g0 hXL
  go_wp2_with fail
  have HF := machineFromTrim_any (trimOn ⟨(bs.length : Int), xs, bs⟩ X) (M.endAt ⟨(bs.length : Int), xs, bs⟩) 0 (trimN ⟨(bs.length : Int), xs, bs⟩ X) (inM ⟨(bs.length : Int), xs, bs⟩) (.pointer (some ⟨w.heap.size, 0, none⟩)) (.pointer (some ⟨w3.heap.size, 0, none⟩))
    (w3.alloc (.cells #[.slice al X.length cl] 24)) (trimN_is HG.out X) (by have h1 := trimN_le HG.out X; have h2 := HG.out.st1; have : (⟨(bs.length : Int), xs, bs⟩ : M).st = (bs.length : Int) := rfl; omega) (inM_zero HG.out) (fun x hx l b hl h => trimOn_in HG.out X x hx l b hl h)
    (fun x hx => WalkArith.wf_i64 (by have := hx.1; have := hx.2; have := HG.out.st1; omega))
    (fun W hW x hx l hl => trimOn1_any ⟨(bs.length : Int), xs, bs⟩ X nv ev (.slice al X.length cl) w.heap.size w3.heap.size W (M4.out.below hW) ((hW.cell (p := ⟨w3.heap.size, 0, none⟩) hLs).trans hLc) (hXB.out.below hW) HG.out HX1.out (Nat.lt_of_lt_of_le hLs hW.size) x hx l hl)
    (fun W hW x hx => trimOn2_any ⟨(bs.length : Int), xs, bs⟩ nv ev w.heap.size W (M4.out.below hW) HG.out x hx)
  refine HF.mono ?_
  clear HF
  rintro e w5 ⟨a1, a2, c1, c2, rfl, hA, hb5⟩
  have h0 : w5.cell? ⟨w.heap.size + 1, 0, none⟩ = some (.int .i64 0) := (hb5.cell (p := ⟨w.heap.size + 1, 0, none⟩) (by simp; omega)).trans ((World.cell?_alloc_lt w3 _ ⟨w.heap.size + 1, 0, none⟩ (by show w.heap.size + 1 < _; omega)).trans (D0.out 0))
  have h1 : w5.cell? ⟨w.heap.size + 1, 1, none⟩ = some (.slice none 0 0) := (hb5.cell (p := ⟨w.heap.size + 1, 1, none⟩) (by simp; omega)).trans ((World.cell?_alloc_lt w3 _ ⟨w.heap.size + 1, 1, none⟩ (by show w.heap.size + 1 < _; omega)).trans (D0.out 1))
  have h2 : w5.cell? ⟨w.heap.size + 1, 2, none⟩ = some (.slice none 0 0) := (hb5.cell (p := ⟨w.heap.size + 1, 2, none⟩) (by simp; omega)).trans ((World.cell?_alloc_lt w3 _ ⟨w.heap.size + 1, 2, none⟩ (by show w.heap.size + 1 < _; omega)).trans (D0.out 2))
  have k0 : ∀ i, w5.frozen? ⟨w.heap.size + 1, i, none⟩ = false := fun i => (hb5.frozen (p := ⟨w.heap.size + 1, i, none⟩) (by simp; omega)).trans ((World.frozen?_alloc_past (w := w3) _ (w.heap.size + 1) i (by omega)).trans (G0.out i))
  have k00 := k0 0
  have k01 := k0 1
  have k02 := k0 2
  have hq5 : Below w.heap.size w w5 := (q3.out.alloc (by omega) (.cells #[.slice al X.length cl] 24)).trans (hb5.mono (by simp; omega))
  have HTM : Hid ((⟨((trimN ⟨(bs.length : Int), xs, bs⟩ X : Nat) : Int), (bfsTo (trimOn ⟨(bs.length : Int), xs, bs⟩ X) 0 (trimN ⟨(bs.length : Int), xs, bs⟩ X)).2, (bfsTo (trimOn ⟨(bs.length : Int), xs, bs⟩ X) 0 (trimN ⟨(bs.length : Int), xs, bs⟩ X)).1.map (M.endAt ⟨(bs.length : Int), xs, bs⟩)⟩ : M) = tm ⟨(bs.length : Int), xs, bs⟩) := by
    have h : trimM ⟨(bs.length : Int), xs, bs⟩ X = tm ⟨(bs.length : Int), xs, bs⟩ := by rw [tm, HXE.out]
    exact Lib.hid h
  have hA0 := HTM.out ▸ hA
  rw [HTM.out]
  generalize tm ⟨(bs.length : Int), xs, bs⟩ = T at *
  have FIN : ∀ W, W = ((w5.setCell ⟨w.heap.size + 1, 0, none⟩ (.int .i64 T.st)).setCell ⟨w.heap.size + 1, 1, none⟩ (.slice a1 T.next.length c1)).setCell ⟨w.heap.size + 1, 2, none⟩ (.slice a2 T.ends.length c2) →
      Apart w.heap.size [rowT 3 1 (.slice a1 T.next.length c1) T.next.length (T.next.map (Value.int .i64)), rowT 4 1 (.slice a2 T.ends.length c2) T.ends.length (T.ends.map Value.bool)] W ∧ Below w.heap.size w W ∧ W.cell? ⟨w.heap.size + 1, 0, none⟩ = some (.int .i64 T.st) ∧ W.cell? ⟨w.heap.size + 1, 1, none⟩ = some (.slice a1 T.next.length c1) ∧ W.cell? ⟨w.heap.size + 1, 2, none⟩ = some (.slice a2 T.ends.length c2) := by
    rintro W rfl
    have hr : ∀ k, some (w.heap.size + 1) = some k → k < (w3.alloc (.cells #[.slice al X.length cl] 24)).heap.size := fun k e => by cases e; simp; omega
    exact ⟨(((hA0.other (grown_setCell _ _ _ _) hr).other (grown_setCell _ _ _ _) hr).other (grown_setCell _ _ _ _) hr).mono (by simp; omega), ((hq5.setCell (p := ⟨w.heap.size + 1, 0, none⟩) (Nat.le_succ _) _).setCell (p := ⟨w.heap.size + 1, 1, none⟩) (Nat.le_succ _) _).setCell (p := ⟨w.heap.size + 1, 2, none⟩) (Nat.le_succ _) _, by go_simp, by go_simp, by go_simp⟩
  have FI := Lib.hid FIN
  clear FIN hA hA0 hq5 hb5 k0
  go_wp2
  obtain ⟨r1, r2, r3, r4, r5⟩ := FI.out _ rfl
  refine bodyPost_ret (v := .agg #[.int .i64 T.st, .slice a1 T.next.length c1, .slice a2 T.ends.length c2]) ?_ rfl ⟨a1, a2, c1, c2, rfl, r1, r2⟩
  simp [results, Try.results69, go_sem, r3, r4, r5]
end Go.Proofs.Ytjdeahdngpccpaa
