/- The maker of machines for rules of runs. No condition. -/
import Derived.Test.YtgpjckmmleagbaaMakers
namespace Go.Proofs.Ytgpjckmmleagbaa
open Go.RowKit

set_option maxHeartbeats 1000000 in
theorem runMaker_any (letter : ByteArray) (many : Int) (w : World) (hl : letterOk letter = true) (h0 : 2 ≤ many) (h4 : many ≤ 4) :
    Calls Try.prog 115 #[.agg #[.int .i64 1, .string letter, .string ⟨#[]⟩, .int .i64 many]] w (MachNew (mfT (Ru.mk 1 letter ⟨#[]⟩ many)) w) := by
  have hok : (Ru.mk 1 letter ⟨#[]⟩ many).ok = true := Ru.ok_iff.2 ⟨hl, .inr (.inl ⟨rfl, rfl, h0, h4⟩)⟩
  have hW3 : ∃ W3, W3 = ((w.alloc (.cells #[.int .i64 1, .string letter, .string ⟨#[]⟩, .int .i64 many] 45)).alloc (.cells #[.int .i64 0, .slice none 0 0, .slice none 0 0] 28)).alloc (.cells #[.func (.func 127) #[] #[.pointer (some ⟨w.heap.size, 0, none⟩)]] 71) := ⟨_, rfl⟩
  obtain ⟨W3, hW3⟩ := hW3
  have hs3 : W3.heap.size = w.heap.size + 1 + 1 + 1 := by rw [hW3]; simp
  have q3 : Below w.heap.size w W3 := by
    rw [hW3]
    exact (((Below.refl w.heap.size w).alloc (Nat.le_refl _) _).alloc (by simp) _).alloc (by simp; omega) _
  have B3 : RuBox w.heap.size 1 letter ⟨#[]⟩ many W3 := by
    rw [hW3]
    refine ⟨by simp; omega, ?_, ?_, ?_, ?_⟩ <;> go_simp
  have L3 : W3.cell? ⟨w.heap.size + 1 + 1, 0, none⟩ = some (.func (.func 127) #[] #[.pointer (some ⟨w.heap.size, 0, none⟩)]) := by rw [hW3]; go_simp
  have c0 : W3.cell? ⟨w.heap.size + 1, 0, none⟩ = some (.int .i64 0) := by rw [hW3]; go_simp
  have c1 : W3.cell? ⟨w.heap.size + 1, 1, none⟩ = some (.slice none 0 0) := by rw [hW3]; go_simp
  have c2 : W3.cell? ⟨w.heap.size + 1, 2, none⟩ = some (.slice none 0 0) := by rw [hW3]; go_simp
  have f0 : ∀ i, W3.frozen? ⟨w.heap.size + 1, i, none⟩ = false := fun i => by rw [hW3]; go_simp
  have HF := Lib.hid (machineFromRun_any (Ru.mk 1 letter ⟨#[]⟩ many).on (Ru.mk 1 letter ⟨#[]⟩ many).endAt 0 (Ru.mk 1 letter ⟨#[]⟩ many).st (Ru.mk 1 letter ⟨#[]⟩ many).inP (.pointer (some ⟨w.heap.size, 0, none⟩)) (.pointer (some ⟨w.heap.size + 1 + 1, 0, none⟩)) W3
    (Ru.len hok) (Nat.le_trans (Ru.st_bd hok).2 (by decide)) (Ru.in0 hok) (Ru.on_in hok) (Ru.in_wf hok)
    (fun W hW x hx l hl3 => run2_any letter ⟨#[]⟩ many w.heap.size (w.heap.size + 1 + 1) W (B3.below hW) ((hW.cell (p := ⟨w.heap.size + 1 + 1, 0, none⟩) (by rw [hs3]; exact Nat.lt_succ_self _)).trans L3) hl x hx.1 (by have := hx.2; simp only [Ru.st] at this; simp at this; omega) h4 l hl3)
    (fun W hW x hx => run1_any letter ⟨#[]⟩ many w.heap.size W (B3.below hW) x))
  have HM := Lib.hid (Ru.mach hok)
  have Q3 := Lib.hid (And.intro q3 (And.intro hs3 (And.intro c0 (And.intro c1 (And.intro c2 f0)))))
  have HW3 := Lib.hid hW3
  have L3h := Lib.hid L3
  clear hok q3 hs3 c0 c1 c2 f0 B3 hW3 L3
  go_enter Try.func115, Try.ntmps115
  go_wp2_with fail
  rw [← HW3.out]
  refine HF.out.mono ?_
  clear HF HW3
  rw [HM.out]
  generalize hTT : mfT (Ru.mk 1 letter ⟨#[]⟩ many) = T
  have HTT := Lib.hid hTT
  clear hTT
  rintro e w5 ⟨a1, a2, c1, c2, rfl, hA, hb5⟩
  obtain ⟨q3, hs3, c0, c1', c2', f0⟩ := Q3.out
  have h0 : w5.cell? ⟨w.heap.size + 1, 0, none⟩ = some (.int .i64 0) := (hb5.cell (p := ⟨w.heap.size + 1, 0, none⟩) (by rw [hs3]; show w.heap.size + 1 < _; omega)).trans c0
  have h1 : w5.cell? ⟨w.heap.size + 1, 1, none⟩ = some (.slice none 0 0) := (hb5.cell (p := ⟨w.heap.size + 1, 1, none⟩) (by rw [hs3]; show w.heap.size + 1 < _; omega)).trans c1'
  have h2 : w5.cell? ⟨w.heap.size + 1, 2, none⟩ = some (.slice none 0 0) := (hb5.cell (p := ⟨w.heap.size + 1, 2, none⟩) (by rw [hs3]; show w.heap.size + 1 < _; omega)).trans c2'
  have k0 := (hb5.frozen (p := ⟨w.heap.size + 1, 0, none⟩) (by rw [hs3]; show w.heap.size + 1 < _; omega)).trans (f0 0)
  have k1 := (hb5.frozen (p := ⟨w.heap.size + 1, 1, none⟩) (by rw [hs3]; show w.heap.size + 1 < _; omega)).trans (f0 1)
  have k2 := (hb5.frozen (p := ⟨w.heap.size + 1, 2, none⟩) (by rw [hs3]; show w.heap.size + 1 < _; omega)).trans (f0 2)
  have FI := Lib.hid (fin_cells (x := .int .i64 T.st) (y := .slice a1 T.next.length c1) (z := .slice a2 T.ends.length c2) (B := w.heap.size) (b := w.heap.size + 1) hA (q3.trans (hb5.mono (by omega))) (Nat.le_succ _) (by omega) (some3 h0 h1 h2) (by omega))
  clear hA hb5 c0 c1' c2' f0 q3 hs3
  go_wp2
  obtain ⟨r1, r2, r3, r4, r5⟩ := FI.out _ rfl
  refine bodyPost_ret (v := .agg #[.int .i64 T.st, .slice a1 T.next.length c1, .slice a2 T.ends.length c2]) ?_ rfl (by rw [HTT.out]; exact ⟨a1, a2, c1, c2, rfl, r1, r2⟩)
  simp [results, Try.results115, go_sem, r3, r4, r5]
end Go.Proofs.Ytgpjckmmleagbaa
