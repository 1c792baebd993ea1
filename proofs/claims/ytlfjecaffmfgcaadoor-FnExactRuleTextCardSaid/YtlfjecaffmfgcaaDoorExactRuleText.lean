/- The walk of FnExactRuleText: true at every rule. No condition. -/
import Derived.Test.YtlfjecaffmfgcaaDoorImplText
namespace Go.Proofs.YtlfjecaffmfgcaaDoor
open Go.RowKit

theorem exactRuleText_walk {w : World} (kind : Int) (_hk : (Lit.int .i64 kind).wf = true) (letter : ByteArray) (h1 : letter.size ≤ maxLen) (thn : ByteArray) (h2 : thn.size ≤ maxLen) (many : Int) (_hm : (Lit.int .i64 many).wf = true) :
    Calls Tryd.prog 3 #[.agg #[.int .i64 kind, .string letter, .string thn, .int .i64 many]] w fun e w' => e = .returned (.bool true) ∧ Below w.heap.size w w' := by
  have q0 := Lib.hid ((Below.refl w.heap.size w).alloc (Nat.le_refl _) (.cells #[.int .i64 kind, .string letter, .string thn, .int .i64 many] 23))
  have c0 : ∀ w', Below (w.heap.size + 1) (w.alloc (.cells #[.int .i64 kind, .string letter, .string thn, .int .i64 many] 23)) w' → w'.cell? ⟨w.heap.size, 0, none⟩ = some (.int .i64 kind) ∧ w'.cell? ⟨w.heap.size, 1, none⟩ = some (.string letter) ∧ w'.cell? ⟨w.heap.size, 2, none⟩ = some (.string thn) ∧ w'.cell? ⟨w.heap.size, 3, none⟩ = some (.int .i64 many) := fun w' hb =>
    ⟨(hb.cell (p := ⟨w.heap.size, 0, none⟩) (Nat.lt_succ_self _)).trans (World.cell?_alloc_new w _ _ 0), (hb.cell (p := ⟨w.heap.size, 1, none⟩) (Nat.lt_succ_self _)).trans (World.cell?_alloc_new w _ _ 1), (hb.cell (p := ⟨w.heap.size, 2, none⟩) (Nat.lt_succ_self _)).trans (World.cell?_alloc_new w _ _ 2), (hb.cell (p := ⟨w.heap.size, 3, none⟩) (Nat.lt_succ_self _)).trans (World.cell?_alloc_new w _ _ 3)⟩
  have C0 := Lib.hid c0
  clear c0
  go_enter Tryd.func3, Tryd.ntmps3
  go_wp2_with fail
  refine (szRule_any kind letter thn many 1048576 _ h1 h2 (by omega) (by omega)).mono ?_
  rintro e w1 ⟨rfl, hb1⟩
  simp only [World.size_alloc] at hb1
  have q1 := Lib.hid (q0.out.trans (hb1.mono (Nat.le_succ _)))
  by_cases hs : szR letter.size thn.size 1048576 < 0
  · go_wp2_with fail
    go_ret
    exact ⟨rfl, q1.out⟩
  · generalize szR letter.size thn.size 1048576 = left at *
    obtain ⟨y0, y1, y2, y3⟩ := C0.out _ hb1
    go_wp2_with fail
    clear y0 y1 y2 y3
    refine (toRule_any kind letter thn many _).mono ?_
    rintro e w2 ⟨rfl, hb2⟩
    have hb2' := hb1.trans (hb2.mono (by have := hb1.size; simp only [World.size_alloc] at this; exact this))
    have q2 := Lib.hid (q1.out.trans (hb2.mono (by have := hb1.size; simp only [World.size_alloc] at this; omega)))
    clear hb1 hb2
    go_wp2_with fail
    refine (specRuleText_any kind letter thn many _).mono ?_
    rintro e w3 ⟨rfl, hb3⟩
    have s2 := hb2'.size
    simp only [World.size_alloc] at s2
    have hb3' := hb2'.trans (hb3.mono s2)
    have q3 := Lib.hid (q2.out.trans (hb3.mono (by omega)))
    clear hb2' hb3
    obtain ⟨y0, y1, y2, y3⟩ := C0.out _ hb3'
    go_wp2_with fail
    clear y0 y1 y2 y3
    refine (toRule_any kind letter thn many _).mono ?_
    rintro e w4 ⟨rfl, hb4⟩
    have s3 := hb3'.size
    simp only [World.size_alloc] at s3
    have q4 := Lib.hid (q3.out.trans (hb4.mono (by omega)))
    have s4 := hb4.size
    clear hb3' hb4
    go_wp2_with fail
    refine (implRuleText_any kind letter thn many _ h1 h2).mono ?_
    rintro e w5 ⟨rfl, hb5⟩
    have q5 := Lib.hid (q4.out.trans (hb5.mono (by omega)))
    clear hb5
    go_wp2_with fail
    go_ret
    exact ⟨rfl, q5.out⟩
end Go.Proofs.YtlfjecaffmfgcaaDoor
