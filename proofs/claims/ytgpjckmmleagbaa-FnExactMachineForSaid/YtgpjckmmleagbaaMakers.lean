/- The makers of the machines of rules, and MachineFor on the program's side. No condition. -/
import Derived.Test.YtgpjckmmleagbaaFwRow
import Derived.Test.YtgpjckmmleagbaaFwRun
import Derived.Test.YtgpjckmmleagbaaFwNever
import Derived.Test.YtgpjckmmleagbaaFwMost
import Derived.Test.YtgpjckmmleagbaaFwLeast2
import Derived.Test.YtgpjckmmleagbaaRuClos
import Derived.Test.YtgpjckmmleagbaaTrimmed2
namespace Go.Proofs.Ytgpjckmmleagbaa
open Go.RowKit

/-- the machine of a rule -/
def mfT (r : Ru) : M := ⟨(r.st : Int), tabTo r.nx r.st, endsTo r.endAt r.st⟩
def mf (r : Ru) : M := if r.ok = true then mfT r else ⟨0, [], []⟩
theorem Ru.mach {r : Ru} (h : r.ok = true) : (⟨(r.st : Int), (bfsTo r.on 0 r.st).2, (bfsTo r.on 0 r.st).1.map r.endAt⟩ : M) = mfT r := by
  rw [(Ru.fine h).1, (Ru.fine h).2, mfT, endsTo, List.map_map]; rfl
theorem Ru.len {r : Ru} (h : r.ok = true) : (bfsTo r.on 0 r.st).1.length = r.st := by rw [(Ru.fine h).1]; simp
def Ru.inP (r : Ru) (x : Int) : Prop := 0 ≤ x ∧ x < (r.st : Int)
theorem Ru.nx_bd {r : Ru} (h : r.ok = true) {x : Int} (hx : r.inP x) (l : Nat) : -1 ≤ r.nx x l ∧ r.nx x l < (r.st : Int) := by
  obtain ⟨kind, letter, thn, many⟩ := r
  obtain ⟨_, hr⟩ := Ru.ok_iff.1 h
  obtain ⟨h0, h1⟩ := hx
  simp only at hr
  simp only [Ru.nx, Ru.st] at h1 ⊢
  generalize (byteAt letter 0 == byteOf l) = its
  generalize (byteAt thn 0 == byteOf l) = th
  rcases hr with ⟨rfl, rfl, a, b⟩ | ⟨rfl, rfl, a, b⟩ | ⟨rfl, ht, rfl⟩ | ⟨rfl, rfl, a, b⟩ | ⟨rfl, rfl, a, b⟩
  · simp only [nxR] at h1 ⊢
    simp at h1 ⊢
    cases its <;> simp <;> (try split) <;> omega
  · simp only [nxR] at h1 ⊢
    simp at h1 ⊢
    cases its <;> simp <;> (try rw [Int.min_def]) <;> (try split) <;> (try omega)
  · simp only [nxR] at h1 ⊢
    simp at h1 ⊢
    cases its <;> cases th <;> simp <;> (try split) <;> omega
  · simp only [nxR] at h1 ⊢
    simp at h1 ⊢
    cases its <;> simp <;> (try rw [Int.min_def]) <;> (try split) <;> (try split) <;> (try omega)
  · simp only [nxR] at h1 ⊢
    simp at h1 ⊢
    cases its <;> simp <;> (try rw [Int.min_def]) <;> (try split) <;> (try omega)
theorem Ru.on_in {r : Ru} (h : r.ok = true) (x : Int) (hx : r.inP x) (l : Nat) (b : Int) (_hl : l < 3) (hb : r.on x l = some b) : r.inP b := by
  have h1 := Ru.nx_bd h hx l
  unfold Ru.on at hb
  split at hb
  · cases hb
  · cases hb
    exact ⟨by omega, h1.2⟩
theorem Ru.in0 {r : Ru} (h : r.ok = true) : r.inP 0 := ⟨Int.le_refl _, by have := Ru.st_bd h; omega⟩
theorem Ru.in_wf {r : Ru} (h : r.ok = true) (x : Int) (hx : r.inP x) : (Lit.int .i64 x).wf = true := WalkArith.wf_i64 (by have := Ru.st_bd h; have := hx.1; have := hx.2; omega)

set_option maxHeartbeats 1000000 in
theorem rowMaker_any (letter : ByteArray) (many : Int) (w : World) (hl : letterOk letter = true) (h0 : 0 ≤ many) (h4 : many ≤ 4) :
    Calls Try.prog 114 #[.agg #[.int .i64 0, .string letter, .string ⟨#[]⟩, .int .i64 many]] w (MachNew (mfT (Ru.mk 0 letter ⟨#[]⟩ many)) w) := by
  have hok : (Ru.mk 0 letter ⟨#[]⟩ many).ok = true := Ru.ok_iff.2 ⟨hl, .inl ⟨rfl, rfl, h0, h4⟩⟩
  have HF := Lib.hid (machineFromRow_any (Ru.mk 0 letter ⟨#[]⟩ many).on (Ru.mk 0 letter ⟨#[]⟩ many).endAt 0 (Ru.mk 0 letter ⟨#[]⟩ many).st (Ru.mk 0 letter ⟨#[]⟩ many).inP (.pointer (some ⟨w.heap.size, 0, none⟩)) ((w.alloc (.cells #[.int .i64 0, .string letter, .string ⟨#[]⟩, .int .i64 many] 45)).alloc (.cells #[.int .i64 0, .slice none 0 0, .slice none 0 0] 28))
    (Ru.len hok) (Nat.le_trans (Ru.st_bd hok).2 (by decide)) (Ru.in0 hok) (Ru.on_in hok) (Ru.in_wf hok)
    (fun W hW x hx l hl3 => row1_any letter ⟨#[]⟩ many w.heap.size W (((RuBox.new 0 letter ⟨#[]⟩ many 45).below ((Below.refl _ _).alloc (Nat.le_refl _) _)).below hW) hl x hx.1 (by have := hx.2; simp only [Ru.st] at this; simp at this; omega) h4 l hl3)
    (fun W hW x hx => (anyEnd_any x W).mono (by rintro e w' ⟨rfl, rfl⟩; exact ⟨rfl, Below.refl _ _⟩)))
  have HM := Lib.hid (Ru.mach hok)
  have q1 := ((Below.refl w.heap.size w).alloc (Nat.le_refl _) (.cells #[.int .i64 0, .string letter, .string ⟨#[]⟩, .int .i64 many] 45)).alloc (by simp) (.cells #[.int .i64 0, .slice none 0 0, .slice none 0 0] 28)
  have Q1 := Lib.hid q1
  clear q1 hok
  go_enter Try.func114, Try.ntmps114
  go_wp2_with fail
  refine HF.out.mono ?_
  clear HF
  rw [HM.out]
  generalize hTT : mfT (Ru.mk 0 letter ⟨#[]⟩ many) = T
  have HTT := Lib.hid hTT
  clear hTT
  rintro e w5 ⟨a1, a2, c1, c2, rfl, hA, hb5⟩
  have c0 := fun i => World.cell?_alloc_new (w.alloc (.cells #[.int .i64 0, .string letter, .string ⟨#[]⟩, .int .i64 many] 45)) #[.int .i64 0, .slice none 0 0, .slice none 0 0] 28 i
  have f0 := fun i => World.frozen?_alloc_new (w.alloc (.cells #[.int .i64 0, .string letter, .string ⟨#[]⟩, .int .i64 many] 45)) #[.int .i64 0, .slice none 0 0, .slice none 0 0] 28 i
  simp only [World.size_alloc] at c0 f0
  have h0 : w5.cell? ⟨w.heap.size + 1, 0, none⟩ = some (.int .i64 0) := (hb5.cell (p := ⟨w.heap.size + 1, 0, none⟩) (by simp)).trans (c0 0)
  have h1 : w5.cell? ⟨w.heap.size + 1, 1, none⟩ = some (.slice none 0 0) := (hb5.cell (p := ⟨w.heap.size + 1, 1, none⟩) (by simp)).trans (c0 1)
  have h2 : w5.cell? ⟨w.heap.size + 1, 2, none⟩ = some (.slice none 0 0) := (hb5.cell (p := ⟨w.heap.size + 1, 2, none⟩) (by simp)).trans (c0 2)
  have k0 := (hb5.frozen (p := ⟨w.heap.size + 1, 0, none⟩) (by simp)).trans (f0 0)
  have k1 := (hb5.frozen (p := ⟨w.heap.size + 1, 1, none⟩) (by simp)).trans (f0 1)
  have k2 := (hb5.frozen (p := ⟨w.heap.size + 1, 2, none⟩) (by simp)).trans (f0 2)
  have FI := Lib.hid (fin_cells (x := .int .i64 T.st) (y := .slice a1 T.next.length c1) (z := .slice a2 T.ends.length c2) (B := w.heap.size) (b := w.heap.size + 1) hA (Q1.out.trans (hb5.mono (by simp; omega))) (Nat.le_succ _) (by simp) (some3 h0 h1 h2) (by simp; omega))
  clear hA hb5 c0 f0
  go_wp2
  obtain ⟨r1, r2, r3, r4, r5⟩ := FI.out _ rfl
  refine bodyPost_ret (v := .agg #[.int .i64 T.st, .slice a1 T.next.length c1, .slice a2 T.ends.length c2]) ?_ rfl (by rw [HTT.out]; exact ⟨a1, a2, c1, c2, rfl, r1, r2⟩)
  simp [results, Try.results114, go_sem, r3, r4, r5]

set_option maxHeartbeats 1000000 in
theorem neverMaker_any (letter thn : ByteArray) (w : World) (hl : letterOk letter = true) (ht : letterOk thn = true) :
    Calls Try.prog 116 #[.agg #[.int .i64 2, .string letter, .string thn, .int .i64 0]] w (MachNew (mfT (Ru.mk 2 letter thn 0)) w) := by
  have hok : (Ru.mk 2 letter thn 0).ok = true := Ru.ok_iff.2 ⟨hl, .inr (.inr (.inl ⟨rfl, ht, rfl⟩))⟩
  have HF := Lib.hid (machineFromNever_any (Ru.mk 2 letter thn 0).on (Ru.mk 2 letter thn 0).endAt 0 (Ru.mk 2 letter thn 0).st (Ru.mk 2 letter thn 0).inP (.pointer (some ⟨w.heap.size, 0, none⟩)) ((w.alloc (.cells #[.int .i64 2, .string letter, .string thn, .int .i64 0] 45)).alloc (.cells #[.int .i64 0, .slice none 0 0, .slice none 0 0] 28))
    (Ru.len hok) (Nat.le_trans (Ru.st_bd hok).2 (by decide)) (Ru.in0 hok) (Ru.on_in hok) (Ru.in_wf hok)
    (fun W hW x hx l hl3 => never1_any letter thn 0 w.heap.size W (((RuBox.new 2 letter thn 0 45).below ((Below.refl _ _).alloc (Nat.le_refl _) _)).below hW) hl ht x hx.1 (by have := hx.2; simp only [Ru.st] at this; simp at this; omega) l hl3)
    (fun W hW x hx => (anyEnd_any x W).mono (by rintro e w' ⟨rfl, rfl⟩; exact ⟨rfl, Below.refl _ _⟩)))
  have HM := Lib.hid (Ru.mach hok)
  have q1 := ((Below.refl w.heap.size w).alloc (Nat.le_refl _) (.cells #[.int .i64 2, .string letter, .string thn, .int .i64 0] 45)).alloc (by simp) (.cells #[.int .i64 0, .slice none 0 0, .slice none 0 0] 28)
  have Q1 := Lib.hid q1
  clear q1 hok
  go_enter Try.func116, Try.ntmps116
  go_wp2_with fail
  refine HF.out.mono ?_
  clear HF
  rw [HM.out]
  generalize hTT : mfT (Ru.mk 2 letter thn 0) = T
  have HTT := Lib.hid hTT
  clear hTT
  rintro e w5 ⟨a1, a2, c1, c2, rfl, hA, hb5⟩
  have c0 := fun i => World.cell?_alloc_new (w.alloc (.cells #[.int .i64 2, .string letter, .string thn, .int .i64 0] 45)) #[.int .i64 0, .slice none 0 0, .slice none 0 0] 28 i
  have f0 := fun i => World.frozen?_alloc_new (w.alloc (.cells #[.int .i64 2, .string letter, .string thn, .int .i64 0] 45)) #[.int .i64 0, .slice none 0 0, .slice none 0 0] 28 i
  simp only [World.size_alloc] at c0 f0
  have h0 : w5.cell? ⟨w.heap.size + 1, 0, none⟩ = some (.int .i64 0) := (hb5.cell (p := ⟨w.heap.size + 1, 0, none⟩) (by simp)).trans (c0 0)
  have h1 : w5.cell? ⟨w.heap.size + 1, 1, none⟩ = some (.slice none 0 0) := (hb5.cell (p := ⟨w.heap.size + 1, 1, none⟩) (by simp)).trans (c0 1)
  have h2 : w5.cell? ⟨w.heap.size + 1, 2, none⟩ = some (.slice none 0 0) := (hb5.cell (p := ⟨w.heap.size + 1, 2, none⟩) (by simp)).trans (c0 2)
  have k0 := (hb5.frozen (p := ⟨w.heap.size + 1, 0, none⟩) (by simp)).trans (f0 0)
  have k1 := (hb5.frozen (p := ⟨w.heap.size + 1, 1, none⟩) (by simp)).trans (f0 1)
  have k2 := (hb5.frozen (p := ⟨w.heap.size + 1, 2, none⟩) (by simp)).trans (f0 2)
  have FI := Lib.hid (fin_cells (x := .int .i64 T.st) (y := .slice a1 T.next.length c1) (z := .slice a2 T.ends.length c2) (B := w.heap.size) (b := w.heap.size + 1) hA (Q1.out.trans (hb5.mono (by simp; omega))) (Nat.le_succ _) (by simp) (some3 h0 h1 h2) (by simp; omega))
  clear hA hb5 c0 f0
  go_wp2
  obtain ⟨r1, r2, r3, r4, r5⟩ := FI.out _ rfl
  refine bodyPost_ret (v := .agg #[.int .i64 T.st, .slice a1 T.next.length c1, .slice a2 T.ends.length c2]) ?_ rfl (by rw [HTT.out]; exact ⟨a1, a2, c1, c2, rfl, r1, r2⟩)
  simp [results, Try.results116, go_sem, r3, r4, r5]

set_option maxHeartbeats 1000000 in
theorem mostMaker_any (letter : ByteArray) (many : Int) (w : World) (hl : letterOk letter = true) (h0 : 0 ≤ many) (h4 : many ≤ 5) :
    Calls Try.prog 117 #[.agg #[.int .i64 3, .string letter, .string ⟨#[]⟩, .int .i64 many]] w (MachNew (mfT (Ru.mk 3 letter ⟨#[]⟩ many)) w) := by
  have hok : (Ru.mk 3 letter ⟨#[]⟩ many).ok = true := Ru.ok_iff.2 ⟨hl, .inr (.inr (.inr (.inl ⟨rfl, rfl, h0, h4⟩)))⟩
  have HF := Lib.hid (machineFromMost_any (Ru.mk 3 letter ⟨#[]⟩ many).on (Ru.mk 3 letter ⟨#[]⟩ many).endAt 0 (Ru.mk 3 letter ⟨#[]⟩ many).st (Ru.mk 3 letter ⟨#[]⟩ many).inP (.pointer (some ⟨w.heap.size, 0, none⟩)) ((w.alloc (.cells #[.int .i64 3, .string letter, .string ⟨#[]⟩, .int .i64 many] 45)).alloc (.cells #[.int .i64 0, .slice none 0 0, .slice none 0 0] 28))
    (Ru.len hok) (Nat.le_trans (Ru.st_bd hok).2 (by decide)) (Ru.in0 hok) (Ru.on_in hok) (Ru.in_wf hok)
    (fun W hW x hx l hl3 => most1_any letter ⟨#[]⟩ many w.heap.size W (((RuBox.new 3 letter ⟨#[]⟩ many 45).below ((Below.refl _ _).alloc (Nat.le_refl _) _)).below hW) hl x hx.1 (by have := hx.2; simp only [Ru.st] at this; simp at this; omega) h4 l hl3)
    (fun W hW x hx => (anyEnd_any x W).mono (by rintro e w' ⟨rfl, rfl⟩; exact ⟨rfl, Below.refl _ _⟩)))
  have HM := Lib.hid (Ru.mach hok)
  have q1 := ((Below.refl w.heap.size w).alloc (Nat.le_refl _) (.cells #[.int .i64 3, .string letter, .string ⟨#[]⟩, .int .i64 many] 45)).alloc (by simp) (.cells #[.int .i64 0, .slice none 0 0, .slice none 0 0] 28)
  have Q1 := Lib.hid q1
  clear q1 hok
  go_enter Try.func117, Try.ntmps117
  go_wp2_with fail
  refine HF.out.mono ?_
  clear HF
  rw [HM.out]
  generalize hTT : mfT (Ru.mk 3 letter ⟨#[]⟩ many) = T
  have HTT := Lib.hid hTT
  clear hTT
  rintro e w5 ⟨a1, a2, c1, c2, rfl, hA, hb5⟩
  have c0 := fun i => World.cell?_alloc_new (w.alloc (.cells #[.int .i64 3, .string letter, .string ⟨#[]⟩, .int .i64 many] 45)) #[.int .i64 0, .slice none 0 0, .slice none 0 0] 28 i
  have f0 := fun i => World.frozen?_alloc_new (w.alloc (.cells #[.int .i64 3, .string letter, .string ⟨#[]⟩, .int .i64 many] 45)) #[.int .i64 0, .slice none 0 0, .slice none 0 0] 28 i
  simp only [World.size_alloc] at c0 f0
  have h0 : w5.cell? ⟨w.heap.size + 1, 0, none⟩ = some (.int .i64 0) := (hb5.cell (p := ⟨w.heap.size + 1, 0, none⟩) (by simp)).trans (c0 0)
  have h1 : w5.cell? ⟨w.heap.size + 1, 1, none⟩ = some (.slice none 0 0) := (hb5.cell (p := ⟨w.heap.size + 1, 1, none⟩) (by simp)).trans (c0 1)
  have h2 : w5.cell? ⟨w.heap.size + 1, 2, none⟩ = some (.slice none 0 0) := (hb5.cell (p := ⟨w.heap.size + 1, 2, none⟩) (by simp)).trans (c0 2)
  have k0 := (hb5.frozen (p := ⟨w.heap.size + 1, 0, none⟩) (by simp)).trans (f0 0)
  have k1 := (hb5.frozen (p := ⟨w.heap.size + 1, 1, none⟩) (by simp)).trans (f0 1)
  have k2 := (hb5.frozen (p := ⟨w.heap.size + 1, 2, none⟩) (by simp)).trans (f0 2)
  have FI := Lib.hid (fin_cells (x := .int .i64 T.st) (y := .slice a1 T.next.length c1) (z := .slice a2 T.ends.length c2) (B := w.heap.size) (b := w.heap.size + 1) hA (Q1.out.trans (hb5.mono (by simp; omega))) (Nat.le_succ _) (by simp) (some3 h0 h1 h2) (by simp; omega))
  clear hA hb5 c0 f0
  go_wp2
  obtain ⟨r1, r2, r3, r4, r5⟩ := FI.out _ rfl
  refine bodyPost_ret (v := .agg #[.int .i64 T.st, .slice a1 T.next.length c1, .slice a2 T.ends.length c2]) ?_ rfl (by rw [HTT.out]; exact ⟨a1, a2, c1, c2, rfl, r1, r2⟩)
  simp [results, Try.results117, go_sem, r3, r4, r5]

set_option maxHeartbeats 1000000 in
theorem leastMaker_any (letter : ByteArray) (many : Int) (w : World) (hl : letterOk letter = true) (h0 : 1 ≤ many) (h4 : many ≤ 5) :
    Calls Try.prog 118 #[.agg #[.int .i64 4, .string letter, .string ⟨#[]⟩, .int .i64 many]] w (MachNew (mfT (Ru.mk 4 letter ⟨#[]⟩ many)) w) := by
  have hok : (Ru.mk 4 letter ⟨#[]⟩ many).ok = true := Ru.ok_iff.2 ⟨hl, .inr (.inr (.inr (.inr ⟨rfl, rfl, h0, h4⟩)))⟩
  have HF := Lib.hid (machineFromLeast2_any (Ru.mk 4 letter ⟨#[]⟩ many).on (Ru.mk 4 letter ⟨#[]⟩ many).endAt 0 (Ru.mk 4 letter ⟨#[]⟩ many).st (Ru.mk 4 letter ⟨#[]⟩ many).inP (.pointer (some ⟨w.heap.size, 0, none⟩)) ((w.alloc (.cells #[.int .i64 4, .string letter, .string ⟨#[]⟩, .int .i64 many] 45)).alloc (.cells #[.int .i64 0, .slice none 0 0, .slice none 0 0] 28))
    (Ru.len hok) (Nat.le_trans (Ru.st_bd hok).2 (by decide)) (Ru.in0 hok) (Ru.on_in hok) (Ru.in_wf hok)
    (fun W hW x hx l hl3 => least1_any letter ⟨#[]⟩ many w.heap.size W (((RuBox.new 4 letter ⟨#[]⟩ many 45).below ((Below.refl _ _).alloc (Nat.le_refl _) _)).below hW) hl x hx.1 (by have := hx.2; simp only [Ru.st] at this; simp at this; omega) h4 l hl3)
    (fun W hW x hx => least2_any letter ⟨#[]⟩ many w.heap.size W (((RuBox.new 4 letter ⟨#[]⟩ many 45).below ((Below.refl _ _).alloc (Nat.le_refl _) _)).below hW) x))
  have HM := Lib.hid (Ru.mach hok)
  have q1 := ((Below.refl w.heap.size w).alloc (Nat.le_refl _) (.cells #[.int .i64 4, .string letter, .string ⟨#[]⟩, .int .i64 many] 45)).alloc (by simp) (.cells #[.int .i64 0, .slice none 0 0, .slice none 0 0] 28)
  have Q1 := Lib.hid q1
  clear q1 hok
  go_enter Try.func118, Try.ntmps118
  go_wp2_with fail
  refine HF.out.mono ?_
  clear HF
  rw [HM.out]
  generalize hTT : mfT (Ru.mk 4 letter ⟨#[]⟩ many) = T
  have HTT := Lib.hid hTT
  clear hTT
  rintro e w5 ⟨a1, a2, c1, c2, rfl, hA, hb5⟩
  have c0 := fun i => World.cell?_alloc_new (w.alloc (.cells #[.int .i64 4, .string letter, .string ⟨#[]⟩, .int .i64 many] 45)) #[.int .i64 0, .slice none 0 0, .slice none 0 0] 28 i
  have f0 := fun i => World.frozen?_alloc_new (w.alloc (.cells #[.int .i64 4, .string letter, .string ⟨#[]⟩, .int .i64 many] 45)) #[.int .i64 0, .slice none 0 0, .slice none 0 0] 28 i
  simp only [World.size_alloc] at c0 f0
  have h0 : w5.cell? ⟨w.heap.size + 1, 0, none⟩ = some (.int .i64 0) := (hb5.cell (p := ⟨w.heap.size + 1, 0, none⟩) (by simp)).trans (c0 0)
  have h1 : w5.cell? ⟨w.heap.size + 1, 1, none⟩ = some (.slice none 0 0) := (hb5.cell (p := ⟨w.heap.size + 1, 1, none⟩) (by simp)).trans (c0 1)
  have h2 : w5.cell? ⟨w.heap.size + 1, 2, none⟩ = some (.slice none 0 0) := (hb5.cell (p := ⟨w.heap.size + 1, 2, none⟩) (by simp)).trans (c0 2)
  have k0 := (hb5.frozen (p := ⟨w.heap.size + 1, 0, none⟩) (by simp)).trans (f0 0)
  have k1 := (hb5.frozen (p := ⟨w.heap.size + 1, 1, none⟩) (by simp)).trans (f0 1)
  have k2 := (hb5.frozen (p := ⟨w.heap.size + 1, 2, none⟩) (by simp)).trans (f0 2)
  have FI := Lib.hid (fin_cells (x := .int .i64 T.st) (y := .slice a1 T.next.length c1) (z := .slice a2 T.ends.length c2) (B := w.heap.size) (b := w.heap.size + 1) hA (Q1.out.trans (hb5.mono (by simp; omega))) (Nat.le_succ _) (by simp) (some3 h0 h1 h2) (by simp; omega))
  clear hA hb5 c0 f0
  go_wp2
  obtain ⟨r1, r2, r3, r4, r5⟩ := FI.out _ rfl
  refine bodyPost_ret (v := .agg #[.int .i64 T.st, .slice a1 T.next.length c1, .slice a2 T.ends.length c2]) ?_ rfl (by rw [HTT.out]; exact ⟨a1, a2, c1, c2, rfl, r1, r2⟩)
  simp [results, Try.results118, go_sem, r3, r4, r5]

end Go.Proofs.Ytgpjckmmleagbaa
