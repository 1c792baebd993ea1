/- Drawing a rule and a word. No condition. The walks of FnWordOk and FnLetterOk: true at every code. No condition. The makers of the machines of rules, and MachineFor on the program's side. No condition. The maker of machines for rules of runs. No condition. MachineFor on the program's side. No condition. MachineFor on the program's side, for one kind of rules. No condition. MachineFor on the program's side, for one kind of rules. No condition. MachineFor on the program's side, for one kind of rules. No condition. MachineFor on the program's side, for one kind of rules. No condition. MachineFor on the program's side, for one kind of rules. No condition. The machine of a rule, and where a word breaks a rule, as plain data. No program's walk, no condition. MachineFor on the program's side, for every rule. No condition. spec.l3Next: the state of a rule after a letter. No condition. spec.BrokenAt. No condition. StateAfter and TakesOk, the model's and the program's. No condition. impl.BrokenAt. No condition. The fold over the letters of a word, for BrokenAt. No condition. BrokenAt on the program's side, for every rule and text. No condition. spec.RunsOf: what it returns, for every text. KeepsRule on the model's side. No condition. KeepsRule on the model's side, for rules of runs. No condition. KeepsRule on both sides, for every rule and text; the walk of FnExactKeepsRule. Condition: the library's variable MaxLen holds some number. TakesOk, the model's and the program's. No condition. More plain mathematics of runs: back, twice, the greatest. No program, no condition. A rule and its machine say the same; a rule and the word back. No program's walk, no condition. A rule and its machine say the same; a rule and the word back; where a word breaks a rule. No program's walk, no condition. The walk of FnBrokenAt: true at every code. Condition: the library's variable MaxLen holds some number. -/
import Derived.Test.YtgpjckmmleagbabDrawnR
import Derived.Test.YtgpjckmmleagbabDrawn1
import Derived.Test.YtgpjckmmleagbabFwRow
import Derived.Test.YtgpjckmmleagbabFwRun
import Derived.Test.YtgpjckmmleagbabFwNever
import Derived.Test.YtgpjckmmleagbabFwMost
import Derived.Test.YtgpjckmmleagbabFwLeast2
import Derived.Test.YtgpjckmmleagbabRuClos
import Derived.Test.YtgpjckmmleagbabTrimmed2
import Derived.Deep.RegionWith
import Derived.Test.YtgpjckmmleagbabKeeps
import Derived.Test.YtgpjckmmleagbabStep
import Derived.Test.YtgpjckmmleagbabImplMachOk
import Derived.Test.YtgpjckmmleagbabTrim
import Derived.Test.YtgpjckmmleagbabRunsOf
import Derived.Test.YtgpjckmmleagbabMathR

namespace Go.Proofs.Ytgpjckmmleagbab
open Go.RowKit

def KeptPost (B R : Nat) (a : Option Addr) (len cap k : Nat) (w : World) (e : Ending) (w' : World) : Prop :=
  ∃ (kind : Int) (letter thn : ByteArray) (many : Int) (s : ByteArray), e = .returned (.tuple #[.agg #[.int .i64 kind, .string letter, .string thn, .int .i64 many], .string s]) ∧ 0 ≤ kind ∧ kind ≤ 5 ∧ letter.size = 1 ∧ thn.size ≤ 1 ∧ -1 ≤ many ∧ many ≤ 6 ∧ s.size ≤ 23 ∧
    ∃ k', k ≤ k' ∧ k' ≤ k + 40 ∧ RdAt B R a len cap k' w' ∧ KeepsBut R w w'

set_option maxHeartbeats 800000 in
theorem l20Kept_any (B R : Nat) (a : Option Addr) (len cap k : Nat) (w : World) (H : RdAt B R a len cap k w) (hk : k ≤ 800000) :
    Calls Try.prog 89 #[.pointer (some ⟨R, 0, none⟩)] w (KeptPost B R a len cap k w) := by
  have F0 := Lib.hid (RuF.new w 0 ⟨#[]⟩ ⟨#[]⟩ 0 46)
  have R0 := Lib.hid (H.keeps ((Below.refl _ w).alloc (Nat.le_refl _) (.cells #[.int .i64 0, .string ⟨#[]⟩, .string ⟨#[]⟩, .int .i64 0] 46)))
  have K0 := Lib.hid ((KeepsBut.refl R w).alloc (.cells #[.int .i64 0, .string ⟨#[]⟩, .string ⟨#[]⟩, .int .i64 0] 46))
  have hne : w.heap.size ≠ R := Nat.ne_of_gt H.hR
  have HNE := Lib.hid hne
  have HBR := Lib.hid (And.intro H.hB H.hR)
  clear H hne
  go_enter Try.func89, Try.ntmps89
  go_wp2_with fail
  refine (l20Rule_any B R a len cap k 12 _ R0.out (by omega) (by omega) (by omega)).mono ?_
  rintro e w2 ⟨kind, letter, thn, many, rfl, p1, p2, p3, p4, p5, p6, k2, hk1, hk2, hR2, hK2⟩
  have F2 := Lib.hid (F0.out.keeps hK2 HNE.out)
  have K2 := Lib.hid (K0.out.trans hK2)
  have R2 := Lib.hid hR2
  clear hR2 hK2 F0 K0 R0
  go_wp2_with fail
  refine (l20Word_any B R a len cap k2 12 _ R2.out (by omega) (by omega) (by omega)).mono ?_
  rintro e w3 ⟨s, rfl, hs, k3, hk3, hk4, hR3, hK3⟩
  have F3 := Lib.hid (F2.out.keeps hK3 HNE.out)
  have K3 := Lib.hid (K2.out.trans hK3)
  have FI : ∀ W, W = (((w3.setCell ⟨w.heap.size, 0, none⟩ (.int .i64 kind)).setCell ⟨w.heap.size, 1, none⟩ (.string letter)).setCell ⟨w.heap.size, 2, none⟩ (.string thn)).setCell ⟨w.heap.size, 3, none⟩ (.int .i64 many) →
      W.cell? ⟨w.heap.size, 0, none⟩ = some (.int .i64 kind) ∧ W.cell? ⟨w.heap.size, 1, none⟩ = some (.string letter) ∧ W.cell? ⟨w.heap.size, 2, none⟩ = some (.string thn) ∧ W.cell? ⟨w.heap.size, 3, none⟩ = some (.int .i64 many) ∧ RdAt B R a len cap k3 W ∧ KeepsBut R w W := by
    rintro W rfl
    have b0 := F3.out.c0
    have b1 := F3.out.c1
    have b2 := F3.out.c2
    have b3 := F3.out.c3
    have hB : B ≤ w.heap.size := by have := HBR.out; omega
    refine ⟨by go_simp, by go_simp, by go_simp, by go_simp, (((hR3.other _ 0 _ HNE.out hB).other _ 1 _ HNE.out hB).other _ 2 _ HNE.out hB).other _ 3 _ HNE.out hB, ?_⟩
    have hsame : ∀ (x : World) (i : Nat) (u : Value), KeepsBut R w x → KeepsBut R w (x.setCell ⟨w.heap.size, i, none⟩ u) := fun x i u hx =>
      ⟨hx.os, hx.tape, hx.output, by simpa using hx.size, fun j hj hr => (Below.heap_setCell x ⟨w.heap.size, i, none⟩ u j (by show j ≠ w.heap.size; omega)).trans (hx.block j hj hr)⟩
    exact hsame _ _ _ (hsame _ _ _ (hsame _ _ _ (hsame _ _ _ K3.out)))
  have FIH := Lib.hid FI
  have y0 := F3.out.c0
  have y1 := F3.out.c1
  have y2 := F3.out.c2
  have y3 := F3.out.c3
  have f0 := F3.out.f 0
  have f1 := F3.out.f 1
  have f2 := F3.out.f 2
  have f3 := F3.out.f 3
  clear FI hR3 hK3
  go_wp2
  obtain ⟨r0, r1, r2, r3, r4, r5⟩ := FIH.out _ rfl
  refine bodyPost_ret (v := .tuple #[.agg #[.int .i64 kind, .string letter, .string thn, .int .i64 many], .string s]) ?_ rfl ⟨kind, letter, thn, many, s, rfl, p1, p2, p3, p4, p5, p6, hs, k3, by omega, by omega, r4, r5⟩
  simp [results, Try.results89, go_sem, r0, r1, r2, r3]

set_option maxHeartbeats 800000 in
theorem drawKeepsRule_any (a : Option Addr) (len cap : Nat) (zs : List Int) (w : World) (h : IsRow .u8 w a len cap zs) :
    Calls Try.prog 47 #[.slice a len cap] w (RuleWordRes w) := by
  have H0 := h.below2 ((Below.refl w.heap.size w).alloc (Nat.le_refl _) (.cells #[.int .i64 0, .string ⟨#[]⟩, .string ⟨#[]⟩, .int .i64 0] 46))
  have HO := Lib.hid (l20Open_any a len cap zs _ H0)
  have F0 := Lib.hid (RuF.new w 0 ⟨#[]⟩ ⟨#[]⟩ 0 46)
  clear H0 h
  go_enter Try.func47, Try.ntmps47
  go_wp2_with fail
  refine HO.out.mono ?_
  clear HO
  rintro e w1 ⟨a1, len1, cap1, rfl, hR, hb1⟩
  have F1 := Lib.hid (F0.out.keeps (R := w.heap.size + 1) (KeepsBut.of_below hb1) (by omega))
  have q1 := Lib.hid (((Below.refl w.heap.size w).alloc (Nat.le_refl _) (.cells #[.int .i64 0, .string ⟨#[]⟩, .string ⟨#[]⟩, .int .i64 0] 46)).trans (hb1.mono (by simp)))
  simp only [World.size_alloc] at hR hb1
  go_wp2_with fail
  refine (l20Kept_any _ _ a1 len1 cap1 0 w1 hR (by omega)).mono ?_
  rintro e w2 ⟨kind, letter, thn, many, s, rfl, p1, p2, p3, p4, p5, p6, p7, k2, hk1, hk2, hR2, hK2⟩
  have F2 := Lib.hid (F1.out.keeps hK2 (by omega))
  have q2 : Below w.heap.size w w2 := q1.out.trans (hK2.below (by omega) q1.out.size)
  have FI := Lib.hid (fun W hW => laid4 (kind := kind) (letter := letter) (thn := thn) (many := many) F2.out q2 (Nat.le_refl _) (W := W) hW)
  have y0 := F2.out.c0
  have y1 := F2.out.c1
  have y2 := F2.out.c2
  have y3 := F2.out.c3
  have f0 := F2.out.f 0
  have f1 := F2.out.f 1
  have f2 := F2.out.f 2
  have f3 := F2.out.f 3
  clear q2 hR hb1 hR2 hK2
  go_wp2
  obtain ⟨r0, r1, r2, r3, r4⟩ := FI.out _ rfl
  refine bodyPost_ret (v := .tuple #[.agg #[.int .i64 kind, .string letter, .string thn, .int .i64 many], .string s]) ?_ rfl ⟨kind, letter, thn, many, s, rfl, p1, p2, p3, p4, p5, p6, p7, r4⟩
  simp [results, Try.results47, go_sem, r0, r1, r2, r3]

set_option maxHeartbeats 800000 in
theorem drawBrokenAt_any (a : Option Addr) (len cap : Nat) (zs : List Int) (w : World) (h : IsRow .u8 w a len cap zs) :
    Calls Try.prog 54 #[.slice a len cap] w (RuleWordRes w) := by
  have H0 := h.below2 ((Below.refl w.heap.size w).alloc (Nat.le_refl _) (.cells #[.int .i64 0, .string ⟨#[]⟩, .string ⟨#[]⟩, .int .i64 0] 46))
  have HO := Lib.hid (l20Open_any a len cap zs _ H0)
  have F0 := Lib.hid (RuF.new w 0 ⟨#[]⟩ ⟨#[]⟩ 0 46)
  clear H0 h
  go_enter Try.func54, Try.ntmps54
  go_wp2_with fail
  refine HO.out.mono ?_
  clear HO
  rintro e w1 ⟨a1, len1, cap1, rfl, hR, hb1⟩
  have F1 := Lib.hid (F0.out.keeps (R := w.heap.size + 1) (KeepsBut.of_below hb1) (by omega))
  have q1 := Lib.hid (((Below.refl w.heap.size w).alloc (Nat.le_refl _) (.cells #[.int .i64 0, .string ⟨#[]⟩, .string ⟨#[]⟩, .int .i64 0] 46)).trans (hb1.mono (by simp)))
  simp only [World.size_alloc] at hR hb1
  go_wp2_with fail
  refine (l20Kept_any _ _ a1 len1 cap1 0 w1 hR (by omega)).mono ?_
  rintro e w2 ⟨kind, letter, thn, many, s, rfl, p1, p2, p3, p4, p5, p6, p7, k2, hk1, hk2, hR2, hK2⟩
  have F2 := Lib.hid (F1.out.keeps hK2 (by omega))
  have q2 : Below w.heap.size w w2 := q1.out.trans (hK2.below (by omega) q1.out.size)
  have FI := Lib.hid (fun W hW => laid4 (kind := kind) (letter := letter) (thn := thn) (many := many) F2.out q2 (Nat.le_refl _) (W := W) hW)
  have y0 := F2.out.c0
  have y1 := F2.out.c1
  have y2 := F2.out.c2
  have y3 := F2.out.c3
  have f0 := F2.out.f 0
  have f1 := F2.out.f 1
  have f2 := F2.out.f 2
  have f3 := F2.out.f 3
  clear q2 hR hb1 hR2 hK2
  go_wp2
  obtain ⟨r0, r1, r2, r3, r4⟩ := FI.out _ rfl
  refine bodyPost_ret (v := .tuple #[.agg #[.int .i64 kind, .string letter, .string thn, .int .i64 many], .string s]) ?_ rfl ⟨kind, letter, thn, many, s, rfl, p1, p2, p3, p4, p5, p6, p7, r4⟩
  simp [results, Try.results54, go_sem, r0, r1, r2, r3]
end Go.Proofs.Ytgpjckmmleagbab

namespace Go.Proofs.Ytgpjckmmleagbab
open Go.RowKit

theorem alive_any (w : World) : Calls Try.prog 20 #[] w fun e w' => e = .returned (.bool true) ∧ w = w' := by
  have h1 : wordOk ⟨#[114, 100, 110]⟩ = true := by decide +kernel
  have h2 : wordOk ⟨#[120]⟩ = false := by decide +kernel
  go_enter Try.func20, Try.ntmps20
  go_wp2_with (go_at_call 63; refine (implWordOk_any _ _ (by decide)).mono ?_; rintro e w' ⟨rfl, rfl⟩)
  go_ret
  exact ⟨rfl, rfl⟩

theorem wordOk_init (s : ByteArray) (h : wordOk s = true) (h0 : 0 < s.size) : wordOk (s.extract 0 (s.size - 1)) = true := by
  simp only [wordOk, Bool.and_eq_true, decide_eq_true_eq, allL, List.all_eq_true] at h ⊢
  refine ⟨fun x hx => h.1 x ?_, ?_⟩
  · rw [ByteArray.data_extract, Array.toList_extract, List.extract_eq_take_drop] at hx
    exact List.mem_of_mem_take hx
  · rw [ByteArray.size_extract]; omega
theorem wordOk_twice (s : ByteArray) (h : wordOk s = true) (h0 : 2 * s.size ≤ 14) : wordOk (s ++ s) = true := by
  simp only [wordOk, Bool.and_eq_true, decide_eq_true_eq, allL, List.all_eq_true] at h ⊢
  refine ⟨fun x hx => h.1 x ?_, ?_⟩
  · rw [ByteArray.data_append, Array.toList_append, List.mem_append] at hx
    exact hx.elim id id
  · rw [ByteArray.size_append]; omega

theorem letterOk_def1 (s : ByteArray) (h : s.size = 1) : letterOk s = wordOk s := by simp [letterOk, h]

end Go.Proofs.Ytgpjckmmleagbab

namespace Go.Proofs.Ytgpjckmmleagbab
open Go.RowKit

/-- the machine of a rule -/
def mfT (r : Ru) : M := ⟨(r.st : Int), tabTo r.nx r.st, endsTo r.endAt r.st⟩
def mf (r : Ru) : M := if r.ok = true then mfT r else ⟨0, [], []⟩
theorem Ru.mach {r : Ru} (h : r.ok = true) : (⟨(r.st : Int), (bfsTo r.on 0 r.st).2, (bfsTo r.on 0 r.st).1.map r.endAt⟩ : M) = mfT r := by
  rw [(Ru.fine h).1, (Ru.fine h).2, mfT, endsTo, List.map_map]; rfl
theorem Ru.len {r : Ru} (h : r.ok = true) : (bfsTo r.on 0 r.st).1.length = r.st := by rw [(Ru.fine h).1]; simp
def Ru.inP (r : Ru) (x : Int) : Prop := 0 ≤ x ∧ x < (r.st : Int)
theorem Ru.nx_bd {r : Ru} (h : r.ok = true) {x : Int} (hx : r.inP x) (l : Nat) : -1 ≤ r.nx x l ∧ r.nx x l < (r.st : Int) := by
  obtain ⟨kind, letter, thn, many⟩ := r
  obtain ⟨_, hr⟩ := Ru.ok_iff.1 h
  obtain ⟨h0, h1⟩ := hx
  simp only at hr
  simp only [Ru.nx, Ru.st] at h1 ⊢
  generalize (byteAt letter 0 == byteOf l) = its
  generalize (byteAt thn 0 == byteOf l) = th
  rcases hr with ⟨rfl, rfl, a, b⟩ | ⟨rfl, rfl, a, b⟩ | ⟨rfl, ht, rfl⟩ | ⟨rfl, rfl, a, b⟩ | ⟨rfl, rfl, a, b⟩
  · simp only [nxR] at h1 ⊢
    simp at h1 ⊢
    cases its <;> simp <;> (try split) <;> omega
  · simp only [nxR] at h1 ⊢
    simp at h1 ⊢
    cases its <;> simp <;> (try rw [Int.min_def]) <;> (try split) <;> (try omega)
  · simp only [nxR] at h1 ⊢
    simp at h1 ⊢
    cases its <;> cases th <;> simp <;> (try split) <;> omega
  · simp only [nxR] at h1 ⊢
    simp at h1 ⊢
    cases its <;> simp <;> (try rw [Int.min_def]) <;> (try split) <;> (try split) <;> (try omega)
  · simp only [nxR] at h1 ⊢
    simp at h1 ⊢
    cases its <;> simp <;> (try rw [Int.min_def]) <;> (try split) <;> (try omega)
theorem Ru.on_in {r : Ru} (h : r.ok = true) (x : Int) (hx : r.inP x) (l : Nat) (b : Int) (_hl : l < 3) (hb : r.on x l = some b) : r.inP b := by
  have h1 := Ru.nx_bd h hx l
  unfold Ru.on at hb
  split at hb
  · cases hb
  · cases hb
    exact ⟨by omega, h1.2⟩
theorem Ru.in0 {r : Ru} (h : r.ok = true) : r.inP 0 := ⟨Int.le_refl _, by have := Ru.st_bd h; omega⟩
theorem Ru.in_wf {r : Ru} (h : r.ok = true) (x : Int) (hx : r.inP x) : (Lit.int .i64 x).wf = true := WalkArith.wf_i64 (by have := Ru.st_bd h; have := hx.1; have := hx.2; omega)

set_option maxHeartbeats 1000000 in
theorem rowMaker_any (letter : ByteArray) (many : Int) (w : World) (hl : letterOk letter = true) (h0 : 0 ≤ many) (h4 : many ≤ 4) :
    Calls Try.prog 123 #[.agg #[.int .i64 0, .string letter, .string ⟨#[]⟩, .int .i64 many]] w (MachNew (mfT (Ru.mk 0 letter ⟨#[]⟩ many)) w) := by
  have hok : (Ru.mk 0 letter ⟨#[]⟩ many).ok = true := Ru.ok_iff.2 ⟨hl, .inl ⟨rfl, rfl, h0, h4⟩⟩
  have HF := Lib.hid (machineFromRow_any (Ru.mk 0 letter ⟨#[]⟩ many).on (Ru.mk 0 letter ⟨#[]⟩ many).endAt 0 (Ru.mk 0 letter ⟨#[]⟩ many).st (Ru.mk 0 letter ⟨#[]⟩ many).inP (.pointer (some ⟨w.heap.size, 0, none⟩)) ((w.alloc (.cells #[.int .i64 0, .string letter, .string ⟨#[]⟩, .int .i64 many] 46)).alloc (.cells #[.int .i64 0, .slice none 0 0, .slice none 0 0] 26))
    (Ru.len hok) (Nat.le_trans (Ru.st_bd hok).2 (by decide)) (Ru.in0 hok) (Ru.on_in hok) (Ru.in_wf hok)
    (fun W hW x hx l hl3 => row1_any letter ⟨#[]⟩ many w.heap.size W (((RuBox.new 0 letter ⟨#[]⟩ many 46).below ((Below.refl _ _).alloc (Nat.le_refl _) _)).below hW) hl x hx.1 (by have := hx.2; simp only [Ru.st] at this; simp at this; omega) h4 l hl3)
    (fun W hW x hx => (anyEnd_any x W).mono (by rintro e w' ⟨rfl, rfl⟩; exact ⟨rfl, Below.refl _ _⟩)))
  have HM := Lib.hid (Ru.mach hok)
  have q1 := ((Below.refl w.heap.size w).alloc (Nat.le_refl _) (.cells #[.int .i64 0, .string letter, .string ⟨#[]⟩, .int .i64 many] 46)).alloc (by simp) (.cells #[.int .i64 0, .slice none 0 0, .slice none 0 0] 26)
  have Q1 := Lib.hid q1
  clear q1 hok
  go_enter Try.func123, Try.ntmps123
  go_wp2_with fail
  refine HF.out.mono ?_
  clear HF
  rw [HM.out]
  generalize hTT : mfT (Ru.mk 0 letter ⟨#[]⟩ many) = T
  have HTT := Lib.hid hTT
  clear hTT
  rintro e w5 ⟨a1, a2, c1, c2, rfl, hA, hb5⟩
  have c0 := fun i => World.cell?_alloc_new (w.alloc (.cells #[.int .i64 0, .string letter, .string ⟨#[]⟩, .int .i64 many] 46)) #[.int .i64 0, .slice none 0 0, .slice none 0 0] 26 i
  have f0 := fun i => World.frozen?_alloc_new (w.alloc (.cells #[.int .i64 0, .string letter, .string ⟨#[]⟩, .int .i64 many] 46)) #[.int .i64 0, .slice none 0 0, .slice none 0 0] 26 i
  simp only [World.size_alloc] at c0 f0
  have h0 : w5.cell? ⟨w.heap.size + 1, 0, none⟩ = some (.int .i64 0) := (hb5.cell (p := ⟨w.heap.size + 1, 0, none⟩) (by simp)).trans (c0 0)
  have h1 : w5.cell? ⟨w.heap.size + 1, 1, none⟩ = some (.slice none 0 0) := (hb5.cell (p := ⟨w.heap.size + 1, 1, none⟩) (by simp)).trans (c0 1)
  have h2 : w5.cell? ⟨w.heap.size + 1, 2, none⟩ = some (.slice none 0 0) := (hb5.cell (p := ⟨w.heap.size + 1, 2, none⟩) (by simp)).trans (c0 2)
  have k0 := (hb5.frozen (p := ⟨w.heap.size + 1, 0, none⟩) (by simp)).trans (f0 0)
  have k1 := (hb5.frozen (p := ⟨w.heap.size + 1, 1, none⟩) (by simp)).trans (f0 1)
  have k2 := (hb5.frozen (p := ⟨w.heap.size + 1, 2, none⟩) (by simp)).trans (f0 2)
  have FI := Lib.hid (fin_cells (x := .int .i64 T.st) (y := .slice a1 T.next.length c1) (z := .slice a2 T.ends.length c2) (B := w.heap.size) (b := w.heap.size + 1) hA (Q1.out.trans (hb5.mono (by simp; omega))) (Nat.le_succ _) (by simp) (some3 h0 h1 h2) (by simp; omega))
  clear hA hb5 c0 f0
  go_wp2
  obtain ⟨r1, r2, r3, r4, r5⟩ := FI.out _ rfl
  refine bodyPost_ret (v := .agg #[.int .i64 T.st, .slice a1 T.next.length c1, .slice a2 T.ends.length c2]) ?_ rfl (by rw [HTT.out]; exact ⟨a1, a2, c1, c2, rfl, r1, r2⟩)
  simp [results, Try.results123, go_sem, r3, r4, r5]

set_option maxHeartbeats 1000000 in
theorem neverMaker_any (letter thn : ByteArray) (w : World) (hl : letterOk letter = true) (ht : letterOk thn = true) :
    Calls Try.prog 125 #[.agg #[.int .i64 2, .string letter, .string thn, .int .i64 0]] w (MachNew (mfT (Ru.mk 2 letter thn 0)) w) := by
  have hok : (Ru.mk 2 letter thn 0).ok = true := Ru.ok_iff.2 ⟨hl, .inr (.inr (.inl ⟨rfl, ht, rfl⟩))⟩
  have HF := Lib.hid (machineFromNever_any (Ru.mk 2 letter thn 0).on (Ru.mk 2 letter thn 0).endAt 0 (Ru.mk 2 letter thn 0).st (Ru.mk 2 letter thn 0).inP (.pointer (some ⟨w.heap.size, 0, none⟩)) ((w.alloc (.cells #[.int .i64 2, .string letter, .string thn, .int .i64 0] 46)).alloc (.cells #[.int .i64 0, .slice none 0 0, .slice none 0 0] 26))
    (Ru.len hok) (Nat.le_trans (Ru.st_bd hok).2 (by decide)) (Ru.in0 hok) (Ru.on_in hok) (Ru.in_wf hok)
    (fun W hW x hx l hl3 => never1_any letter thn 0 w.heap.size W (((RuBox.new 2 letter thn 0 46).below ((Below.refl _ _).alloc (Nat.le_refl _) _)).below hW) hl ht x hx.1 (by have := hx.2; simp only [Ru.st] at this; simp at this; omega) l hl3)
    (fun W hW x hx => (anyEnd_any x W).mono (by rintro e w' ⟨rfl, rfl⟩; exact ⟨rfl, Below.refl _ _⟩)))
  have HM := Lib.hid (Ru.mach hok)
  have q1 := ((Below.refl w.heap.size w).alloc (Nat.le_refl _) (.cells #[.int .i64 2, .string letter, .string thn, .int .i64 0] 46)).alloc (by simp) (.cells #[.int .i64 0, .slice none 0 0, .slice none 0 0] 26)
  have Q1 := Lib.hid q1
  clear q1 hok
  go_enter Try.func125, Try.ntmps125
  go_wp2_with fail
  refine HF.out.mono ?_
  clear HF
  rw [HM.out]
  generalize hTT : mfT (Ru.mk 2 letter thn 0) = T
  have HTT := Lib.hid hTT
  clear hTT
  rintro e w5 ⟨a1, a2, c1, c2, rfl, hA, hb5⟩
  have c0 := fun i => World.cell?_alloc_new (w.alloc (.cells #[.int .i64 2, .string letter, .string thn, .int .i64 0] 46)) #[.int .i64 0, .slice none 0 0, .slice none 0 0] 26 i
  have f0 := fun i => World.frozen?_alloc_new (w.alloc (.cells #[.int .i64 2, .string letter, .string thn, .int .i64 0] 46)) #[.int .i64 0, .slice none 0 0, .slice none 0 0] 26 i
  simp only [World.size_alloc] at c0 f0
  have h0 : w5.cell? ⟨w.heap.size + 1, 0, none⟩ = some (.int .i64 0) := (hb5.cell (p := ⟨w.heap.size + 1, 0, none⟩) (by simp)).trans (c0 0)
  have h1 : w5.cell? ⟨w.heap.size + 1, 1, none⟩ = some (.slice none 0 0) := (hb5.cell (p := ⟨w.heap.size + 1, 1, none⟩) (by simp)).trans (c0 1)
  have h2 : w5.cell? ⟨w.heap.size + 1, 2, none⟩ = some (.slice none 0 0) := (hb5.cell (p := ⟨w.heap.size + 1, 2, none⟩) (by simp)).trans (c0 2)
  have k0 := (hb5.frozen (p := ⟨w.heap.size + 1, 0, none⟩) (by simp)).trans (f0 0)
  have k1 := (hb5.frozen (p := ⟨w.heap.size + 1, 1, none⟩) (by simp)).trans (f0 1)
  have k2 := (hb5.frozen (p := ⟨w.heap.size + 1, 2, none⟩) (by simp)).trans (f0 2)
  have FI := Lib.hid (fin_cells (x := .int .i64 T.st) (y := .slice a1 T.next.length c1) (z := .slice a2 T.ends.length c2) (B := w.heap.size) (b := w.heap.size + 1) hA (Q1.out.trans (hb5.mono (by simp; omega))) (Nat.le_succ _) (by simp) (some3 h0 h1 h2) (by simp; omega))
  clear hA hb5 c0 f0
  go_wp2
  obtain ⟨r1, r2, r3, r4, r5⟩ := FI.out _ rfl
  refine bodyPost_ret (v := .agg #[.int .i64 T.st, .slice a1 T.next.length c1, .slice a2 T.ends.length c2]) ?_ rfl (by rw [HTT.out]; exact ⟨a1, a2, c1, c2, rfl, r1, r2⟩)
  simp [results, Try.results125, go_sem, r3, r4, r5]

set_option maxHeartbeats 1000000 in
theorem mostMaker_any (letter : ByteArray) (many : Int) (w : World) (hl : letterOk letter = true) (h0 : 0 ≤ many) (h4 : many ≤ 5) :
    Calls Try.prog 126 #[.agg #[.int .i64 3, .string letter, .string ⟨#[]⟩, .int .i64 many]] w (MachNew (mfT (Ru.mk 3 letter ⟨#[]⟩ many)) w) := by
  have hok : (Ru.mk 3 letter ⟨#[]⟩ many).ok = true := Ru.ok_iff.2 ⟨hl, .inr (.inr (.inr (.inl ⟨rfl, rfl, h0, h4⟩)))⟩
  have HF := Lib.hid (machineFromMost_any (Ru.mk 3 letter ⟨#[]⟩ many).on (Ru.mk 3 letter ⟨#[]⟩ many).endAt 0 (Ru.mk 3 letter ⟨#[]⟩ many).st (Ru.mk 3 letter ⟨#[]⟩ many).inP (.pointer (some ⟨w.heap.size, 0, none⟩)) ((w.alloc (.cells #[.int .i64 3, .string letter, .string ⟨#[]⟩, .int .i64 many] 46)).alloc (.cells #[.int .i64 0, .slice none 0 0, .slice none 0 0] 26))
    (Ru.len hok) (Nat.le_trans (Ru.st_bd hok).2 (by decide)) (Ru.in0 hok) (Ru.on_in hok) (Ru.in_wf hok)
    (fun W hW x hx l hl3 => most1_any letter ⟨#[]⟩ many w.heap.size W (((RuBox.new 3 letter ⟨#[]⟩ many 46).below ((Below.refl _ _).alloc (Nat.le_refl _) _)).below hW) hl x hx.1 (by have := hx.2; simp only [Ru.st] at this; simp at this; omega) h4 l hl3)
    (fun W hW x hx => (anyEnd_any x W).mono (by rintro e w' ⟨rfl, rfl⟩; exact ⟨rfl, Below.refl _ _⟩)))
  have HM := Lib.hid (Ru.mach hok)
  have q1 := ((Below.refl w.heap.size w).alloc (Nat.le_refl _) (.cells #[.int .i64 3, .string letter, .string ⟨#[]⟩, .int .i64 many] 46)).alloc (by simp) (.cells #[.int .i64 0, .slice none 0 0, .slice none 0 0] 26)
  have Q1 := Lib.hid q1
  clear q1 hok
  go_enter Try.func126, Try.ntmps126
  go_wp2_with fail
  refine HF.out.mono ?_
  clear HF
  rw [HM.out]
  generalize hTT : mfT (Ru.mk 3 letter ⟨#[]⟩ many) = T
  have HTT := Lib.hid hTT
  clear hTT
  rintro e w5 ⟨a1, a2, c1, c2, rfl, hA, hb5⟩
  have c0 := fun i => World.cell?_alloc_new (w.alloc (.cells #[.int .i64 3, .string letter, .string ⟨#[]⟩, .int .i64 many] 46)) #[.int .i64 0, .slice none 0 0, .slice none 0 0] 26 i
  have f0 := fun i => World.frozen?_alloc_new (w.alloc (.cells #[.int .i64 3, .string letter, .string ⟨#[]⟩, .int .i64 many] 46)) #[.int .i64 0, .slice none 0 0, .slice none 0 0] 26 i
  simp only [World.size_alloc] at c0 f0
  have h0 : w5.cell? ⟨w.heap.size + 1, 0, none⟩ = some (.int .i64 0) := (hb5.cell (p := ⟨w.heap.size + 1, 0, none⟩) (by simp)).trans (c0 0)
  have h1 : w5.cell? ⟨w.heap.size + 1, 1, none⟩ = some (.slice none 0 0) := (hb5.cell (p := ⟨w.heap.size + 1, 1, none⟩) (by simp)).trans (c0 1)
  have h2 : w5.cell? ⟨w.heap.size + 1, 2, none⟩ = some (.slice none 0 0) := (hb5.cell (p := ⟨w.heap.size + 1, 2, none⟩) (by simp)).trans (c0 2)
  have k0 := (hb5.frozen (p := ⟨w.heap.size + 1, 0, none⟩) (by simp)).trans (f0 0)
  have k1 := (hb5.frozen (p := ⟨w.heap.size + 1, 1, none⟩) (by simp)).trans (f0 1)
  have k2 := (hb5.frozen (p := ⟨w.heap.size + 1, 2, none⟩) (by simp)).trans (f0 2)
  have FI := Lib.hid (fin_cells (x := .int .i64 T.st) (y := .slice a1 T.next.length c1) (z := .slice a2 T.ends.length c2) (B := w.heap.size) (b := w.heap.size + 1) hA (Q1.out.trans (hb5.mono (by simp; omega))) (Nat.le_succ _) (by simp) (some3 h0 h1 h2) (by simp; omega))
  clear hA hb5 c0 f0
  go_wp2
  obtain ⟨r1, r2, r3, r4, r5⟩ := FI.out _ rfl
  refine bodyPost_ret (v := .agg #[.int .i64 T.st, .slice a1 T.next.length c1, .slice a2 T.ends.length c2]) ?_ rfl (by rw [HTT.out]; exact ⟨a1, a2, c1, c2, rfl, r1, r2⟩)
  simp [results, Try.results126, go_sem, r3, r4, r5]

set_option maxHeartbeats 1000000 in
theorem leastMaker_any (letter : ByteArray) (many : Int) (w : World) (hl : letterOk letter = true) (h0 : 1 ≤ many) (h4 : many ≤ 5) :
    Calls Try.prog 127 #[.agg #[.int .i64 4, .string letter, .string ⟨#[]⟩, .int .i64 many]] w (MachNew (mfT (Ru.mk 4 letter ⟨#[]⟩ many)) w) := by
  have hok : (Ru.mk 4 letter ⟨#[]⟩ many).ok = true := Ru.ok_iff.2 ⟨hl, .inr (.inr (.inr (.inr ⟨rfl, rfl, h0, h4⟩)))⟩
  have HF := Lib.hid (machineFromLeast2_any (Ru.mk 4 letter ⟨#[]⟩ many).on (Ru.mk 4 letter ⟨#[]⟩ many).endAt 0 (Ru.mk 4 letter ⟨#[]⟩ many).st (Ru.mk 4 letter ⟨#[]⟩ many).inP (.pointer (some ⟨w.heap.size, 0, none⟩)) ((w.alloc (.cells #[.int .i64 4, .string letter, .string ⟨#[]⟩, .int .i64 many] 46)).alloc (.cells #[.int .i64 0, .slice none 0 0, .slice none 0 0] 26))
    (Ru.len hok) (Nat.le_trans (Ru.st_bd hok).2 (by decide)) (Ru.in0 hok) (Ru.on_in hok) (Ru.in_wf hok)
    (fun W hW x hx l hl3 => least1_any letter ⟨#[]⟩ many w.heap.size W (((RuBox.new 4 letter ⟨#[]⟩ many 46).below ((Below.refl _ _).alloc (Nat.le_refl _) _)).below hW) hl x hx.1 (by have := hx.2; simp only [Ru.st] at this; simp at this; omega) h4 l hl3)
    (fun W hW x hx => least2_any letter ⟨#[]⟩ many w.heap.size W (((RuBox.new 4 letter ⟨#[]⟩ many 46).below ((Below.refl _ _).alloc (Nat.le_refl _) _)).below hW) x))
  have HM := Lib.hid (Ru.mach hok)
  have q1 := ((Below.refl w.heap.size w).alloc (Nat.le_refl _) (.cells #[.int .i64 4, .string letter, .string ⟨#[]⟩, .int .i64 many] 46)).alloc (by simp) (.cells #[.int .i64 0, .slice none 0 0, .slice none 0 0] 26)
  have Q1 := Lib.hid q1
  clear q1 hok
  go_enter Try.func127, Try.ntmps127
  go_wp2_with fail
  refine HF.out.mono ?_
  clear HF
  rw [HM.out]
  generalize hTT : mfT (Ru.mk 4 letter ⟨#[]⟩ many) = T
  have HTT := Lib.hid hTT
  clear hTT
  rintro e w5 ⟨a1, a2, c1, c2, rfl, hA, hb5⟩
  have c0 := fun i => World.cell?_alloc_new (w.alloc (.cells #[.int .i64 4, .string letter, .string ⟨#[]⟩, .int .i64 many] 46)) #[.int .i64 0, .slice none 0 0, .slice none 0 0] 26 i
  have f0 := fun i => World.frozen?_alloc_new (w.alloc (.cells #[.int .i64 4, .string letter, .string ⟨#[]⟩, .int .i64 many] 46)) #[.int .i64 0, .slice none 0 0, .slice none 0 0] 26 i
  simp only [World.size_alloc] at c0 f0
  have h0 : w5.cell? ⟨w.heap.size + 1, 0, none⟩ = some (.int .i64 0) := (hb5.cell (p := ⟨w.heap.size + 1, 0, none⟩) (by simp)).trans (c0 0)
  have h1 : w5.cell? ⟨w.heap.size + 1, 1, none⟩ = some (.slice none 0 0) := (hb5.cell (p := ⟨w.heap.size + 1, 1, none⟩) (by simp)).trans (c0 1)
  have h2 : w5.cell? ⟨w.heap.size + 1, 2, none⟩ = some (.slice none 0 0) := (hb5.cell (p := ⟨w.heap.size + 1, 2, none⟩) (by simp)).trans (c0 2)
  have k0 := (hb5.frozen (p := ⟨w.heap.size + 1, 0, none⟩) (by simp)).trans (f0 0)
  have k1 := (hb5.frozen (p := ⟨w.heap.size + 1, 1, none⟩) (by simp)).trans (f0 1)
  have k2 := (hb5.frozen (p := ⟨w.heap.size + 1, 2, none⟩) (by simp)).trans (f0 2)
  have FI := Lib.hid (fin_cells (x := .int .i64 T.st) (y := .slice a1 T.next.length c1) (z := .slice a2 T.ends.length c2) (B := w.heap.size) (b := w.heap.size + 1) hA (Q1.out.trans (hb5.mono (by simp; omega))) (Nat.le_succ _) (by simp) (some3 h0 h1 h2) (by simp; omega))
  clear hA hb5 c0 f0
  go_wp2
  obtain ⟨r1, r2, r3, r4, r5⟩ := FI.out _ rfl
  refine bodyPost_ret (v := .agg #[.int .i64 T.st, .slice a1 T.next.length c1, .slice a2 T.ends.length c2]) ?_ rfl (by rw [HTT.out]; exact ⟨a1, a2, c1, c2, rfl, r1, r2⟩)
  simp [results, Try.results127, go_sem, r3, r4, r5]

end Go.Proofs.Ytgpjckmmleagbab

namespace Go.Proofs.Ytgpjckmmleagbab
open Go.RowKit

set_option maxHeartbeats 1000000 in
theorem runMaker_any (letter : ByteArray) (many : Int) (w : World) (hl : letterOk letter = true) (h0 : 2 ≤ many) (h4 : many ≤ 4) :
    Calls Try.prog 124 #[.agg #[.int .i64 1, .string letter, .string ⟨#[]⟩, .int .i64 many]] w (MachNew (mfT (Ru.mk 1 letter ⟨#[]⟩ many)) w) := by
  have hok : (Ru.mk 1 letter ⟨#[]⟩ many).ok = true := Ru.ok_iff.2 ⟨hl, .inr (.inl ⟨rfl, rfl, h0, h4⟩)⟩
  have hW3 : ∃ W3, W3 = ((w.alloc (.cells #[.int .i64 1, .string letter, .string ⟨#[]⟩, .int .i64 many] 46)).alloc (.cells #[.int .i64 0, .slice none 0 0, .slice none 0 0] 26)).alloc (.cells #[.func (.func 136) #[] #[.pointer (some ⟨w.heap.size, 0, none⟩)]] 72) := ⟨_, rfl⟩
  obtain ⟨W3, hW3⟩ := hW3
  have hs3 : W3.heap.size = w.heap.size + 1 + 1 + 1 := by rw [hW3]; simp
  have q3 : Below w.heap.size w W3 := by
    rw [hW3]
    exact (((Below.refl w.heap.size w).alloc (Nat.le_refl _) _).alloc (by simp) _).alloc (by simp; omega) _
  have B3 : RuBox w.heap.size 1 letter ⟨#[]⟩ many W3 := by
    rw [hW3]
    refine ⟨by simp; omega, ?_, ?_, ?_, ?_⟩ <;> go_simp
  have L3 : W3.cell? ⟨w.heap.size + 1 + 1, 0, none⟩ = some (.func (.func 136) #[] #[.pointer (some ⟨w.heap.size, 0, none⟩)]) := by rw [hW3]; go_simp
  have c0 : W3.cell? ⟨w.heap.size + 1, 0, none⟩ = some (.int .i64 0) := by rw [hW3]; go_simp
  have c1 : W3.cell? ⟨w.heap.size + 1, 1, none⟩ = some (.slice none 0 0) := by rw [hW3]; go_simp
  have c2 : W3.cell? ⟨w.heap.size + 1, 2, none⟩ = some (.slice none 0 0) := by rw [hW3]; go_simp
  have f0 : ∀ i, W3.frozen? ⟨w.heap.size + 1, i, none⟩ = false := fun i => by rw [hW3]; go_simp
  have HF := Lib.hid (machineFromRun_any (Ru.mk 1 letter ⟨#[]⟩ many).on (Ru.mk 1 letter ⟨#[]⟩ many).endAt 0 (Ru.mk 1 letter ⟨#[]⟩ many).st (Ru.mk 1 letter ⟨#[]⟩ many).inP (.pointer (some ⟨w.heap.size, 0, none⟩)) (.pointer (some ⟨w.heap.size + 1 + 1, 0, none⟩)) W3
    (Ru.len hok) (Nat.le_trans (Ru.st_bd hok).2 (by decide)) (Ru.in0 hok) (Ru.on_in hok) (Ru.in_wf hok)
    (fun W hW x hx l hl3 => run2_any letter ⟨#[]⟩ many w.heap.size (w.heap.size + 1 + 1) W (B3.below hW) ((hW.cell (p := ⟨w.heap.size + 1 + 1, 0, none⟩) (by rw [hs3]; exact Nat.lt_succ_self _)).trans L3) hl x hx.1 (by have := hx.2; simp only [Ru.st] at this; simp at this; omega) h4 l hl3)
    (fun W hW x hx => run1_any letter ⟨#[]⟩ many w.heap.size W (B3.below hW) x))
  have HM := Lib.hid (Ru.mach hok)
  have Q3 := Lib.hid (And.intro q3 (And.intro hs3 (And.intro c0 (And.intro c1 (And.intro c2 f0)))))
  have HW3 := Lib.hid hW3
  have L3h := Lib.hid L3
  clear hok q3 hs3 c0 c1 c2 f0 B3 hW3 L3
  go_enter Try.func124, Try.ntmps124
  go_wp2_with fail
  rw [← HW3.out]
  refine HF.out.mono ?_
  clear HF HW3
  rw [HM.out]
  generalize hTT : mfT (Ru.mk 1 letter ⟨#[]⟩ many) = T
  have HTT := Lib.hid hTT
  clear hTT
  rintro e w5 ⟨a1, a2, c1, c2, rfl, hA, hb5⟩
  obtain ⟨q3, hs3, c0, c1', c2', f0⟩ := Q3.out
  have h0 : w5.cell? ⟨w.heap.size + 1, 0, none⟩ = some (.int .i64 0) := (hb5.cell (p := ⟨w.heap.size + 1, 0, none⟩) (by rw [hs3]; show w.heap.size + 1 < _; omega)).trans c0
  have h1 : w5.cell? ⟨w.heap.size + 1, 1, none⟩ = some (.slice none 0 0) := (hb5.cell (p := ⟨w.heap.size + 1, 1, none⟩) (by rw [hs3]; show w.heap.size + 1 < _; omega)).trans c1'
  have h2 : w5.cell? ⟨w.heap.size + 1, 2, none⟩ = some (.slice none 0 0) := (hb5.cell (p := ⟨w.heap.size + 1, 2, none⟩) (by rw [hs3]; show w.heap.size + 1 < _; omega)).trans c2'
  have k0 := (hb5.frozen (p := ⟨w.heap.size + 1, 0, none⟩) (by rw [hs3]; show w.heap.size + 1 < _; omega)).trans (f0 0)
  have k1 := (hb5.frozen (p := ⟨w.heap.size + 1, 1, none⟩) (by rw [hs3]; show w.heap.size + 1 < _; omega)).trans (f0 1)
  have k2 := (hb5.frozen (p := ⟨w.heap.size + 1, 2, none⟩) (by rw [hs3]; show w.heap.size + 1 < _; omega)).trans (f0 2)
  have FI := Lib.hid (fin_cells (x := .int .i64 T.st) (y := .slice a1 T.next.length c1) (z := .slice a2 T.ends.length c2) (B := w.heap.size) (b := w.heap.size + 1) hA (q3.trans (hb5.mono (by omega))) (Nat.le_succ _) (by omega) (some3 h0 h1 h2) (by omega))
  clear hA hb5 c0 c1' c2' f0 q3 hs3
  go_wp2
  obtain ⟨r1, r2, r3, r4, r5⟩ := FI.out _ rfl
  refine bodyPost_ret (v := .agg #[.int .i64 T.st, .slice a1 T.next.length c1, .slice a2 T.ends.length c2]) ?_ rfl (by rw [HTT.out]; exact ⟨a1, a2, c1, c2, rfl, r1, r2⟩)
  simp [results, Try.results124, go_sem, r3, r4, r5]
end Go.Proofs.Ytgpjckmmleagbab

namespace Go.Proofs.Ytgpjckmmleagbab
open Go.RowKit

/-- a machine in memory of its own, and whether there is one -/
def MachNewB (m : M) (b : Bool) (w : World) (e : Ending) (w' : World) : Prop :=
  ∃ (a1 a2 : Option Addr) (c1 c2 : Nat), e = .returned (.tuple #[.agg #[.int .i64 m.st, .slice a1 m.next.length c1, .slice a2 m.ends.length c2], .bool b]) ∧
    Apart w.heap.size [rowT 3 1 (.slice a1 m.next.length c1) m.next.length (m.next.map (Value.int .i64)), rowT 4 1 (.slice a2 m.ends.length c2) m.ends.length (m.ends.map Value.bool)] w' ∧ Below w.heap.size w w'
/-- a block of zeros is still there -/
theorem zeros_kept {h : Nat} {w2 w3 : World} {n : Nat} {W2 : World} (c0 : ∀ i, W2.cell? ⟨h, i, none⟩ = (#[.int .i64 0, .slice none 0 0, .slice none 0 0] : Array Value)[i]?) (f0 : ∀ i, W2.frozen? ⟨h, i, none⟩ = false) (hb : Below n W2 w2) (hn : h < n) (hb3 : Below w2.heap.size w2 w3) (h2 : n ≤ w2.heap.size) :
    (w3.cell? ⟨h, 0, none⟩ = some (.int .i64 0) ∧ w3.cell? ⟨h, 1, none⟩ = some (.slice none 0 0) ∧ w3.cell? ⟨h, 2, none⟩ = some (.slice none 0 0)) ∧ (w3.frozen? ⟨h, 0, none⟩ = false ∧ w3.frozen? ⟨h, 1, none⟩ = false ∧ w3.frozen? ⟨h, 2, none⟩ = false) := by
  have hb' := hb.trans (hb3.mono h2)
  exact ⟨⟨(hb'.cell (p := ⟨h, 0, none⟩) hn).trans (c0 0), (hb'.cell (p := ⟨h, 1, none⟩) hn).trans (c0 1), (hb'.cell (p := ⟨h, 2, none⟩) hn).trans (c0 2)⟩, (hb'.frozen (p := ⟨h, 0, none⟩) hn).trans (f0 0), (hb'.frozen (p := ⟨h, 1, none⟩) hn).trans (f0 1), (hb'.frozen (p := ⟨h, 2, none⟩) hn).trans (f0 2)⟩

theorem makersOf_any (w : World) : Calls Try.prog 97 #[] w fun e w' => ∃ g : Nat,
    e = .returned (.slice (some ⟨g, 0, none⟩) 5 5) ∧ Below w.heap.size w w' ∧ w'.cell? ⟨g, 0, none⟩ = some (.func (.func 123) #[] #[]) ∧ w'.cell? ⟨g, 1, none⟩ = some (.func (.func 124) #[] #[]) ∧
      w'.cell? ⟨g, 2, none⟩ = some (.func (.func 125) #[] #[]) ∧ w'.cell? ⟨g, 3, none⟩ = some (.func (.func 126) #[] #[]) ∧ w'.cell? ⟨g, 4, none⟩ = some (.func (.func 127) #[] #[]) := by
  go_enter Try.func97, Try.ntmps97
  go_wp2
  go_ret
  exact ⟨w.heap.size, rfl, (Below.refl _ _).alloc (Nat.le_refl _) _, by go_simp, by go_simp, by go_simp, by go_simp, by go_simp⟩
end Go.Proofs.Ytgpjckmmleagbab

namespace Go.Proofs.Ytgpjckmmleagbab
open Go.RowKit

set_option maxHeartbeats 2000000 in
theorem implMachineFor_0 (letter : ByteArray) (many : Int) (w : World) (hl : letterOk letter = true) (hk0 : 0 ≤ many) (hk4 : many ≤ 4) :
    Calls Try.prog 50 #[.agg #[.int .i64 0, .string letter, .string ⟨#[]⟩, .int .i64 many]] w (MachNewB (mfT (Ru.mk 0 letter ⟨#[]⟩ many)) true w) := by
  have hlm : letter.size ≤ maxLen := by rw [letterOk_size hl]; decide
  have hok : (Ru.mk 0 letter ⟨#[]⟩ many).ok = true := Ru.ok_iff.2 ⟨hl, .inl ⟨rfl, rfl, hk0, hk4⟩⟩
  have B0 := Lib.hid ((RuBox.new (w := w) 0 letter ⟨#[]⟩ many 46).below ((Below.refl _ _).alloc (Nat.le_refl _) (.cells #[.int .i64 0, .slice none 0 0, .slice none 0 0] 26)))
  have c0 := fun i => World.cell?_alloc_new (w.alloc (.cells #[.int .i64 0, .string letter, .string ⟨#[]⟩, .int .i64 many] 46)) #[.int .i64 0, .slice none 0 0, .slice none 0 0] 26 i
  have f0 := fun i => World.frozen?_alloc_new (w.alloc (.cells #[.int .i64 0, .string letter, .string ⟨#[]⟩, .int .i64 many] 46)) #[.int .i64 0, .slice none 0 0, .slice none 0 0] 26 i
  simp only [World.size_alloc] at c0 f0
  have q0 : Below w.heap.size w ((w.alloc (.cells #[.int .i64 0, .string letter, .string ⟨#[]⟩, .int .i64 many] 46)).alloc (.cells #[.int .i64 0, .slice none 0 0, .slice none 0 0] 26)) := ((Below.refl w.heap.size w).alloc (Nat.le_refl _) _).alloc (by simp) _
  have C0 := Lib.hid c0
  have F0 := Lib.hid f0
  have Q0 := Lib.hid q0
  clear c0 f0 q0
  go_enter Try.func50, Try.ntmps50
  go_wp2_with fail
  refine (implRuleOk_any 0 letter ⟨#[]⟩ many _ hlm (by decide)).mono ?_
  rintro e w1 ⟨rfl, hb1⟩
  rw [hok]
  have hs0 : ((w.alloc (.cells #[.int .i64 0, .string letter, .string ⟨#[]⟩, .int .i64 many] 46)).alloc (.cells #[.int .i64 0, .slice none 0 0, .slice none 0 0] 26)).heap.size = w.heap.size + 1 + 1 := by simp
  rw [hs0] at hb1
  have HS0 := Lib.hid hs0
  have y0 := (B0.out.below (by rw [hs0]; exact hb1)).c0
  have y1 := (B0.out.below (by rw [hs0]; exact hb1)).c1
  have y2 := (B0.out.below (by rw [hs0]; exact hb1)).c2
  have y3 := (B0.out.below (by rw [hs0]; exact hb1)).c3
  have hB1 := Lib.hid hb1
  clear hs0 hb1
  go_wp2_with fail
  generalize hTT : mfT (Ru.mk 0 letter ⟨#[]⟩ many) = T
  have HTT := Lib.hid hTT
  clear hTT
  go_region_with (first
    | (go_at_call 97; refine (makersOf_any _).mono ?_; rintro e w2 ⟨g, rfl, hb2, m0, m1, m2, m3, m4⟩; have HB2 := Lib.hid (hB1.out.drew.trans (hb2.mono (by have := hB1.out.size; rw [HS0.out] at this; exact this))); have z0 := (B0.out.below (by rw [HS0.out]; exact HB2.out)).c0; have z1 := (B0.out.below (by rw [HS0.out]; exact HB2.out)).c1; have z2 := (B0.out.below (by rw [HS0.out]; exact HB2.out)).c2; have z3 := (B0.out.below (by rw [HS0.out]; exact HB2.out)).c3)
    | (go_at_call 123; refine (rowMaker_any letter many _ hl hk0 hk4).mono ?_; rw [HTT.out]; rintro e w3 ⟨a1, a2, c1, c2, rfl, hA, hb3⟩; have hn2 : w.heap.size + 1 + 1 ≤ w2.heap.size := (by have := HB2.out.size; rw [HS0.out] at this; exact this); obtain ⟨⟨h0, h1, h2⟩, k0, k1, k2⟩ := zeros_kept C0.out F0.out HB2.out (Nat.lt_succ_self _) hb3 hn2))
  all_goals
    have q3 : Below w.heap.size w w3 := (Q0.out.trans (HB2.out.mono (by omega))).trans (hb3.mono (by omega))
    have FI := Lib.hid (fin_cells (x := .int .i64 T.st) (y := .slice a1 T.next.length c1) (z := .slice a2 T.ends.length c2) (B := w.heap.size) (b := w.heap.size + 1) hA q3 (Nat.le_succ _) (by omega) (some3 h0 h1 h2) (by omega))
    clear q3 hA hb3 hb2
    go_wp2
    obtain ⟨r1, r2, r3, r4, r5⟩ := FI.out _ rfl
    refine bodyPost_ret (v := .tuple #[.agg #[.int .i64 T.st, .slice a1 T.next.length c1, .slice a2 T.ends.length c2], .bool true]) ?_ rfl (by rw [HTT.out]; exact ⟨a1, a2, c1, c2, rfl, r1, r2⟩)
    simp [results, Try.results50, go_sem, r3, r4, r5]

end Go.Proofs.Ytgpjckmmleagbab

namespace Go.Proofs.Ytgpjckmmleagbab
open Go.RowKit

set_option maxHeartbeats 2000000 in
theorem implMachineFor_1 (letter : ByteArray) (many : Int) (w : World) (hl : letterOk letter = true) (hk0 : 2 ≤ many) (hk4 : many ≤ 4) :
    Calls Try.prog 50 #[.agg #[.int .i64 1, .string letter, .string ⟨#[]⟩, .int .i64 many]] w (MachNewB (mfT (Ru.mk 1 letter ⟨#[]⟩ many)) true w) := by
  have hlm : letter.size ≤ maxLen := by rw [letterOk_size hl]; decide
  have hok : (Ru.mk 1 letter ⟨#[]⟩ many).ok = true := Ru.ok_iff.2 ⟨hl, .inr (.inl ⟨rfl, rfl, hk0, hk4⟩)⟩
  have B0 := Lib.hid ((RuBox.new (w := w) 1 letter ⟨#[]⟩ many 46).below ((Below.refl _ _).alloc (Nat.le_refl _) (.cells #[.int .i64 0, .slice none 0 0, .slice none 0 0] 26)))
  have c0 := fun i => World.cell?_alloc_new (w.alloc (.cells #[.int .i64 1, .string letter, .string ⟨#[]⟩, .int .i64 many] 46)) #[.int .i64 0, .slice none 0 0, .slice none 0 0] 26 i
  have f0 := fun i => World.frozen?_alloc_new (w.alloc (.cells #[.int .i64 1, .string letter, .string ⟨#[]⟩, .int .i64 many] 46)) #[.int .i64 0, .slice none 0 0, .slice none 0 0] 26 i
  simp only [World.size_alloc] at c0 f0
  have q0 : Below w.heap.size w ((w.alloc (.cells #[.int .i64 1, .string letter, .string ⟨#[]⟩, .int .i64 many] 46)).alloc (.cells #[.int .i64 0, .slice none 0 0, .slice none 0 0] 26)) := ((Below.refl w.heap.size w).alloc (Nat.le_refl _) _).alloc (by simp) _
  have C0 := Lib.hid c0
  have F0 := Lib.hid f0
  have Q0 := Lib.hid q0
  clear c0 f0 q0
  go_enter Try.func50, Try.ntmps50
  go_wp2_with fail
  refine (implRuleOk_any 1 letter ⟨#[]⟩ many _ hlm (by decide)).mono ?_
  rintro e w1 ⟨rfl, hb1⟩
  rw [hok]
  have hs0 : ((w.alloc (.cells #[.int .i64 1, .string letter, .string ⟨#[]⟩, .int .i64 many] 46)).alloc (.cells #[.int .i64 0, .slice none 0 0, .slice none 0 0] 26)).heap.size = w.heap.size + 1 + 1 := by simp
  rw [hs0] at hb1
  have HS0 := Lib.hid hs0
  have y0 := (B0.out.below (by rw [hs0]; exact hb1)).c0
  have y1 := (B0.out.below (by rw [hs0]; exact hb1)).c1
  have y2 := (B0.out.below (by rw [hs0]; exact hb1)).c2
  have y3 := (B0.out.below (by rw [hs0]; exact hb1)).c3
  have hB1 := Lib.hid hb1
  clear hs0 hb1
  go_wp2_with fail
  generalize hTT : mfT (Ru.mk 1 letter ⟨#[]⟩ many) = T
  have HTT := Lib.hid hTT
  clear hTT
  go_region_with (first
    | (go_at_call 97; refine (makersOf_any _).mono ?_; rintro e w2 ⟨g, rfl, hb2, m0, m1, m2, m3, m4⟩; have HB2 := Lib.hid (hB1.out.drew.trans (hb2.mono (by have := hB1.out.size; rw [HS0.out] at this; exact this))); have z0 := (B0.out.below (by rw [HS0.out]; exact HB2.out)).c0; have z1 := (B0.out.below (by rw [HS0.out]; exact HB2.out)).c1; have z2 := (B0.out.below (by rw [HS0.out]; exact HB2.out)).c2; have z3 := (B0.out.below (by rw [HS0.out]; exact HB2.out)).c3)
    | (go_at_call 124; refine (runMaker_any letter many _ hl hk0 hk4).mono ?_; rw [HTT.out]; rintro e w3 ⟨a1, a2, c1, c2, rfl, hA, hb3⟩; have hn2 : w.heap.size + 1 + 1 ≤ w2.heap.size := (by have := HB2.out.size; rw [HS0.out] at this; exact this); obtain ⟨⟨h0, h1, h2⟩, k0, k1, k2⟩ := zeros_kept C0.out F0.out HB2.out (Nat.lt_succ_self _) hb3 hn2))
  all_goals
    have q3 : Below w.heap.size w w3 := (Q0.out.trans (HB2.out.mono (by omega))).trans (hb3.mono (by omega))
    have FI := Lib.hid (fin_cells (x := .int .i64 T.st) (y := .slice a1 T.next.length c1) (z := .slice a2 T.ends.length c2) (B := w.heap.size) (b := w.heap.size + 1) hA q3 (Nat.le_succ _) (by omega) (some3 h0 h1 h2) (by omega))
    clear q3 hA hb3 hb2
    go_wp2
    obtain ⟨r1, r2, r3, r4, r5⟩ := FI.out _ rfl
    refine bodyPost_ret (v := .tuple #[.agg #[.int .i64 T.st, .slice a1 T.next.length c1, .slice a2 T.ends.length c2], .bool true]) ?_ rfl (by rw [HTT.out]; exact ⟨a1, a2, c1, c2, rfl, r1, r2⟩)
    simp [results, Try.results50, go_sem, r3, r4, r5]

end Go.Proofs.Ytgpjckmmleagbab

namespace Go.Proofs.Ytgpjckmmleagbab
open Go.RowKit

set_option maxHeartbeats 2000000 in
theorem implMachineFor_2 (letter thn : ByteArray) (w : World) (hl : letterOk letter = true) (ht : letterOk thn = true) :
    Calls Try.prog 50 #[.agg #[.int .i64 2, .string letter, .string thn, .int .i64 0]] w (MachNewB (mfT (Ru.mk 2 letter thn 0)) true w) := by
  have htm : thn.size ≤ maxLen := by rw [letterOk_size ht]; decide
  have hlm : letter.size ≤ maxLen := by rw [letterOk_size hl]; decide
  have hok : (Ru.mk 2 letter thn 0).ok = true := Ru.ok_iff.2 ⟨hl, .inr (.inr (.inl ⟨rfl, ht, rfl⟩))⟩
  have B0 := Lib.hid ((RuBox.new (w := w) 2 letter thn 0 46).below ((Below.refl _ _).alloc (Nat.le_refl _) (.cells #[.int .i64 0, .slice none 0 0, .slice none 0 0] 26)))
  have c0 := fun i => World.cell?_alloc_new (w.alloc (.cells #[.int .i64 2, .string letter, .string thn, .int .i64 0] 46)) #[.int .i64 0, .slice none 0 0, .slice none 0 0] 26 i
  have f0 := fun i => World.frozen?_alloc_new (w.alloc (.cells #[.int .i64 2, .string letter, .string thn, .int .i64 0] 46)) #[.int .i64 0, .slice none 0 0, .slice none 0 0] 26 i
  simp only [World.size_alloc] at c0 f0
  have q0 : Below w.heap.size w ((w.alloc (.cells #[.int .i64 2, .string letter, .string thn, .int .i64 0] 46)).alloc (.cells #[.int .i64 0, .slice none 0 0, .slice none 0 0] 26)) := ((Below.refl w.heap.size w).alloc (Nat.le_refl _) _).alloc (by simp) _
  have C0 := Lib.hid c0
  have F0 := Lib.hid f0
  have Q0 := Lib.hid q0
  clear c0 f0 q0
  go_enter Try.func50, Try.ntmps50
  go_wp2_with fail
  refine (implRuleOk_any 2 letter thn 0 _ hlm htm).mono ?_
  rintro e w1 ⟨rfl, hb1⟩
  rw [hok]
  have hs0 : ((w.alloc (.cells #[.int .i64 2, .string letter, .string thn, .int .i64 0] 46)).alloc (.cells #[.int .i64 0, .slice none 0 0, .slice none 0 0] 26)).heap.size = w.heap.size + 1 + 1 := by simp
  rw [hs0] at hb1
  have HS0 := Lib.hid hs0
  have y0 := (B0.out.below (by rw [hs0]; exact hb1)).c0
  have y1 := (B0.out.below (by rw [hs0]; exact hb1)).c1
  have y2 := (B0.out.below (by rw [hs0]; exact hb1)).c2
  have y3 := (B0.out.below (by rw [hs0]; exact hb1)).c3
  have hB1 := Lib.hid hb1
  clear hs0 hb1
  go_wp2_with fail
  generalize hTT : mfT (Ru.mk 2 letter thn 0) = T
  have HTT := Lib.hid hTT
  clear hTT
  go_region_with (first
    | (go_at_call 97; refine (makersOf_any _).mono ?_; rintro e w2 ⟨g, rfl, hb2, m0, m1, m2, m3, m4⟩; have HB2 := Lib.hid (hB1.out.drew.trans (hb2.mono (by have := hB1.out.size; rw [HS0.out] at this; exact this))); have z0 := (B0.out.below (by rw [HS0.out]; exact HB2.out)).c0; have z1 := (B0.out.below (by rw [HS0.out]; exact HB2.out)).c1; have z2 := (B0.out.below (by rw [HS0.out]; exact HB2.out)).c2; have z3 := (B0.out.below (by rw [HS0.out]; exact HB2.out)).c3)
    | (go_at_call 125; refine (neverMaker_any letter thn _ hl ht).mono ?_; rw [HTT.out]; rintro e w3 ⟨a1, a2, c1, c2, rfl, hA, hb3⟩; have hn2 : w.heap.size + 1 + 1 ≤ w2.heap.size := (by have := HB2.out.size; rw [HS0.out] at this; exact this); obtain ⟨⟨h0, h1, h2⟩, k0, k1, k2⟩ := zeros_kept C0.out F0.out HB2.out (Nat.lt_succ_self _) hb3 hn2))
  all_goals
    have q3 : Below w.heap.size w w3 := (Q0.out.trans (HB2.out.mono (by omega))).trans (hb3.mono (by omega))
    have FI := Lib.hid (fin_cells (x := .int .i64 T.st) (y := .slice a1 T.next.length c1) (z := .slice a2 T.ends.length c2) (B := w.heap.size) (b := w.heap.size + 1) hA q3 (Nat.le_succ _) (by omega) (some3 h0 h1 h2) (by omega))
    clear q3 hA hb3 hb2
    go_wp2
    obtain ⟨r1, r2, r3, r4, r5⟩ := FI.out _ rfl
    refine bodyPost_ret (v := .tuple #[.agg #[.int .i64 T.st, .slice a1 T.next.length c1, .slice a2 T.ends.length c2], .bool true]) ?_ rfl (by rw [HTT.out]; exact ⟨a1, a2, c1, c2, rfl, r1, r2⟩)
    simp [results, Try.results50, go_sem, r3, r4, r5]

end Go.Proofs.Ytgpjckmmleagbab

namespace Go.Proofs.Ytgpjckmmleagbab
open Go.RowKit

set_option maxHeartbeats 2000000 in
theorem implMachineFor_3 (letter : ByteArray) (many : Int) (w : World) (hl : letterOk letter = true) (hk0 : 0 ≤ many) (hk4 : many ≤ 5) :
    Calls Try.prog 50 #[.agg #[.int .i64 3, .string letter, .string ⟨#[]⟩, .int .i64 many]] w (MachNewB (mfT (Ru.mk 3 letter ⟨#[]⟩ many)) true w) := by
  have hlm : letter.size ≤ maxLen := by rw [letterOk_size hl]; decide
  have hok : (Ru.mk 3 letter ⟨#[]⟩ many).ok = true := Ru.ok_iff.2 ⟨hl, .inr (.inr (.inr (.inl ⟨rfl, rfl, hk0, hk4⟩)))⟩
  have B0 := Lib.hid ((RuBox.new (w := w) 3 letter ⟨#[]⟩ many 46).below ((Below.refl _ _).alloc (Nat.le_refl _) (.cells #[.int .i64 0, .slice none 0 0, .slice none 0 0] 26)))
  have c0 := fun i => World.cell?_alloc_new (w.alloc (.cells #[.int .i64 3, .string letter, .string ⟨#[]⟩, .int .i64 many] 46)) #[.int .i64 0, .slice none 0 0, .slice none 0 0] 26 i
  have f0 := fun i => World.frozen?_alloc_new (w.alloc (.cells #[.int .i64 3, .string letter, .string ⟨#[]⟩, .int .i64 many] 46)) #[.int .i64 0, .slice none 0 0, .slice none 0 0] 26 i
  simp only [World.size_alloc] at c0 f0
  have q0 : Below w.heap.size w ((w.alloc (.cells #[.int .i64 3, .string letter, .string ⟨#[]⟩, .int .i64 many] 46)).alloc (.cells #[.int .i64 0, .slice none 0 0, .slice none 0 0] 26)) := ((Below.refl w.heap.size w).alloc (Nat.le_refl _) _).alloc (by simp) _
  have C0 := Lib.hid c0
  have F0 := Lib.hid f0
  have Q0 := Lib.hid q0
  clear c0 f0 q0
  go_enter Try.func50, Try.ntmps50
  go_wp2_with fail
  refine (implRuleOk_any 3 letter ⟨#[]⟩ many _ hlm (by decide)).mono ?_
  rintro e w1 ⟨rfl, hb1⟩
  rw [hok]
  have hs0 : ((w.alloc (.cells #[.int .i64 3, .string letter, .string ⟨#[]⟩, .int .i64 many] 46)).alloc (.cells #[.int .i64 0, .slice none 0 0, .slice none 0 0] 26)).heap.size = w.heap.size + 1 + 1 := by simp
  rw [hs0] at hb1
  have HS0 := Lib.hid hs0
  have y0 := (B0.out.below (by rw [hs0]; exact hb1)).c0
  have y1 := (B0.out.below (by rw [hs0]; exact hb1)).c1
  have y2 := (B0.out.below (by rw [hs0]; exact hb1)).c2
  have y3 := (B0.out.below (by rw [hs0]; exact hb1)).c3
  have hB1 := Lib.hid hb1
  clear hs0 hb1
  go_wp2_with fail
  generalize hTT : mfT (Ru.mk 3 letter ⟨#[]⟩ many) = T
  have HTT := Lib.hid hTT
  clear hTT
  go_region_with (first
    | (go_at_call 97; refine (makersOf_any _).mono ?_; rintro e w2 ⟨g, rfl, hb2, m0, m1, m2, m3, m4⟩; have HB2 := Lib.hid (hB1.out.drew.trans (hb2.mono (by have := hB1.out.size; rw [HS0.out] at this; exact this))); have z0 := (B0.out.below (by rw [HS0.out]; exact HB2.out)).c0; have z1 := (B0.out.below (by rw [HS0.out]; exact HB2.out)).c1; have z2 := (B0.out.below (by rw [HS0.out]; exact HB2.out)).c2; have z3 := (B0.out.below (by rw [HS0.out]; exact HB2.out)).c3)
    | (go_at_call 126; refine (mostMaker_any letter many _ hl hk0 hk4).mono ?_; rw [HTT.out]; rintro e w3 ⟨a1, a2, c1, c2, rfl, hA, hb3⟩; have hn2 : w.heap.size + 1 + 1 ≤ w2.heap.size := (by have := HB2.out.size; rw [HS0.out] at this; exact this); obtain ⟨⟨h0, h1, h2⟩, k0, k1, k2⟩ := zeros_kept C0.out F0.out HB2.out (Nat.lt_succ_self _) hb3 hn2))
  all_goals
    have q3 : Below w.heap.size w w3 := (Q0.out.trans (HB2.out.mono (by omega))).trans (hb3.mono (by omega))
    have FI := Lib.hid (fin_cells (x := .int .i64 T.st) (y := .slice a1 T.next.length c1) (z := .slice a2 T.ends.length c2) (B := w.heap.size) (b := w.heap.size + 1) hA q3 (Nat.le_succ _) (by omega) (some3 h0 h1 h2) (by omega))
    clear q3 hA hb3 hb2
    go_wp2
    obtain ⟨r1, r2, r3, r4, r5⟩ := FI.out _ rfl
    refine bodyPost_ret (v := .tuple #[.agg #[.int .i64 T.st, .slice a1 T.next.length c1, .slice a2 T.ends.length c2], .bool true]) ?_ rfl (by rw [HTT.out]; exact ⟨a1, a2, c1, c2, rfl, r1, r2⟩)
    simp [results, Try.results50, go_sem, r3, r4, r5]

end Go.Proofs.Ytgpjckmmleagbab

namespace Go.Proofs.Ytgpjckmmleagbab
open Go.RowKit

set_option maxHeartbeats 2000000 in
theorem implMachineFor_4 (letter : ByteArray) (many : Int) (w : World) (hl : letterOk letter = true) (hk0 : 1 ≤ many) (hk4 : many ≤ 5) :
    Calls Try.prog 50 #[.agg #[.int .i64 4, .string letter, .string ⟨#[]⟩, .int .i64 many]] w (MachNewB (mfT (Ru.mk 4 letter ⟨#[]⟩ many)) true w) := by
  have hlm : letter.size ≤ maxLen := by rw [letterOk_size hl]; decide
  have hok : (Ru.mk 4 letter ⟨#[]⟩ many).ok = true := Ru.ok_iff.2 ⟨hl, .inr (.inr (.inr (.inr ⟨rfl, rfl, hk0, hk4⟩)))⟩
  have B0 := Lib.hid ((RuBox.new (w := w) 4 letter ⟨#[]⟩ many 46).below ((Below.refl _ _).alloc (Nat.le_refl _) (.cells #[.int .i64 0, .slice none 0 0, .slice none 0 0] 26)))
  have c0 := fun i => World.cell?_alloc_new (w.alloc (.cells #[.int .i64 4, .string letter, .string ⟨#[]⟩, .int .i64 many] 46)) #[.int .i64 0, .slice none 0 0, .slice none 0 0] 26 i
  have f0 := fun i => World.frozen?_alloc_new (w.alloc (.cells #[.int .i64 4, .string letter, .string ⟨#[]⟩, .int .i64 many] 46)) #[.int .i64 0, .slice none 0 0, .slice none 0 0] 26 i
  simp only [World.size_alloc] at c0 f0
  have q0 : Below w.heap.size w ((w.alloc (.cells #[.int .i64 4, .string letter, .string ⟨#[]⟩, .int .i64 many] 46)).alloc (.cells #[.int .i64 0, .slice none 0 0, .slice none 0 0] 26)) := ((Below.refl w.heap.size w).alloc (Nat.le_refl _) _).alloc (by simp) _
  have C0 := Lib.hid c0
  have F0 := Lib.hid f0
  have Q0 := Lib.hid q0
  clear c0 f0 q0
  go_enter Try.func50, Try.ntmps50
  go_wp2_with fail
  refine (implRuleOk_any 4 letter ⟨#[]⟩ many _ hlm (by decide)).mono ?_
  rintro e w1 ⟨rfl, hb1⟩
  rw [hok]
  have hs0 : ((w.alloc (.cells #[.int .i64 4, .string letter, .string ⟨#[]⟩, .int .i64 many] 46)).alloc (.cells #[.int .i64 0, .slice none 0 0, .slice none 0 0] 26)).heap.size = w.heap.size + 1 + 1 := by simp
  rw [hs0] at hb1
  have HS0 := Lib.hid hs0
  have y0 := (B0.out.below (by rw [hs0]; exact hb1)).c0
  have y1 := (B0.out.below (by rw [hs0]; exact hb1)).c1
  have y2 := (B0.out.below (by rw [hs0]; exact hb1)).c2
  have y3 := (B0.out.below (by rw [hs0]; exact hb1)).c3
  have hB1 := Lib.hid hb1
  clear hs0 hb1
  go_wp2_with fail
  generalize hTT : mfT (Ru.mk 4 letter ⟨#[]⟩ many) = T
  have HTT := Lib.hid hTT
  clear hTT
  go_region_with (first
    | (go_at_call 97; refine (makersOf_any _).mono ?_; rintro e w2 ⟨g, rfl, hb2, m0, m1, m2, m3, m4⟩; have HB2 := Lib.hid (hB1.out.drew.trans (hb2.mono (by have := hB1.out.size; rw [HS0.out] at this; exact this))); have z0 := (B0.out.below (by rw [HS0.out]; exact HB2.out)).c0; have z1 := (B0.out.below (by rw [HS0.out]; exact HB2.out)).c1; have z2 := (B0.out.below (by rw [HS0.out]; exact HB2.out)).c2; have z3 := (B0.out.below (by rw [HS0.out]; exact HB2.out)).c3)
    | (go_at_call 127; refine (leastMaker_any letter many _ hl hk0 hk4).mono ?_; rw [HTT.out]; rintro e w3 ⟨a1, a2, c1, c2, rfl, hA, hb3⟩; have hn2 : w.heap.size + 1 + 1 ≤ w2.heap.size := (by have := HB2.out.size; rw [HS0.out] at this; exact this); obtain ⟨⟨h0, h1, h2⟩, k0, k1, k2⟩ := zeros_kept C0.out F0.out HB2.out (Nat.lt_succ_self _) hb3 hn2))
  all_goals
    have q3 : Below w.heap.size w w3 := (Q0.out.trans (HB2.out.mono (by omega))).trans (hb3.mono (by omega))
    have FI := Lib.hid (fin_cells (x := .int .i64 T.st) (y := .slice a1 T.next.length c1) (z := .slice a2 T.ends.length c2) (B := w.heap.size) (b := w.heap.size + 1) hA q3 (Nat.le_succ _) (by omega) (some3 h0 h1 h2) (by omega))
    clear q3 hA hb3 hb2
    go_wp2
    obtain ⟨r1, r2, r3, r4, r5⟩ := FI.out _ rfl
    refine bodyPost_ret (v := .tuple #[.agg #[.int .i64 T.st, .slice a1 T.next.length c1, .slice a2 T.ends.length c2], .bool true]) ?_ rfl (by rw [HTT.out]; exact ⟨a1, a2, c1, c2, rfl, r1, r2⟩)
    simp [results, Try.results50, go_sem, r3, r4, r5]

end Go.Proofs.Ytgpjckmmleagbab

namespace Go.Proofs.Ytgpjckmmleagbab

theorem tabTo_get (f : Int → Nat → Int) (n i l : Nat) (hi : i < n) (hl : l < 3) : (tabTo f n)[3 * i + l]? = some (f (i : Int) l) := by
  induction n with
  | zero => exact absurd hi (Nat.not_lt_zero _)
  | succ n ih =>
    simp only [tabTo]
    rcases Nat.lt_succ_iff_lt_or_eq.1 hi with h | rfl
    · rw [List.getElem?_append_left (by rw [tabTo_length]; omega)]
      exact ih h
    · rw [List.getElem?_append_right (by rw [tabTo_length]; omega), tabTo_length, show 3 * i + l - 3 * i = l from by omega]
      match l, hl with
      | 0, _ => rfl
      | 1, _ => rfl
      | 2, _ => rfl
theorem mfT_nx {r : Ru} (_hok : r.ok = true) {x : Int} (hx : r.inP x) {l : Nat} (hl : l < 3) : (mfT r).nx x (l : Int) = r.nx x l := by
  obtain ⟨i, rfl⟩ := Int.eq_ofNat_of_zero_le hx.1
  have hi : i < r.st := by have := hx.2; omega
  have e : (3 * (i : Int) + (l : Int)).toNat = 3 * i + l := by omega
  rw [M.nx, if_neg (by omega), e, List.getD_eq_getElem?_getD]
  show ((tabTo r.nx r.st)[3 * i + l]?).getD (-1) = _
  rw [tabTo_get _ _ _ _ hi hl]; rfl
theorem mfT_end {r : Ru} {x : Int} (hx : r.inP x) : (mfT r).endAt x = r.endAt x := by
  obtain ⟨i, rfl⟩ := Int.eq_ofNat_of_zero_le hx.1
  have hi : i < r.st := by have := hx.2; omega
  rw [M.endAt, if_neg (by omega), List.getD_eq_getElem?_getD, Int.toNat_natCast]
  show ((endsTo r.endAt r.st)[i]?).getD false = _
  simp [endsTo, hi]
theorem tab_all {r : Ru} (hok : r.ok = true) : ∀ n, n ≤ r.st → ∀ x ∈ tabTo r.nx n, -1 ≤ x ∧ x ≤ (r.st : Int) - 1 := by
  intro n
  induction n with
  | zero => intro _ x hx; simp [tabTo] at hx
  | succ n ih =>
    intro hn x hx
    simp only [tabTo, List.mem_append, List.mem_cons, List.not_mem_nil, or_false] at hx
    have hp : r.inP (n : Int) := ⟨by omega, by omega⟩
    have b := fun l => Ru.nx_bd hok hp l
    rcases hx with hx | rfl | rfl | rfl
    · exact ih (by omega) x hx
    · have := b 0; omega
    · have := b 1; omega
    · have := b 2; omega
theorem mfT_ok {r : Ru} (hok : r.ok = true) : (mfT r).ok = true := by
  have h1 := Ru.st_bd hok
  have hl1 : (mfT r).next.length = 3 * r.st := tabTo_length _ _
  have hl2 : (mfT r).ends.length = r.st := endsTo_length _ _
  have hst : (mfT r).st = (r.st : Int) := rfl
  rw [M.ok, Bool.and_eq_true, M.shape_iff, List.all_eq_true]
  refine ⟨⟨by omega, by omega, by omega, by omega⟩, fun x hx => ?_⟩
  have := tab_all hok r.st (Nat.le_refl _) x hx
  rw [nextOk, Bool.and_eq_true, decide_eq_true_eq, decide_eq_true_eq, hst]
  exact this

/-- the number of a letter of a word -/
def lix (w : ByteArray) (k : Nat) : Nat := (letterOf (byteAt w k).toNat).toNat
theorem lix_bd {w : ByteArray} (hw : wordOk w = true) {k : Nat} (hk : k < w.size) : lix w k < 3 ∧ byteOf (lix w k) = byteAt w k ∧ (lix w k : Int) = letterOf (byteAt w k).toNat := by
  have h := wordOk_at hw k hk
  rw [byteAt_eq w k hk] at h
  unfold lix
  generalize byteAt w k = c at *
  simp only [isL, Bool.or_eq_true, beq_iff_eq] at h
  rcases h with (rfl | rfl) | rfl <;> decide
/-- the state after so many letters -/
def Ru.to (r : Ru) (w : ByteArray) : Nat → Int
  | 0 => 0
  | k + 1 => if r.to w k < 0 then -1 else r.nx (r.to w k) (lix w k)
/-- how many letters were read till it stopped -/
def Ru.lets (r : Ru) (w : ByteArray) : Nat → Int
  | 0 => 0
  | k + 1 => if r.to w k < 0 then r.lets w k else r.lets w k + 1
/-- BrokenAt -/
def Ru.broken (r : Ru) (w : ByteArray) : Int := if (r.ok && wordOk w) = true then (if r.to w w.size < 0 then r.lets w w.size else -1) else -1
theorem Ru.to_bd {r : Ru} (hok : r.ok = true) (w : ByteArray) (k : Nat) : r.to w k = -1 ∨ r.inP (r.to w k) := by
  induction k with
  | zero => exact .inr (Ru.in0 hok)
  | succ k ih =>
    rcases ih with h | h
    · exact .inl (by rw [Ru.to, h]; rfl)
    · rw [Ru.to, if_neg (by have := h.1; omega)]
      have := Ru.nx_bd hok h (lix w k)
      by_cases e : r.nx (r.to w k) (lix w k) = -1
      · exact .inl e
      · exact .inr ⟨by omega, this.2⟩
theorem Ru.lets_of {r : Ru} (w : ByteArray) (k : Nat) (h : 0 ≤ r.to w k) : r.lets w k = k := by
  induction k with
  | zero => rfl
  | succ k ih =>
    by_cases e : r.to w k < 0
    · rw [Ru.to, if_pos e] at h; omega
    · rw [Ru.lets, if_neg e, ih (by omega)]; omega
theorem Ru.stuck {r : Ru} (w : ByteArray) (k j : Nat) (h : r.to w k < 0) : r.to w (k + j) < 0 ∧ r.lets w (k + j) = r.lets w k := by
  induction j with
  | zero => exact ⟨h, rfl⟩
  | succ j ih =>
    constructor
    · show r.to w (k + j + 1) < 0
      rw [Ru.to, if_pos ih.1]; omega
    · show r.lets w (k + j + 1) = _
      rw [Ru.lets, if_pos ih.1, ih.2]
theorem extract_str {w : ByteArray} (hw : wordOk w = true) {k : Nat} (hk : k < w.size) : w.extract k (k + 1) = ⟨#[byteOf (lix w k)]⟩ := by
  rw [(lix_bd hw hk).2.1, ← byteAt_eq w k hk]
  apply bytes_ext
  have hl : k < w.data.toList.length := by rw [len_data]; exact hk
  have e : w.data.toList.drop k = w.data.toList[k] :: w.data.toList.drop (k + 1) := List.drop_eq_getElem_cons hl
  rw [ByteArray.data_extract, Array.toList_extract, List.extract_eq_take_drop, show k + 1 - k = 1 from by omega, e, List.take_succ_cons, List.take_zero]
  rfl
end Go.Proofs.Ytgpjckmmleagbab

namespace Go.Proofs.Ytgpjckmmleagbab
open Go.RowKit

theorem mf_yes {r : Ru} (h : r.ok = true) : mf r = mfT r := by rw [mf, if_pos h]
theorem mf_no {r : Ru} (h : r.ok = false) : mf r = ⟨0, [], []⟩ := by rw [mf, if_neg (by simp [h])]

set_option maxHeartbeats 1000000 in
theorem implMachineFor_any (kind : Int) (letter thn : ByteArray) (many : Int) (w : World) (h1 : letter.size ≤ maxLen) (h2 : thn.size ≤ maxLen) :
    Calls Try.prog 50 #[.agg #[.int .i64 kind, .string letter, .string thn, .int .i64 many]] w (MachNewB (mf (Ru.mk kind letter thn many)) (Ru.mk kind letter thn many).ok w) := by
  by_cases hok : (Ru.mk kind letter thn many).ok = true
  · rw [mf_yes hok, hok]
    obtain ⟨hl, hr⟩ := Ru.ok_iff.1 hok
    simp only at hl hr
    rcases hr with ⟨rfl, rfl, h0, h4⟩ | ⟨rfl, rfl, h0, h4⟩ | ⟨rfl, ht, rfl⟩ | ⟨rfl, rfl, h0, h4⟩ | ⟨rfl, rfl, h0, h4⟩
    · exact implMachineFor_0 letter many w hl h0 h4
    · exact implMachineFor_1 letter many w hl h0 h4
    · exact implMachineFor_2 letter thn w hl ht
    · exact implMachineFor_3 letter many w hl h0 h4
    · exact implMachineFor_4 letter many w hl h0 h4
  · have hok' : (Ru.mk kind letter thn many).ok = false := by simpa using hok
    rw [mf_no hok', hok']
    clear hok
    have c0 := fun i => World.cell?_alloc_new (w.alloc (.cells #[.int .i64 kind, .string letter, .string thn, .int .i64 many] 46)) #[.int .i64 0, .slice none 0 0, .slice none 0 0] 26 i
    have f0 := fun i => World.frozen?_alloc_new (w.alloc (.cells #[.int .i64 kind, .string letter, .string thn, .int .i64 many] 46)) #[.int .i64 0, .slice none 0 0, .slice none 0 0] 26 i
    simp only [World.size_alloc] at c0 f0
    have q0 := ((Below.refl w.heap.size w).alloc (Nat.le_refl _) (.cells #[.int .i64 kind, .string letter, .string thn, .int .i64 many] 46)).alloc (by simp) (.cells #[.int .i64 0, .slice none 0 0, .slice none 0 0] 26)
    have C0 := Lib.hid c0
    have F0 := Lib.hid f0
    have Q0 := Lib.hid q0
    clear c0 f0 q0
    go_enter Try.func50, Try.ntmps50
    go_wp2_with fail
    refine (implRuleOk_any kind letter thn many _ h1 h2).mono ?_
    rintro e w1 ⟨rfl, hb1⟩
    rw [hok']
    simp only [World.size_alloc] at hb1
    have h0 : w1.cell? ⟨w.heap.size + 1, 0, none⟩ = some (.int .i64 0) := (hb1.cell (p := ⟨w.heap.size + 1, 0, none⟩) (Nat.lt_succ_self _)).trans (C0.out 0)
    have h1 : w1.cell? ⟨w.heap.size + 1, 1, none⟩ = some (.slice none 0 0) := (hb1.cell (p := ⟨w.heap.size + 1, 1, none⟩) (Nat.lt_succ_self _)).trans (C0.out 1)
    have h2 : w1.cell? ⟨w.heap.size + 1, 2, none⟩ = some (.slice none 0 0) := (hb1.cell (p := ⟨w.heap.size + 1, 2, none⟩) (Nat.lt_succ_self _)).trans (C0.out 2)
    have k0 := (hb1.frozen (p := ⟨w.heap.size + 1, 0, none⟩) (Nat.lt_succ_self _)).trans (F0.out 0)
    have k1 := (hb1.frozen (p := ⟨w.heap.size + 1, 1, none⟩) (Nat.lt_succ_self _)).trans (F0.out 1)
    have k2 := (hb1.frozen (p := ⟨w.heap.size + 1, 2, none⟩) (Nat.lt_succ_self _)).trans (F0.out 2)
    have q1 : Below w.heap.size w w1 := Q0.out.trans (hb1.mono (by omega))
    have FI := Lib.hid (fin_cells (x := .int .i64 0) (y := .slice none 0 0) (z := .slice none 0 0) (apart_nils (w.heap.size + 2) w1) q1 (Nat.le_succ _) (by omega) (some3 h0 h1 h2) (by omega))
    clear q1 hb1
    go_wp2
    obtain ⟨r1, r2, r3, r4, r5⟩ := FI.out _ rfl
    refine bodyPost_ret (v := .tuple #[.agg #[.int .i64 0, .slice none 0 0, .slice none 0 0], .bool false]) ?_ rfl ⟨none, none, 0, 0, rfl, r1, r2⟩
    simp [results, Try.results50, go_sem, r3, r4, r5]
end Go.Proofs.Ytgpjckmmleagbab

namespace Go.Proofs.Ytgpjckmmleagbab
open Go.RowKit
set_option linter.unusedVariables false

/-- the text of a letter -/
def strOf (l : Nat) : ByteArray := ⟨#[byteOf l]⟩
theorem str_eq {t : ByteArray} (ht : letterOk t = true) (l : Nat) (hl : l < 3) : ((strOf l).toList == t.toList) = (byteAt t 0 == byteOf l) := by
  rw [ByteArray.toList_eq, ByteArray.toList_eq]
  match l, hl with
  | 0, _ => rcases letterOk_cases ht with rfl | rfl | rfl <;> decide
  | 1, _ => rcases letterOk_cases ht with rfl | rfl | rfl <;> decide
  | 2, _ => rcases letterOk_cases ht with rfl | rfl | rfl <;> decide

theorem l3Next_0 (letter thn : ByteArray) (many s : Int) (t : ByteArray) (w : World) (h0 : 0 ≤ s) (hs : s ≤ 10) (hb0 : 0 ≤ many) (hb : many ≤ 10) (its : Bool) (hi : (t.toList == letter.toList) = its) :
    Calls Try.prog 99 #[.agg #[.int .i64 0, .string letter, .string thn, .int .i64 many], .int .i64 s, .string t] w fun e w' => e = .returned (.int .i64 (nxR 0 many its false s)) ∧ Below w.heap.size w w' := by
  cases its with
  | true =>
    by_cases hsm : s = many
    · have hsm' : (s == many) = true := by simpa using hsm
      go_enter Try.func99, Try.ntmps99
      go_wp2
      go_ret
      exact ⟨ret_int (by simp [nxR, hsm]), (Below.refl _ _).alloc (Nat.le_refl _) _⟩
    · have hsm' : (s == many) = false := by simpa using hsm
      go_enter Try.func99, Try.ntmps99
      go_wp2
      go_ret
      exact ⟨ret_int (by simp [nxR, hsm]), (Below.refl _ _).alloc (Nat.le_refl _) _⟩
  | false =>
    go_enter Try.func99, Try.ntmps99
    go_wp2
    go_ret
    exact ⟨ret_int (by simp [nxR]), (Below.refl _ _).alloc (Nat.le_refl _) _⟩

theorem l3Next_1 (letter thn : ByteArray) (many s : Int) (t : ByteArray) (w : World) (h0 : 0 ≤ s) (hs : s ≤ 10) (hb0 : 0 ≤ many) (hb : many ≤ 10) (its : Bool) (hi : (t.toList == letter.toList) = its) :
    Calls Try.prog 99 #[.agg #[.int .i64 1, .string letter, .string thn, .int .i64 many], .int .i64 s, .string t] w fun e w' => e = .returned (.int .i64 (nxR 1 many its false s)) ∧ Below w.heap.size w w' := by
  cases its with
  | true =>
    go_enter Try.func99, Try.ntmps99
    go_wp2
    go_ret
    exact ⟨ret_int (by simp [nxR]), (Below.refl _ _).alloc (Nat.le_refl _) _⟩
  | false =>
    by_cases h1 : 0 < s
    · by_cases h2 : s < many
      · go_enter Try.func99, Try.ntmps99
        go_wp2
        go_ret
        exact ⟨ret_int (by simp [nxR, h1, h2]), (Below.refl _ _).alloc (Nat.le_refl _) _⟩
      · go_enter Try.func99, Try.ntmps99
        go_wp2
        go_ret
        exact ⟨ret_int (by simp [nxR, h1, h2]), (Below.refl _ _).alloc (Nat.le_refl _) _⟩
    · go_enter Try.func99, Try.ntmps99
      go_wp2
      go_ret
      exact ⟨ret_int (by simp [nxR]; omega), (Below.refl _ _).alloc (Nat.le_refl _) _⟩

theorem l3Next_2 (letter thn : ByteArray) (many s : Int) (t : ByteArray) (w : World) (h0 : 0 ≤ s) (hs : s ≤ 10) (hb0 : 0 ≤ many) (hb : many ≤ 10) (its : Bool) (hi : (t.toList == letter.toList) = its) (th : Bool) (ht : (t.toList == thn.toList) = th) :
    Calls Try.prog 99 #[.agg #[.int .i64 2, .string letter, .string thn, .int .i64 many], .int .i64 s, .string t] w fun e w' => e = .returned (.int .i64 (nxR 2 many its th s)) ∧ Below w.heap.size w w' := by
  by_cases hx : s = 1
  · have hx' : (s == 1) = true := by simpa using hx
    cases th with
    | true =>
      go_enter Try.func99, Try.ntmps99
      go_wp2
      go_ret
      exact ⟨ret_int (by simp [nxR, hx]), (Below.refl _ _).alloc (Nat.le_refl _) _⟩
    | false =>
      cases its with
      | true =>
        go_enter Try.func99, Try.ntmps99
        go_wp2
        go_ret
        exact ⟨ret_int (by simp [nxR]), (Below.refl _ _).alloc (Nat.le_refl _) _⟩
      | false =>
        go_enter Try.func99, Try.ntmps99
        go_wp2
        go_ret
        exact ⟨ret_int (by simp [nxR]), (Below.refl _ _).alloc (Nat.le_refl _) _⟩
  · have hx' : (s == 1) = false := by simpa using hx
    cases its with
    | true =>
      go_enter Try.func99, Try.ntmps99
      go_wp2
      go_ret
      exact ⟨ret_int (by simp [nxR, hx]), (Below.refl _ _).alloc (Nat.le_refl _) _⟩
    | false =>
      go_enter Try.func99, Try.ntmps99
      go_wp2
      go_ret
      exact ⟨ret_int (by simp [nxR, hx]), (Below.refl _ _).alloc (Nat.le_refl _) _⟩

theorem l3Next_3 (letter thn : ByteArray) (many s : Int) (t : ByteArray) (w : World) (h0 : 0 ≤ s) (hs : s ≤ 10) (hb0 : 0 ≤ many) (hb : many ≤ 10) (its : Bool) (hi : (t.toList == letter.toList) = its) :
    Calls Try.prog 99 #[.agg #[.int .i64 3, .string letter, .string thn, .int .i64 many], .int .i64 s, .string t] w fun e w' => e = .returned (.int .i64 (nxR 3 many its false s)) ∧ Below w.heap.size w w' := by
  cases its with
  | true =>
    by_cases hsm : s = many
    · have hsm' : (s == many) = true := by simpa using hsm
      go_enter Try.func99, Try.ntmps99
      go_wp2
      go_ret
      exact ⟨ret_int (by simp [nxR, hsm]), (Below.refl _ _).alloc (Nat.le_refl _) _⟩
    · have hsm' : (s == many) = false := by simpa using hsm
      go_enter Try.func99, Try.ntmps99
      go_wp2
      go_ret
      exact ⟨ret_int (by simp [nxR, hsm]), (Below.refl _ _).alloc (Nat.le_refl _) _⟩
  | false =>
    go_enter Try.func99, Try.ntmps99
    go_wp2
    go_ret
    exact ⟨ret_int (by simp [nxR]), (Below.refl _ _).alloc (Nat.le_refl _) _⟩

theorem l3Next_4 (letter thn : ByteArray) (many s : Int) (t : ByteArray) (w : World) (h0 : 0 ≤ s) (hs : s ≤ 10) (hb0 : 0 ≤ many) (hb : many ≤ 10) (its : Bool) (hi : (t.toList == letter.toList) = its) :
    Calls Try.prog 99 #[.agg #[.int .i64 4, .string letter, .string thn, .int .i64 many], .int .i64 s, .string t] w fun e w' => e = .returned (.int .i64 (nxR 4 many its false s)) ∧ Below w.heap.size w w' := by
  cases its with
  | true =>
    go_enter Try.func99, Try.ntmps99
    go_wp2
    go_ret
    exact ⟨ret_int (by simp [nxR]), (Below.refl _ _).alloc (Nat.le_refl _) _⟩
  | false =>
    go_enter Try.func99, Try.ntmps99
    go_wp2
    go_ret
    exact ⟨ret_int (by simp [nxR]), (Below.refl _ _).alloc (Nat.le_refl _) _⟩

/-- the state of a rule after a letter -/
theorem l3Next_any {r : Ru} (hok : r.ok = true) (s : Int) (w : World) (h0 : 0 ≤ s) (hs : s < (r.st : Int)) (l : Nat) (hl : l < 3) :
    Calls Try.prog 99 #[.agg #[.int .i64 r.kind, .string r.letter, .string r.thn, .int .i64 r.many], .int .i64 s, .string (strOf l)] w fun e w' => e = .returned (.int .i64 (r.nx s l)) ∧ Below w.heap.size w w' := by
  obtain ⟨kind, letter, thn, many⟩ := r
  obtain ⟨hL, hr⟩ := Ru.ok_iff.1 hok
  simp only at hL hr
  have hi := str_eq hL l hl
  simp only [Ru.st] at hs
  rcases hr with ⟨rfl, rfl, a, b⟩ | ⟨rfl, rfl, a, b⟩ | ⟨rfl, ht, rfl⟩ | ⟨rfl, rfl, a, b⟩ | ⟨rfl, rfl, a, b⟩
  · simp at hs
    exact l3Next_0 letter _ many s (strOf l) w h0 (by omega) (by omega) (by omega) _ hi
  · simp at hs
    exact l3Next_1 letter _ many s (strOf l) w h0 (by omega) (by omega) (by omega) _ hi
  · simp at hs
    exact l3Next_2 letter thn 0 s (strOf l) w h0 (by omega) (by omega) (by omega) _ hi _ (str_eq ht l hl)
  · simp at hs
    exact l3Next_3 letter _ many s (strOf l) w h0 (by omega) (by omega) (by omega) _ hi
  · simp at hs
    exact l3Next_4 letter _ many s (strOf l) w h0 (by omega) (by omega) (by omega) _ hi
end Go.Proofs.Ytgpjckmmleagbab

namespace Go.Proofs.Ytgpjckmmleagbab
open Go.RowKit

theorem broken_yes {r : Ru} {s : ByteArray} (h : r.ok = true) (hw : wordOk s = true) : r.broken s = if r.to s s.size < 0 then r.lets s s.size else -1 := by simp [Ru.broken, h, hw]
theorem broken_no {r : Ru} {s : ByteArray} (h : (r.ok && wordOk s) = false) : r.broken s = -1 := by rw [Ru.broken, if_neg (by rw [h]; simp)]

theorem l3Next_at (kind : Int) (letter thn : ByteArray) (many : Int) (hok : (Ru.mk kind letter thn many).ok = true) (s : Int) (w : World) (h0 : 0 ≤ s) (hs : s < ((Ru.mk kind letter thn many).st : Int)) (l : Nat) (hl : l < 3) :
    Calls Try.prog 99 #[.agg #[.int .i64 kind, .string letter, .string thn, .int .i64 many], .int .i64 s, .string (strOf l)] w fun e w' => e = .returned (.int .i64 ((Ru.mk kind letter thn many).nx s l)) ∧ Below w.heap.size w w' :=
  l3Next_any (r := Ru.mk kind letter thn many) hok s w h0 hs l hl

set_option maxHeartbeats 1600000 in
set_option maxRecDepth 100000 in
theorem specBroken_yes (kind : Int) (letter thn : ByteArray) (many : Int) (s : ByteArray) (w : World) (hok : (Ru.mk kind letter thn many).ok = true) (hw : wordOk s = true) :
    Calls Try.prog 56 #[.agg #[.int .i64 kind, .string letter, .string thn, .int .i64 many], .string s] w
      fun e w' => e = .returned (.int .i64 ((Ru.mk kind letter thn many).broken s)) ∧ Below w.heap.size w w' := by
  have hsm : s.size ≤ maxLen := Nat.le_trans (wordOk_size hw) (by decide)
  have h14 := wordOk_size hw
  have HB := Lib.hid (broken_yes hok hw)
  have HTO := Lib.hid (fun k => Ru.to_bd hok s k)
  have HLX := Lib.hid (fun k hk => lix_bd hw (k := k) hk)
  have HEX := Lib.hid (fun k hk => extract_str hw (k := k) hk)
  go_enter Try.func56, Try.ntmps56
  go_wp2_with fail
  refine (specRuleOk_any kind letter thn many _).mono ?_
  rintro e w1 ⟨rfl, hb1⟩
  rw [hok]
  simp only [World.size_alloc] at hb1
  have B1 := Lib.hid hb1
  have HOK := Lib.hid hok
  clear hok hb1
  go_wp2_with (go_at_call 19; refine (specWordOk_any _ _ hsm).mono ?_; rintro e w' ⟨rfl, rfl⟩)
  go_loopw [5, 6] (fun st i wr => ∃ k : Nat, k ≤ s.size ∧ i = .int .i64 (k : Int) ∧ st = .int .i64 ((Ru.mk kind letter thn many).to s k) ∧ 0 ≤ (Ru.mk kind letter thn many).to s k ∧ Below (w.heap.size + 1) (w.alloc (.cells #[.int .i64 kind, .string letter, .string thn, .int .i64 many] 46)) wr) (fun _ i _ => s.size - (intOf i).toNat)
  case atStart => exact ⟨0, Nat.zero_le _, rfl, rfl, Int.le_refl _, B1.out⟩
  case round =>
    obtain ⟨k, hk, rfl, rfl, hst, hb⟩ := hrel
    have HBB := Lib.hid hb
    obtain ⟨y0, y1, y2, y3, q1, s1⟩ := ru_cells kind letter thn many hb
    have Q1 := Lib.hid q1
    have S1 := Lib.hid s1
    clear hb q1 s1
    by_cases hlt : k < s.size
    · have hin : (Ru.mk kind letter thn many).inP ((Ru.mk kind letter thn many).to s k) := (HTO.out k).resolve_left (by omega)
      have HS : Hid ((Ru.mk kind letter thn many).to s (k + 1) = (Ru.mk kind letter thn many).nx ((Ru.mk kind letter thn many).to s k) (lix s k)) := by
        have : (Ru.mk kind letter thn many).to s (k + 1) = (Ru.mk kind letter thn many).nx ((Ru.mk kind letter thn many).to s k) (lix s k) := by rw [Ru.to, if_neg (by omega)]
        exact Lib.hid this
      have HN := HTO.out (k + 1)
      rw [HS.out] at HN
      have HLET := Lib.hid (Ru.lets_of s k hst)
      have HNN := Lib.hid HN
      have HIN := Lib.hid hin
      have hl3 := (HLX.out k hlt).1
      have hsl := fun w => slice_one s k hlt w
      have hex : s.extract k (k + 1) = strOf (lix s k) := HEX.out k hlt
      rw [hex] at hsl
      have HLS : Hid ((Ru.mk kind letter thn many).lets s (k + 1) = (k : Int) + 1) := by
        have : (Ru.mk kind letter thn many).lets s (k + 1) = (k : Int) + 1 := by rw [Ru.lets, if_neg (by omega), HLET.out]
        exact Lib.hid this
      clear HN hin hex
      generalize hx0 : (Ru.mk kind letter thn many).to s k = x0 at *
      have HX0 := Lib.hid hx0
      clear hx0
      generalize hll : lix s k = ll at *
      have HLL := Lib.hid hll
      clear hll
      have hq1 : IntKind.i64.wrap ((k : Int) + 1) = (k : Int) + 1 := IntWalk.i64_in _ (by omega)
      go_wp2_with fail
      go_region_with (go_at_call 99; refine (l3Next_at kind letter thn many HOK.out x0 _ HIN.out.1 HIN.out.2 ll hl3).mono ?_; rintro e w2 ⟨rfl, hb2⟩)
      all_goals
        have HB2 := Lib.hid (HBB.out.drew.trans (hb2.mono S1.out))
        clear hb2 hq1 hsl y0 y1 y2 y3
        generalize hx1 : (Ru.mk kind letter thn many).nx x0 ll = x1 at *
        rcases HNN.out with h1 | h1
        · have HRES : Hid ((Ru.mk kind letter thn many).broken s = (k : Int) + 1) := by
            have hneg : (Ru.mk kind letter thn many).to s (k + 1) < 0 := by rw [HS.out, h1]; decide
            have hst := Ru.stuck s (k + 1) (s.size - (k + 1)) hneg
            rw [show k + 1 + (s.size - (k + 1)) = s.size from by omega] at hst
            have : (Ru.mk kind letter thn many).broken s = (k : Int) + 1 := by rw [HB.out, if_pos hst.1, hst.2, HLS.out]
            exact Lib.hid this
          clear hx1 HS HNN
          subst h1
          go_wp2
          go_ret
          exact ⟨ret_int HRES.out.symm, (ru_cells kind letter thn many HB2.out).2.2.2.2.1⟩
        · have h1a := h1.1
          clear hx1
          go_wp2
          go_roundw
          case rel => exact ⟨k + 1, hlt, by go_num, by rw [HS.out], by rw [HS.out]; exact h1a, HB2.out⟩
          case measure => simp [intOf]; omega
    · obtain rfl : k = s.size := by omega
      have HRES : Hid ((Ru.mk kind letter thn many).broken s = -1) := by
        have : (Ru.mk kind letter thn many).broken s = -1 := by rw [HB.out, if_neg (by omega)]
        exact Lib.hid this
      go_wp2
      go_ret
      exact ⟨ret_int HRES.out.symm, Q1.out⟩

theorem specBroken_any (kind : Int) (letter thn : ByteArray) (many : Int) (s : ByteArray) (w : World) (hs : s.size ≤ maxLen) :
    Calls Try.prog 56 #[.agg #[.int .i64 kind, .string letter, .string thn, .int .i64 many], .string s] w
      fun e w' => e = .returned (.int .i64 ((Ru.mk kind letter thn many).broken s)) ∧ Below w.heap.size w w' := by
  by_cases hok : (Ru.mk kind letter thn many).ok = true
  · by_cases hw : wordOk s = true
    · exact specBroken_yes kind letter thn many s w hok hw
    · have hw' : wordOk s = false := by simpa using hw
      have HF := Lib.hid (broken_no (r := (Ru.mk kind letter thn many)) (s := s) (by simp [hw']))
      clear hw
      go_enter Try.func56, Try.ntmps56
      go_wp2_with fail
      refine (specRuleOk_any kind letter thn many _).mono ?_
      rintro e w1 ⟨rfl, hb1⟩
      rw [hok]
      simp only [World.size_alloc] at hb1
      have q1 := (ru_cells kind letter thn many hb1).2.2.2.2.1
      go_wp2_with (go_at_call 19; refine (specWordOk_any _ _ hs).mono ?_; rintro e w' ⟨rfl, rfl⟩)
      go_ret
      exact ⟨ret_int HF.out.symm, q1⟩
  · have hok' : (Ru.mk kind letter thn many).ok = false := by simpa using hok
    have HF := Lib.hid (broken_no (r := (Ru.mk kind letter thn many)) (s := s) (by simp [hok']))
    clear hok
    go_enter Try.func56, Try.ntmps56
    go_wp2_with fail
    refine (specRuleOk_any kind letter thn many _).mono ?_
    rintro e w1 ⟨rfl, hb1⟩
    rw [hok']
    simp only [World.size_alloc] at hb1
    have q1 := (ru_cells kind letter thn many hb1).2.2.2.2.1
    go_wp2_with fail
    go_ret
    exact ⟨ret_int HF.out.symm, q1⟩
end Go.Proofs.Ytgpjckmmleagbab

namespace Go.Proofs.Ytgpjckmmleagbab
open Go.RowKit

theorem idx_letter {c : UInt8} (h : isL c = true) : Lib.indexByte [114, 100, 110] c = letterOf (c.toNat : Int) := by
  simp only [isL, Bool.or_eq_true, beq_iff_eq] at h
  rcases h with (rfl | rfl) | rfl <;> decide

theorem idxLetter_any (c : UInt8) (h : isL c = true) (W : World) :
    Calls Try.prog 102 #[.string ⟨#[114, 100, 110]⟩, .int .u8 (c.toNat : Int)] W fun e w' => e = .returned (.int .i64 (letterOf (c.toNat : Int))) ∧ w' = W := by
  refine (strings_IndexByte ⟨#[114, 100, 110]⟩ (c.toNat : Int) W).mono fun e w' hh => ⟨hh.1.trans (ret_int ?_), hh.2⟩
  have hix : (c.toNat : Int).toNat.toUInt8 = c := by simp
  rw [hix]; exact idx_letter h

theorem implNextOf_any (m : M) (s l : Int) (nv ev : Value) (w : World) (h1 : IsInts w nv m.next) (hk : m.ok = true) (s0 : -1 ≤ s) (s1 : s < m.st) (l0 : 0 ≤ l) (l1 : l ≤ 2) :
    Calls Try.prog 77 #[.agg #[.int .i64 m.st, nv, ev], .int .i64 s, .int .i64 l] w fun e w' => e = .returned (.int .i64 (m.nx s l)) ∧ Below w.heap.size w w' := by
  have hsh := M.ok_shape hk
  by_cases hs : s = -1
  · subst hs
    have HN := Lib.hid (M.nx_neg m (-1) l (by omega))
    clear hsh hk
    go_enter Try.func77, Try.ntmps77
    go_wp2
    go_ret
    exact ⟨ret_int HN.out.symm, (Below.refl _ _).alloc (Nat.le_refl _) _⟩
  · obtain ⟨k, hk1, hk2, he⟩ := M.nx_at hk s l (by omega) s1 l0 l1
    obtain ⟨a, cap, rfl, ha1, ha2, ha⟩ := h1
    obtain ⟨g, off, rfl, hg, hc⟩ := ha.resolve_left (fun h => by rw [h] at hk2; exact absurd hk2 (Nat.not_lt_zero k))
    have hcell := hc k hk2
    have HE := Lib.hid he
    rw [he]
    have hkl : k < m.next.length := hk2
    generalize m.next[k] = c at hcell HE
    clear he hk hc ha hk2
    generalize m.next.length = n at *
    generalize m.st = st at *
    unfold maxLen at ha2
    have hq1 : IntKind.i64.wrap (s * 3) = s * 3 := IntWalk.i64_in _ (by omega)
    have hq2 : IntKind.i64.wrap (s * 3 + l) = s * 3 + l := IntWalk.i64_in _ (by omega)
    have hq3 : s * 3 + l = k := by omega
    have hs0 : 0 ≤ s := by omega
    clear hk1
    have hb1 : (s == -1) = false := by simpa using hs
    go_enter Try.func77, Try.ntmps77
    go_wp2
    go_ret
    exact ⟨rfl, (Below.refl _ _).alloc (Nat.le_refl _) _⟩

theorem goes_step_le {m : M} (hk : m.ok = true) {s : Int} {word : ByteArray} (hw : wordOk word = true) (s0 : -1 ≤ s) (s1 : s < m.st) (k : Nat) : -1 ≤ m.goes s (word.data.toList.take k) ∧ m.goes s (word.data.toList.take k) < m.st :=
  M.goes_bd hk s _ s0 s1 (allL_take (wordOk_all hw) k)

set_option maxHeartbeats 1600000 in
theorem specL2From_any (m : M) (s : Int) (word : ByteArray) (nv ev : Value) (w : World) (h1 : IsInts w nv m.next) (hk : m.ok = true) (hw : wordOk word = true) (s0 : -1 ≤ s) (s1 : s < m.st) :
    Calls Try.prog 104 #[.agg #[.int .i64 m.st, nv, ev], .int .i64 s, .string word] w fun e w' => e = .returned (.int .i64 (m.goes s word.data.toList)) ∧ Below w.heap.size w w' := by
  have hsz := wordOk_size hw
  obtain ⟨a, cap, rfl, ha1, ha2, ha⟩ := h1
  unfold maxLen at ha2
  have HA := Lib.hid ha
  have HK := Lib.hid hk
  have HW := Lib.hid hw
  have hsh := M.ok_shape hk
  have hl : m.next.length ≤ 144 := by omega
  have hst : m.st ≤ 48 := hsh.2.1
  clear hsh
  clear ha hk hw
  go_enter Try.func104, Try.ntmps104
  go_wp2
  go_loopw [1, 7] (fun j i wr => ∃ k : Nat, k ≤ word.size ∧ i = .int .i64 k ∧ j = .int .i64 (m.goes s (word.data.toList.take k)) ∧ ∃ n, wr = (w.alloc (.cells #[.int .i64 m.st, .slice a m.next.length cap, ev] 26)).drewN n) (fun _ i _ => word.size - (intOf i).toNat)
  case atStart => exact ⟨0, Nat.zero_le _, rfl, rfl, 0, rfl⟩
  case round =>
    obtain ⟨k, hkk, rfl, rfl, n, rfl⟩ := hrel
    have hbel : Below w.heap.size w ((w.alloc (.cells #[.int .i64 m.st, .slice a m.next.length cap, ev] 26)).drewN n) := below_drewN ((Below.refl _ _).alloc (Nat.le_refl _) _) n
    have hx1 : ((w.alloc (.cells #[.int .i64 m.st, .slice a m.next.length cap, ev] 26)).drewN n).cell? ⟨w.heap.size, 1, none⟩ = some (.slice a m.next.length cap) := World.cell?_alloc_new w _ _ 1
    have hbd := goes_step_le HK.out HW.out s0 s1 k
    by_cases hlt : k < word.size
    · have HSTEP := Lib.hid (M.goes_snoc m s word k hlt)
      have hL := wordOk_at HW.out k hlt
      have hlb := letter_bd hL
      by_cases hneg : m.goes s (word.data.toList.take k) < 0
      · have HEND := Lib.hid (M.goes_cut m s word k (by omega))
        generalize m.goes s (word.data.toList.take k) = p at *
        go_wp2
        go_ret
        exact ⟨ret_int (by rw [HEND.out]; omega), hbel⟩
      · obtain ⟨i, hi1, hi2, hi3⟩ := M.nx_at HK.out (m.goes s (word.data.toList.take k)) (letterOf (word[k].toNat : Int)) (by omega) hbd.2 hlb.1 hlb.2
        obtain ⟨g, off, rfl, hg, hc⟩ := HA.out.resolve_left (fun h => by rw [h] at hi2; exact absurd hi2 (Nat.not_lt_zero i))
        have hcell := (hbel.cell (p := ⟨g, off + i, none⟩) hg).trans (hc i hi2)
        have HE := Lib.hid (HSTEP.out.trans hi3)
        clear HSTEP hi3 hc hneg HA
        have HV : Hid (∀ q, ∃ n', (((w.alloc (.cells #[.int .i64 m.st, .slice (some ⟨g, off, none⟩) m.next.length cap, ev] 26)).drewN n).drewN q) = (w.alloc (.cells #[.int .i64 m.st, .slice (some ⟨g, off, none⟩) m.next.length cap, ev] 26)).drewN n') := by
          have := fun q => (⟨n + q, by rw [World.drewN_drewN]⟩ : ∃ n', (((w.alloc (.cells #[.int .i64 m.st, .slice (some ⟨g, off, none⟩) m.next.length cap, ev] 26)).drewN n).drewN q) = (w.alloc (.cells #[.int .i64 m.st, .slice (some ⟨g, off, none⟩) m.next.length cap, ev] 26)).drewN n')
          exact Lib.hid this
        generalize ((w.alloc (.cells #[.int .i64 m.st, .slice (some ⟨g, off, none⟩) m.next.length cap, ev] 26)).drewN n) = W at hbel hx1 hcell HV ⊢
        generalize m.next[i] = d at hcell HE
        generalize m.goes s (word.data.toList.take k) = p at *
        have HLT := Lib.hid (l1Letter_any (word[k].toNat : Int))
        generalize letterOf (word[k].toNat : Int) = l at *
        have hq1 : IntKind.i64.wrap (3 * p) = 3 * p := IntWalk.i64_in _ (by omega)
        have hq2 : IntKind.i64.wrap (3 * p + l) = 3 * p + l := IntWalk.i64_in _ (by omega)
        have hq3 : 3 * p + l = i := by omega
        have hp0 : 0 ≤ p := by omega
        clear hi1 hlb hbd
        go_wp2
        go_quiet ((go_at_call 62; exact Calls.quiet_of_same ((HLT.out _).mono fun _ _ ⟨h, g⟩ => ⟨h, g.symm⟩)))
        clear hq1 hq2 hq3
        go_wp2
        go_roundw
        case rel => exact ⟨k + 1, by omega, by go_num, by rw [HE.out], HV.out _⟩
        case measure => simp [intOf]; omega
    · obtain rfl : k = word.size := by omega
      have HG := Lib.hid (M.goes_all m s word)
      generalize m.goes s (word.data.toList.take word.size) = p at *
      go_wp2
      go_ret
      exact ⟨ret_int HG.out, hbel⟩
theorem M.after_not {m : M} (word : ByteArray) (h : m.ok = false) : m.after word = -2 := by rw [M.after, h]; rfl
theorem M.after_now {m : M} (word : ByteArray) (h : wordOk word = false) : m.after word = -2 := by rw [M.after, h, Bool.and_false]; rfl
theorem M.after_yes {m : M} {word : ByteArray} (h : m.ok = true) (g : wordOk word = true) : m.after word = m.goes 0 word.data.toList := by rw [M.after, h, g]; rfl

theorem specStateAfter_any (m : M) (word : ByteArray) (nv ev : Value) (w : World) (h1 : IsInts w nv m.next) (h2 : IsBools w ev m.ends) (hst : (Lit.int .i64 m.st).wf = true) (hs : word.size ≤ maxLen) :
    Calls Try.prog 60 #[.agg #[.int .i64 m.st, nv, ev], .string word] w fun e w' => e = .returned (.int .i64 (m.after word)) ∧ Below w.heap.size w w' := by
  have hM : MachBox w.heap.size m.st nv m.next ev m.ends (w.alloc (.cells #[.int .i64 m.st, nv, ev] 26)) := MachBox.new _ h1 h2
  have M0 := Lib.hid hM
  have q0 : Hid (Below w.heap.size w (w.alloc (.cells #[.int .i64 m.st, nv, ev] 26))) := Lib.hid ((Below.refl _ _).alloc (Nat.le_refl _) _)
  clear hM h1 h2
  go_enter Try.func60, Try.ntmps60
  go_wp2_with fail
  refine (specMachineOk_any m nv ev _ M0.out.ints M0.out.bools hst).mono ?_
  rintro e w1 ⟨rfl, hb1⟩
  have M1 := Lib.hid (M0.out.below hb1)
  have q1 := Lib.hid (q0.out.trans (hb1.mono q0.out.size))
  clear hb1
  have y10 := M1.out.c0
  have y11 := M1.out.c1
  have y12 := M1.out.c2
  by_cases hk : m.ok = true
  · have HK := Lib.hid hk
    rw [hk]
    clear hk
    go_wp2_with fail
    refine (specWordOk_any word _ hs).mono ?_
    rintro e w2 ⟨rfl, rfl⟩
    by_cases hw : wordOk word = true
    · have HW := Lib.hid hw
      have HR := Lib.hid (M.after_yes HK.out hw)
      rw [hw]
      clear hw
      go_wp2_with fail
      refine (specL2From_any m 0 word nv ev _ M1.out.ints HK.out HW.out (by omega) (by have := M.ok_shape HK.out; omega)).mono ?_
      rintro e w2 ⟨rfl, hb2⟩
      have q2 := Lib.hid (q1.out.trans (hb2.mono q1.out.size))
      clear hb2
      go_wp2_with fail
      go_ret
      exact ⟨ret_int HR.out.symm, q2.out⟩
    · have hwf : wordOk word = false := by simpa using hw
      have HR := Lib.hid (M.after_now (m := m) word hwf)
      rw [hwf]
      clear hw hwf
      go_wp2_with fail
      go_ret
      exact ⟨ret_int HR.out.symm, q1.out⟩
  · have hkf : m.ok = false := by simpa using hk
    have HR := Lib.hid (M.after_not word hkf)
    rw [hkf]
    clear hk hkf
    go_wp2_with fail
    go_ret
    exact ⟨ret_int HR.out.symm, q1.out⟩

set_option maxHeartbeats 1600000 in
theorem implStateAfter_any (m : M) (word : ByteArray) (nv ev : Value) (w : World) (h1 : IsInts w nv m.next) (h2 : IsBools w ev m.ends) (hst : (Lit.int .i64 m.st).wf = true) (hs : word.size ≤ maxLen) :
    Calls Try.prog 57 #[.agg #[.int .i64 m.st, nv, ev], .string word] w fun e w' => e = .returned (.int .i64 (m.after word)) ∧ Below w.heap.size w w' := by
  have hM : MachBox w.heap.size m.st nv m.next ev m.ends (w.alloc (.cells #[.int .i64 m.st, nv, ev] 26)) := MachBox.new _ h1 h2
  have M0 := Lib.hid hM
  have q0 : Hid (Below w.heap.size w (w.alloc (.cells #[.int .i64 m.st, nv, ev] 26))) := Lib.hid ((Below.refl _ _).alloc (Nat.le_refl _) _)
  clear hM h1 h2
  go_enter Try.func57, Try.ntmps57
  go_wp2_with fail
  refine (implMachineOk_any m nv ev _ M0.out.ints M0.out.bools hst).mono ?_
  rintro e w1 ⟨rfl, hb1⟩
  have M1 := Lib.hid (M0.out.below hb1)
  have q1 := Lib.hid (q0.out.trans (hb1.mono q0.out.size))
  clear hb1
  have y10 := M1.out.c0
  have y11 := M1.out.c1
  have y12 := M1.out.c2
  by_cases hk : m.ok = true
  · have HK := Lib.hid hk
    rw [hk]
    clear hk
    go_wp2_with fail
    refine (implWordOk_any word _ hs).mono ?_
    rintro e w2 ⟨rfl, rfl⟩
    by_cases hw : wordOk word = true
    · have HW := Lib.hid hw
      have HR := Lib.hid (M.after_yes HK.out hw)
      rw [hw]
      have hsz := wordOk_size hw
      clear hw hs
      go_wp2_with fail
      clear y10 y11 y12
      go_loopw [5, 17] (fun j i wr => ∃ k : Nat, k ≤ word.size ∧ i = .int .i64 k ∧ j = .int .i64 (m.goes 0 (word.data.toList.take k)) ∧ MachBox w.heap.size m.st nv m.next ev m.ends wr ∧ Below w.heap.size w wr) (fun _ i _ => word.size - (intOf i).toNat)
      case atStart => exact ⟨0, Nat.zero_le _, rfl, rfl, M1.out, q1.out⟩
      case round =>
        obtain ⟨k, hkk, rfl, rfl, hMk, hqk⟩ := hrel
        have MK := Lib.hid hMk
        have QK := Lib.hid hqk
        have y10 := hMk.c0
        have y11 := hMk.c1
        have y12 := hMk.c2
        clear hMk hqk
        by_cases hlt : k < word.size
        · have HSTEP := Lib.hid (M.goes_snoc m 0 word k hlt)
          have hbd := Lib.hid (goes_step_le (s := 0) HK.out HW.out (by omega) (by have := M.ok_shape HK.out; omega) k)
          have hL := wordOk_at HW.out k hlt
          have hlb := Lib.hid (letter_bd hL)
          have HC := Lib.hid (idxLetter_any word[k] hL)
          clear hL
          generalize letterOf (word[k].toNat : Int) = l at *
          generalize m.goes 0 (word.data.toList.take k) = p at *
          go_wp2_with fail
          have MKd := Lib.hid (MK.out.below (Below.refl _ wr).drew)
          have z10 := MKd.out.c0
          have z11 := MKd.out.c1
          have z12 := MKd.out.c2
          go_region_with (first | (go_at_call 102; refine (HC.out _).mono ?_; rintro e w7 ⟨rfl, rfl⟩) | (go_at_call 77; refine (implNextOf_any m p l nv ev _ MKd.out.ints HK.out hbd.out.1 hbd.out.2 hlb.out.1 hlb.out.2).mono ?_; rintro e w8 ⟨rfl, hb8⟩))
          all_goals
            clear z10 z11 z12 y10 y11 y12
            go_wp2
            go_roundw
            case rel => exact ⟨k + 1, by omega, by go_num, by rw [HSTEP.out], MKd.out.below hb8, QK.out.drew.trans (hb8.mono QK.out.size)⟩
            case measure => simp [intOf]; omega
        · obtain rfl : k = word.size := by omega
          have HG := Lib.hid (M.goes_all m 0 word)
          generalize m.goes 0 (word.data.toList.take word.size) = p at *
          go_wp2
          go_ret
          exact ⟨ret_int (HG.out.trans HR.out.symm), QK.out⟩
    · have hwf : wordOk word = false := by simpa using hw
      have HR := Lib.hid (M.after_now (m := m) word hwf)
      rw [hwf]
      clear hw hwf
      go_wp2_with fail
      go_ret
      exact ⟨ret_int HR.out.symm, q1.out⟩
  · have hkf : m.ok = false := by simpa using hk
    have HR := Lib.hid (M.after_not word hkf)
    rw [hkf]
    clear hk hkf
    go_wp2_with fail
    go_ret
    exact ⟨ret_int HR.out.symm, q1.out⟩
end Go.Proofs.Ytgpjckmmleagbab

namespace Go.Proofs.Ytgpjckmmleagbab
open Go.RowKit

theorem mfT_good {r : Ru} (h : r.ok = true) : (mfT r).good := M.ok_good (mfT_ok h)

theorem pair_cells {W w' : World} {t : TypeId} (x y : Value) (hb : Below (W.heap.size + 1) (W.alloc (.cells #[x, y] t)) w') : w'.cell? ⟨W.heap.size, 0, none⟩ = some x ∧ w'.cell? ⟨W.heap.size, 1, none⟩ = some y ∧ (∀ i, w'.frozen? ⟨W.heap.size, i, none⟩ = false) ∧ Below W.heap.size W w' ∧ W.heap.size + 1 ≤ w'.heap.size :=
  ⟨(hb.cell (p := ⟨W.heap.size, 0, none⟩) (Nat.lt_succ_self _)).trans (World.cell?_alloc_new W _ _ 0), (hb.cell (p := ⟨W.heap.size, 1, none⟩) (Nat.lt_succ_self _)).trans (World.cell?_alloc_new W _ _ 1), fun i => (hb.frozen (p := ⟨W.heap.size, i, none⟩) (Nat.lt_succ_self _)).trans (World.frozen?_alloc_new W _ _ i),
    ((Below.refl W.heap.size W).alloc (Nat.le_refl _) _).trans (hb.mono (Nat.le_succ _)), by have := hb.size; simp only [World.size_alloc] at this; exact this⟩

set_option maxHeartbeats 1000000 in
set_option maxRecDepth 100000 in
/-- the function that the fold goes on by -/
theorem broken1_any (m : M) (B : Nat) (nv ev : Value) (W : World) (hM : MachBox B m.st nv m.next ev m.ends W) (hg : m.good) (st n : Int) (h0 : -1 ≤ st) (h1 : st < m.st) (n0 : 0 ≤ n) (n1 : n ≤ 100) (l : Nat) (hl : l < 3) :
    Calls Try.prog 101 #[.agg #[.int .i64 st, .int .i64 n], .int .i64 (l : Int), .pointer (some ⟨B, 0, none⟩)] W
      fun e W' => ∃ x y : Int, e = .returned (.agg #[.int .i64 x, .int .i64 y]) ∧ (st < 0 → x = st ∧ y = n) ∧ (0 ≤ st → x = m.nx st (l : Int) ∧ y = n + 1) ∧ Below W.heap.size W W' := by
  have q2 := ((Below.refl W.heap.size W).alloc (Nat.le_refl _) (.cells #[.int .i64 st, .int .i64 n] 92))
  by_cases hs : st < 0
  · obtain rfl : st = -1 := by omega
    have q3 := q2.alloc (by simp) (.cells #[.int .i64 (-1), .int .i64 n] 92)
    go_enter Try.func101, Try.ntmps101
    go_wp2_with fail
    refine bodyPost_ret (v := .agg #[.int .i64 (-1), .int .i64 n]) ?_ rfl ⟨-1, n, rfl, fun _ => ⟨rfl, rfl⟩, fun h => absurd h (by decide), q3⟩
    simp [results, Try.results101, go_sem]
  · have hne : (st == -1) = false := by rw [beq_eq_false_iff_ne]; omega
    have q3 := q2.alloc (by simp) (.cells #[.int .i64 0, .int .i64 0] 92)
    have MM := Lib.hid (hM.below q3)
    have Q3 := Lib.hid q3
    have R3 : Hid (∀ w', Below (W.heap.size + 1 + 1) ((W.alloc (.cells #[.int .i64 st, .int .i64 n] 92)).alloc (.cells #[.int .i64 0, .int .i64 0] 92)) w' →
        (w'.cell? ⟨W.heap.size, 0, none⟩ = some (.int .i64 st) ∧ w'.cell? ⟨W.heap.size, 1, none⟩ = some (.int .i64 n)) ∧ (w'.cell? ⟨W.heap.size + 1, 0, none⟩ = some (.int .i64 0) ∧ w'.cell? ⟨W.heap.size + 1, 1, none⟩ = some (.int .i64 0)) ∧ (w'.frozen? ⟨W.heap.size + 1, 0, none⟩ = false ∧ w'.frozen? ⟨W.heap.size + 1, 1, none⟩ = false)) := by
      have : ∀ w', Below (W.heap.size + 1 + 1) ((W.alloc (.cells #[.int .i64 st, .int .i64 n] 92)).alloc (.cells #[.int .i64 0, .int .i64 0] 92)) w' →
        (w'.cell? ⟨W.heap.size, 0, none⟩ = some (.int .i64 st) ∧ w'.cell? ⟨W.heap.size, 1, none⟩ = some (.int .i64 n)) ∧ (w'.cell? ⟨W.heap.size + 1, 0, none⟩ = some (.int .i64 0) ∧ w'.cell? ⟨W.heap.size + 1, 1, none⟩ = some (.int .i64 0)) ∧ (w'.frozen? ⟨W.heap.size + 1, 0, none⟩ = false ∧ w'.frozen? ⟨W.heap.size + 1, 1, none⟩ = false) := by
        intro w' hb
        refine ⟨⟨(hb.cell (p := ⟨W.heap.size, 0, none⟩) (by show W.heap.size < _; omega)).trans (by go_simp), (hb.cell (p := ⟨W.heap.size, 1, none⟩) (by show W.heap.size < _; omega)).trans (by go_simp)⟩, ⟨(hb.cell (p := ⟨W.heap.size + 1, 0, none⟩) (Nat.lt_succ_self _)).trans (by go_simp), (hb.cell (p := ⟨W.heap.size + 1, 1, none⟩) (Nat.lt_succ_self _)).trans (by go_simp)⟩, (hb.frozen (p := ⟨W.heap.size + 1, 0, none⟩) (Nat.lt_succ_self _)).trans (by go_simp), (hb.frozen (p := ⟨W.heap.size + 1, 1, none⟩) (Nat.lt_succ_self _)).trans (by go_simp)⟩
      exact Lib.hid this
    have HSZ : Hid (((W.alloc (.cells #[.int .i64 st, .int .i64 n] 92)).alloc (.cells #[.int .i64 0, .int .i64 0] 92)).heap.size = W.heap.size + 1 + 1) := by
      have : ((W.alloc (.cells #[.int .i64 st, .int .i64 n] 92)).alloc (.cells #[.int .i64 0, .int .i64 0] 92)).heap.size = W.heap.size + 1 + 1 := by simp
      exact Lib.hid this
    clear hM q2 q3
    go_enter Try.func101, Try.ntmps101
    have y0 := MM.out.c0
    have y1 := MM.out.c1
    have y2 := MM.out.c2
    obtain ⟨a1, n1', c1, rfl⟩ := MM.out.ints.slice
    obtain ⟨a2, n2', c2, rfl⟩ := MM.out.bools.slice
    go_wp2_with fail
    generalize hW2 : (W.alloc (.cells #[.int .i64 st, .int .i64 n] 92)).alloc (.cells #[.int .i64 0, .int .i64 0] 92) = W2 at *
    obtain ⟨⟨r0, r1⟩, ⟨z0, z1⟩, f0, f1⟩ := R3.out W2 (Below.refl _ _)
    have hq1 : IntKind.i64.wrap (n + 1) = n + 1 := IntWalk.i64_in _ (by omega)
    have IN := Lib.hid (MM.out.ints.below ((Below.refl W2.heap.size W2).drew))
    go_region_with (go_at_call 77; refine (implNextOfG_any m st (l : Int) _ _ _ IN.out hg (by omega) h1 (by omega) (by omega)).mono ?_; rintro e w3 ⟨rfl, hb3⟩; have QQ := Lib.hid ((Below.refl W2.heap.size W2).drew.trans hb3); obtain ⟨⟨s0, s1⟩, ⟨t0, t1⟩, g0, g1⟩ := R3.out w3 (by rw [← HSZ.out]; exact QQ.out))
    all_goals
      have FI : ∀ Wf, Wf = (w3.setCell ⟨W.heap.size + 1, 0, none⟩ (.int .i64 (m.nx st (l : Int)))).setCell ⟨W.heap.size + 1, 1, none⟩ (.int .i64 (n + 1)) → Wf.cell? ⟨W.heap.size + 1, 0, none⟩ = some (.int .i64 (m.nx st (l : Int))) ∧ Wf.cell? ⟨W.heap.size + 1, 1, none⟩ = some (.int .i64 (n + 1)) ∧ Below W.heap.size W Wf := by
        rintro Wf rfl
        exact ⟨by go_simp, by go_simp, ((Q3.out.trans (QQ.out.mono (by rw [HSZ.out]; omega))).setCell (p := ⟨W.heap.size + 1, 0, none⟩) (Nat.le_succ _) _).setCell (p := ⟨W.heap.size + 1, 1, none⟩) (Nat.le_succ _) _⟩
      have FIH := Lib.hid FI
      clear FI hb3
      go_wp2
      obtain ⟨x0, x1, x2⟩ := FIH.out _ rfl
      refine bodyPost_ret (v := .agg #[.int .i64 (m.nx st (l : Int)), .int .i64 (n + 1)]) ?_ rfl ⟨m.nx st (l : Int), n + 1, rfl, fun h => absurd h (by omega), fun _ => ⟨rfl, rfl⟩, x2⟩
      simp [results, Try.results101, go_sem, x0, x1]
end Go.Proofs.Ytgpjckmmleagbab

namespace Go.Proofs.Ytgpjckmmleagbab
open Go.RowKit

theorem to_step {r : Ru} (hok : r.ok = true) (s : ByteArray) (k : Nat) (x y : Int) (hw : wordOk s = true) (hk : k < s.size) (h1 : r.to s k < 0 → x = r.to s k ∧ y = r.lets s k) (h2 : 0 ≤ r.to s k → x = (mfT r).nx (r.to s k) (lix s k : Int) ∧ y = r.lets s k + 1) : x = r.to s (k + 1) ∧ y = r.lets s (k + 1) := by
  by_cases h : r.to s k < 0
  · obtain ⟨rfl, rfl⟩ := h1 h
    have hb := (Ru.to_bd hok s k).resolve_right (fun e => by have := e.1; omega)
    exact ⟨by rw [Ru.to, if_pos h, hb], by rw [Ru.lets, if_pos h]⟩
  · obtain ⟨rfl, rfl⟩ := h2 (by omega)
    have hb := (Ru.to_bd hok s k).resolve_left (by omega)
    refine ⟨by rw [Ru.to, if_neg h, mfT_nx hok hb (lix_bd hw hk).1], by rw [Ru.lets, if_neg h]⟩
theorem lets_bd (r : Ru) (s : ByteArray) (k : Nat) : 0 ≤ r.lets s k ∧ r.lets s k ≤ k := by
  induction k with
  | zero => exact ⟨Int.le_refl _, Int.le_refl _⟩
  | succ k ih => rw [Ru.lets]; split <;> omega

set_option maxHeartbeats 1600000 in
set_option maxRecDepth 100000 in
theorem fold_any (r : Ru) (hok : r.ok = true) (s : ByteArray) (hw : wordOk s = true) (B : Nat) (nv ev : Value) (W : World) (hM : MachBox B (mfT r).st nv (mfT r).next ev (mfT r).ends W) :
    Calls Try.prog 100 #[.string s, .agg #[.int .i64 0, .int .i64 0], .func (.func 101) #[] #[.pointer (some ⟨B, 0, none⟩)]] W
      fun e W' => e = .returned (.agg #[.int .i64 (r.to s s.size), .int .i64 (r.lets s s.size)]) ∧ Below W.heap.size W W' := by
  have h14 := wordOk_size hw
  have HST := Lib.hid (fun k x y hk h1 h2 => to_step hok s k x y hw hk h1 h2)
  have HLB := Lib.hid (fun k => lets_bd r s k)
  have HTB := Lib.hid (fun k => Ru.to_bd hok s k)
  have HLX := Lib.hid (fun k hk => lix_bd hw (k := k) hk)
  have HWA := Lib.hid (fun k hk => wordOk_at hw k hk)
  have HG := Lib.hid (mfT_good hok)
  have Q2 := Lib.hid (((Below.refl W.heap.size W).alloc (Nat.le_refl _) (.cells #[.int .i64 0, .int .i64 0] 92)).alloc (by simp) (.cells #[.int .i64 0, .int .i64 0] 92))
  have MM := Lib.hid hM
  have hz : ∀ i, ((W.alloc (.cells #[.int .i64 0, .int .i64 0] 92)).alloc (.cells #[.int .i64 0, .int .i64 0] 92)).cell? ⟨W.heap.size + 1, i, none⟩ = (#[.int .i64 0, .int .i64 0] : Array Value)[i]? := fun i => by
    have := World.cell?_alloc_new (W.alloc (.cells #[.int .i64 0, .int .i64 0] 92)) #[.int .i64 0, .int .i64 0] 92 i
    rw [World.size_alloc] at this; exact this
  have hzf : ∀ i, ((W.alloc (.cells #[.int .i64 0, .int .i64 0] 92)).alloc (.cells #[.int .i64 0, .int .i64 0] 92)).frozen? ⟨W.heap.size + 1, i, none⟩ = false := fun i => by
    have := World.frozen?_alloc_new (W.alloc (.cells #[.int .i64 0, .int .i64 0] 92)) #[.int .i64 0, .int .i64 0] 92 i
    rw [World.size_alloc] at this; exact this
  have hv0 : ((W.alloc (.cells #[.int .i64 0, .int .i64 0] 92)).alloc (.cells #[.int .i64 0, .int .i64 0] 92)).cell? ⟨W.heap.size, 0, none⟩ = some (.int .i64 0) := by go_simp
  have hv1 : ((W.alloc (.cells #[.int .i64 0, .int .i64 0] 92)).alloc (.cells #[.int .i64 0, .int .i64 0] 92)).cell? ⟨W.heap.size, 1, none⟩ = some (.int .i64 0) := by go_simp
  have hvf : ∀ i, ((W.alloc (.cells #[.int .i64 0, .int .i64 0] 92)).alloc (.cells #[.int .i64 0, .int .i64 0] 92)).frozen? ⟨W.heap.size, i, none⟩ = false := fun i => by go_simp
  have hsz : ((W.alloc (.cells #[.int .i64 0, .int .i64 0] 92)).alloc (.cells #[.int .i64 0, .int .i64 0] 92)).heap.size = W.heap.size + 1 + 1 := by simp
  clear hM hok hw
  go_enter Try.func100, Try.ntmps100
  go_wp2_with fail
  generalize (W.alloc (.cells #[.int .i64 0, .int .i64 0] 92)).alloc (.cells #[.int .i64 0, .int .i64 0] 92) = W2 at *
  have HSZ := Lib.hid hsz
  have HZ := Lib.hid (And.intro hz hzf)
  have HV := Lib.hid (And.intro hv0 (And.intro hv1 hvf))
  clear hsz hz hzf hv0 hv1 hvf
  go_loopw [7, 10] (fun _ i wr => ∃ k : Nat, k ≤ s.size ∧ i = .int .i64 (k : Int) ∧ Below W.heap.size W wr ∧ W.heap.size + 1 + 1 ≤ wr.heap.size ∧ (wr.cell? ⟨W.heap.size, 0, none⟩ = some (.int .i64 (r.to s k)) ∧ wr.cell? ⟨W.heap.size, 1, none⟩ = some (.int .i64 (r.lets s k)) ∧ ∀ i, wr.frozen? ⟨W.heap.size, i, none⟩ = false) ∧
      (∀ i, wr.cell? ⟨W.heap.size + 1, i, none⟩ = (#[.int .i64 0, .int .i64 0] : Array Value)[i]?) ∧ ∀ i, wr.frozen? ⟨W.heap.size + 1, i, none⟩ = false) (fun _ i _ => s.size - (intOf i).toNat)
  case atStart => exact ⟨0, Nat.zero_le _, rfl, Q2.out, by rw [HSZ.out]; omega, HV.out, HZ.out.1, HZ.out.2⟩
  case round =>
    obtain ⟨k, hk, rfl, hb, hs2, ⟨v0, v1, vf⟩, z, zf⟩ := hrel
    have HB := Lib.hid hb
    have HM := Lib.hid (MM.out.below hb)
    have HZ2 := Lib.hid (And.intro z zf)
    have HVF := Lib.hid vf
    have HS2 := Lib.hid hs2
    clear hb z zf vf
    by_cases hlt : k < s.size
    · have hbb := HLX.out k hlt
      have hc := idx_letter (HWA.out k hlt)
      have hx8 : (s[k].toNat : Int).toNat.toUInt8 = s[k] := by simp
      have HIX : Hid (Lib.indexByte [114, 100, 110] ((s[k].toNat : Int).toNat.toUInt8) = (lix s k : Int)) := by
        have : Lib.indexByte [114, 100, 110] ((s[k].toNat : Int).toNat.toUInt8) = (lix s k : Int) := by rw [hx8, hc, hbb.2.2, byteAt_eq s k hlt]
        exact Lib.hid this
      have HSTP := Lib.hid (fun x y h1 h2 => HST.out k x y hlt h1 h2)
      have hl3 := hbb.1
      have hto : -1 ≤ r.to s k ∧ r.to s k < (mfT r).st := by
        have h1 := HG.out.st0
        rcases HTB.out k with h | h
        · omega
        · exact ⟨by have := h.1; omega, h.2⟩
      have hlb := HLB.out k
      clear hbb hc hx8
      generalize hx0 : r.to s k = x0 at *
      generalize hy0 : r.lets s k = y0 at *
      generalize hll : lix s k = ll at *
      have HX := Lib.hid (And.intro hx0 (And.intro hy0 hll))
      clear hx0 hy0 hll
      have f0 := HVF.out 0
      have f1 := HVF.out 1
      go_wp2_with fail
      go_region_with (first
        | (go_at_call 102; refine (strings_IndexByte _ _ _).mono ?_; rintro e w3 ⟨rfl, rfl⟩; rw [HIX.out])
        | (go_at_call 101; refine (broken1_any (mfT r) B nv ev _ (HM.out.below ((Below.refl _ wr).drew)) HG.out x0 y0 hto.1 hto.2 hlb.1 (by omega) ll hl3).mono ?_; rintro e w4 ⟨x, y, rfl, hx1, hx2, hb4⟩; have hb4' := (Below.refl wr.heap.size wr).drew.trans hb4; have V0 := (hb4'.cell (p := ⟨W.heap.size, 0, none⟩) (by show W.heap.size < _; omega)).trans v0; have V1 := (hb4'.cell (p := ⟨W.heap.size, 1, none⟩) (by show W.heap.size < _; omega)).trans v1; have G0 := (hb4'.frozen (p := ⟨W.heap.size, 0, none⟩) (by show W.heap.size < _; omega)).trans f0; have G1 := (hb4'.frozen (p := ⟨W.heap.size, 1, none⟩) (by show W.heap.size < _; omega)).trans f1))
      all_goals
        have HXY := Lib.hid (HSTP.out x y hx1 hx2)
        have FI : ∀ Wf, Wf = (w4.setCell ⟨W.heap.size, 0, none⟩ (.int .i64 x)).setCell ⟨W.heap.size, 1, none⟩ (.int .i64 y) → Below W.heap.size W Wf ∧ W.heap.size + 1 + 1 ≤ Wf.heap.size ∧ (Wf.cell? ⟨W.heap.size, 0, none⟩ = some (.int .i64 (r.to s (k + 1))) ∧ Wf.cell? ⟨W.heap.size, 1, none⟩ = some (.int .i64 (r.lets s (k + 1))) ∧ ∀ i, Wf.frozen? ⟨W.heap.size, i, none⟩ = false) ∧
            (∀ i, Wf.cell? ⟨W.heap.size + 1, i, none⟩ = (#[.int .i64 0, .int .i64 0] : Array Value)[i]?) ∧ ∀ i, Wf.frozen? ⟨W.heap.size + 1, i, none⟩ = false := by
          rintro Wf rfl
          rw [← HXY.out.1, ← HXY.out.2]
          refine ⟨((HB.out.trans (hb4'.mono (by omega))).setCell (p := ⟨W.heap.size, 0, none⟩) (Nat.le_refl _) _).setCell (p := ⟨W.heap.size, 1, none⟩) (Nat.le_refl _) _, by simp; exact Nat.le_trans hs2 hb4'.size, ⟨by go_simp, by go_simp, fun i => ?_⟩, fun i => ?_, fun i => ?_⟩
          · rw [World.frozen?_setCell, World.frozen?_setCell]; exact (hb4'.frozen (p := ⟨W.heap.size, i, none⟩) (by show W.heap.size < _; omega)).trans (HVF.out i)
          · rw [World.cell?_setCell_other _ _ _ _ (by simp), World.cell?_setCell_other _ _ _ _ (by simp)]; exact (hb4'.cell (p := ⟨W.heap.size + 1, i, none⟩) (by show W.heap.size + 1 < _; omega)).trans (HZ2.out.1 i)
          · rw [World.frozen?_setCell, World.frozen?_setCell]; exact (hb4'.frozen (p := ⟨W.heap.size + 1, i, none⟩) (by show W.heap.size + 1 < _; omega)).trans (HZ2.out.2 i)
        have FIH := Lib.hid FI
        clear FI hb4 hb4' hx1 hx2 hto hlb
        go_wp2
        go_roundw
        case rel => exact ⟨k + 1, hlt, by go_num, FIH.out _ rfl⟩
        case measure => simp [intOf]; omega
    · obtain rfl : k = s.size := by omega
      have z0 : wr.cell? ⟨W.heap.size + 1, 0, none⟩ = some (.int .i64 0) := HZ2.out.1 0
      have z1 : wr.cell? ⟨W.heap.size + 1, 1, none⟩ = some (.int .i64 0) := HZ2.out.1 1
      have g0 := HZ2.out.2 0
      have g1 := HZ2.out.2 1
      generalize hx0 : r.to s s.size = x0 at *
      generalize hy0 : r.lets s s.size = y0 at *
      have HXY := Lib.hid (And.intro hx0 hy0)
      clear hx0 hy0
      have FI : ∀ Wf, Wf = (wr.setCell ⟨W.heap.size + 1, 0, none⟩ (.int .i64 x0)).setCell ⟨W.heap.size + 1, 1, none⟩ (.int .i64 y0) → Wf.cell? ⟨W.heap.size + 1, 0, none⟩ = some (.int .i64 x0) ∧ Wf.cell? ⟨W.heap.size + 1, 1, none⟩ = some (.int .i64 y0) ∧ Below W.heap.size W Wf := by
        rintro Wf rfl
        exact ⟨by go_simp, by go_simp, (HB.out.setCell (p := ⟨W.heap.size + 1, 0, none⟩) (Nat.le_succ _) _).setCell (p := ⟨W.heap.size + 1, 1, none⟩) (Nat.le_succ _) _⟩
      have FIH := Lib.hid FI
      clear FI
      go_wp2
      obtain ⟨x1, x2, x3⟩ := FIH.out _ rfl
      refine bodyPost_ret (v := .agg #[.int .i64 x0, .int .i64 y0]) ?_ rfl ⟨by rw [HXY.out.1, HXY.out.2], x3⟩
      simp [results, Try.results100, go_sem, x1, x2]
end Go.Proofs.Ytgpjckmmleagbab

namespace Go.Proofs.Ytgpjckmmleagbab
open Go.RowKit

set_option maxHeartbeats 1000000 in
theorem implBroken_any (kind : Int) (letter thn : ByteArray) (many : Int) (s : ByteArray) (w : World) (h1 : letter.size ≤ maxLen) (h2 : thn.size ≤ maxLen) (hs : s.size ≤ maxLen) :
    Calls Try.prog 55 #[.agg #[.int .i64 kind, .string letter, .string thn, .int .i64 many], .string s] w
      fun e w' => e = .returned (.int .i64 ((Ru.mk kind letter thn many).broken s)) ∧ Below w.heap.size w w' := by
  by_cases hok : (Ru.mk kind letter thn many).ok = true
  · by_cases hw : wordOk s = true
    · have HB := Lib.hid (broken_yes hok hw)
      go_enter Try.func55, Try.ntmps55
      have HMF := Lib.hid (implMachineFor_any kind letter thn many (w.alloc (.cells #[.int .i64 kind, .string letter, .string thn, .int .i64 many] 46)) h1 h2)
      have HM2 := Lib.hid (And.intro (mf_yes hok) hok)
      have HFO := Lib.hid (fun B nv ev W hM => fold_any (Ru.mk kind letter thn many) hok s hw B nv ev W hM)
      go_wp2_with fail
      refine HMF.out.mono ?_
      rw [HM2.out.1, HM2.out.2]
      clear HMF
      rintro e w2 ⟨a1, a2, c1, c2, rfl, hA, hb2⟩
      have hI := IsInts.of_owns hA.head
      have hE := IsBools.of_owns hA.tail.head
      go_wp2_with (go_at_call 63; refine (implWordOk_any _ _ hs).mono ?_; rintro e w' ⟨rfl, rfl⟩)
      have hM := MachBox.new (st := (mfT (Ru.mk kind letter thn many)).st) 26 hI hE
      simp only [World.size_alloc] at hb2
      have q2 := (ru_cells kind letter thn many hb2).2.2.2.2.1
      have s2 := (ru_cells kind letter thn many hb2).2.2.2.2.2
      have q3 := q2.alloc (by omega) (.cells #[.int .i64 (mfT (Ru.mk kind letter thn many)).st, .slice a1 (mfT (Ru.mk kind letter thn many)).next.length c1, .slice a2 (mfT (Ru.mk kind letter thn many)).ends.length c2] 26)
      have hs3 : w.heap.size ≤ (w2.alloc (.cells #[.int .i64 (mfT (Ru.mk kind letter thn many)).st, .slice a1 (mfT (Ru.mk kind letter thn many)).next.length c1, .slice a2 (mfT (Ru.mk kind letter thn many)).ends.length c2] 26)).heap.size := by simp; omega
      refine (HFO.out _ _ _ _ hM).mono ?_
      rintro e w4 ⟨rfl, hb4⟩
      have q4 := Lib.hid (q3.trans (hb4.mono hs3))
      clear hA hb2 hI hE hM q2 q3 hs3 hb4 s2
      have HTB := Lib.hid (Ru.to_bd hok s s.size)
      have HLB := Lib.hid (lets_bd (Ru.mk kind letter thn many) s s.size)
      generalize (Ru.mk kind letter thn many).to s s.size = x0 at *
      generalize (Ru.mk kind letter thn many).lets s s.size = y0 at *
      by_cases hx : x0 = -1
      · subst hx
        have HRES : Hid ((Ru.mk kind letter thn many).broken s = y0) := by
          have : (Ru.mk kind letter thn many).broken s = y0 := by rw [HB.out, if_pos (by decide)]
          exact Lib.hid this
        go_wp2_with fail
        go_ret
        exact ⟨ret_int HRES.out.symm, q4.out.trans (((Below.refl _ _).alloc (Nat.le_refl _) _).mono q4.out.size)⟩
      · have hne : (x0 == -1) = false := by rw [beq_eq_false_iff_ne]; exact hx
        have HRES : Hid ((Ru.mk kind letter thn many).broken s = -1) := by
          have h0 := (HTB.out.resolve_left hx).1
          have : (Ru.mk kind letter thn many).broken s = -1 := by rw [HB.out, if_neg (by omega)]
          exact Lib.hid this
        go_wp2_with fail
        go_ret
        exact ⟨ret_int HRES.out.symm, q4.out.trans (((Below.refl _ _).alloc (Nat.le_refl _) _).mono q4.out.size)⟩
    · have hw' : wordOk s = false := by simpa using hw
      have HF := Lib.hid (broken_no (r := (Ru.mk kind letter thn many)) (s := s) (by simp [hw']))
      have HMF := Lib.hid (implMachineFor_any kind letter thn many (w.alloc (.cells #[.int .i64 kind, .string letter, .string thn, .int .i64 many] 46)) h1 h2)
      clear hw
      go_enter Try.func55, Try.ntmps55
      go_wp2_with fail
      refine HMF.out.mono ?_
      rw [hok]
      clear HMF
      rintro e w2 ⟨a1, a2, c1, c2, rfl, hA, hb2⟩
      simp only [World.size_alloc] at hb2
      have q2 := (ru_cells kind letter thn many hb2).2.2.2.2.1
      have s2 := (ru_cells kind letter thn many hb2).2.2.2.2.2
      have q3 := q2.alloc (by omega) (.cells #[.int .i64 (mf (Ru.mk kind letter thn many)).st, .slice a1 (mf (Ru.mk kind letter thn many)).next.length c1, .slice a2 (mf (Ru.mk kind letter thn many)).ends.length c2] 26)
      go_wp2_with (go_at_call 63; refine (implWordOk_any _ _ hs).mono ?_; rintro e w' ⟨rfl, rfl⟩)
      go_ret
      exact ⟨ret_int HF.out.symm, q3⟩
  · have hok' : (Ru.mk kind letter thn many).ok = false := by simpa using hok
    have HF := Lib.hid (broken_no (r := (Ru.mk kind letter thn many)) (s := s) (by simp [hok']))
    have HMF := Lib.hid (implMachineFor_any kind letter thn many (w.alloc (.cells #[.int .i64 kind, .string letter, .string thn, .int .i64 many] 46)) h1 h2)
    clear hok
    go_enter Try.func55, Try.ntmps55
    go_wp2_with fail
    refine HMF.out.mono ?_
    rw [hok']
    clear HMF
    rintro e w2 ⟨a1, a2, c1, c2, rfl, hA, hb2⟩
    simp only [World.size_alloc] at hb2
    have q2 := (ru_cells kind letter thn many hb2).2.2.2.2.1
    have s2 := (ru_cells kind letter thn many hb2).2.2.2.2.2
    have q3 := q2.alloc (by omega) (.cells #[.int .i64 (mf (Ru.mk kind letter thn many)).st, .slice a1 (mf (Ru.mk kind letter thn many)).next.length c1, .slice a2 (mf (Ru.mk kind letter thn many)).ends.length c2] 26)
    go_wp2_with fail
    go_ret
    exact ⟨ret_int HF.out.symm, q3⟩
end Go.Proofs.Ytgpjckmmleagbab

namespace Go.Proofs.Ytgpjckmmleagbab
open Go.RowKit

theorem snocRun_last (xs : List (UInt8 × Nat)) (c : UInt8) : ∃ ys n, snocRun xs c = ys ++ [(c, n)] := by
  rcases snocRun_cases xs c with ⟨ys, n, _, h⟩ | ⟨h, _⟩
  · exact ⟨ys, n + 1, h⟩
  · exact ⟨xs, 1, h⟩
theorem runsTo_last (s : ByteArray) (k : Nat) (h : k < s.size) : ∃ ys n, runsTo s (k + 1) = ys ++ [(s[k], n)] := by
  rw [runsTo_succ s k h]; exact snocRun_last _ _
theorem le_sum_mem : ∀ (l : List Nat) (n : Nat), n ∈ l → n ≤ l.sum
  | a :: l, n, h => by
    rcases List.mem_cons.1 h with rfl | h
    · simp
    · have := le_sum_mem l n h
      simp; omega
theorem runsTo_sum (s : ByteArray) (k : Nat) : ∀ p ∈ runsTo s k, p.2 ≤ k := by
  intro p hp
  have h1 := runsL_sum (s.data.toList.take k)
  have h2 : p.2 ≤ ((runsTo s k).map (·.2)).sum := le_sum_mem _ _ (List.mem_map.2 ⟨p, hp, rfl⟩)
  have h4 : (s.data.toList.take k).length ≤ k := List.length_take_le _ _
  unfold runsTo at *
  omega
theorem nums_runsTo_length (s : ByteArray) (k : Nat) : (nums (runsTo s k)).length ≤ k := by
  rw [nums_length]
  exact Nat.le_trans (runsL_length _) (List.length_take_le _ _)

theorem index_pred (s : ByteArray) (k : Nat) (hk : 0 < k) (h : k - 1 < s.size) (w : World) :
    (Instr.index 9 (.string s) (.int .i64 ((k : Int) - 1))).run Try.prog w = .ok (.int .u8 (s[k - 1].toNat : Int)) w := by
  have e : ((k : Int) - 1) = ((k - 1 : Nat) : Int) := by omega
  rw [e]
  go_simp

theorem ownsRow_drewN {w : World} {base : Nat} {e : TypeId} {size : Nat} {v : Value} {n : Nat} {xs : List Value} (h : w.ownsRow base e size v n xs) (k : Nat) : (w.drewN k).ownsRow base e size v n xs := h

set_option maxHeartbeats 1600000 in
theorem specRunsOf_yes (s : ByteArray) (w : World) (hw : wordOk s = true) :
    Calls Try.prog 96 #[.string s] w (IntsPost (nums (runsL s.data.toList)) w) := by
  have h14 := wordOk_size hw
  have hsm : s.size ≤ maxLen := by unfold maxLen; omega
  obtain ⟨i0, hi, hz0, hz1, hz2⟩ := info_parts infoInt
  have HI := Lib.hid hi
  have HZ0 := Lib.hid hz0
  have HZ1 := Lib.hid hz1
  have HZ2 := Lib.hid hz2
  clear hi hz0 hz1 hz2
  have H0 := Lib.hid (World.ownsRow_lit (base := w.heap.size) (e := 3) (size := 1) w #[] 0 (Nat.le_refl _) (Nat.zero_le _) rfl)
  go_enter Try.func96, Try.ntmps96
  go_wp2
  go_loopw [3, 4, 5] (fun o i _ wr => ∃ k : Nat, k ≤ s.size ∧ i = .int .i64 k ∧ wr.ownsRow w.heap.size 3 1 o (nums (runsTo s k)).length ((nums (runsTo s k)).map (Value.int .i64)) ∧ Below w.heap.size w wr) (fun _ i _ _ => s.size - (intOf i).toNat)
  case atStart => exact ⟨0, Nat.zero_le _, rfl, H0.out, (Below.refl _ _).alloc (Nat.le_refl _) _⟩
  case round =>
    obtain ⟨k, hk, rfl, hown, hbel⟩ := hrel
    by_cases hlt : k < s.size
    · by_cases hk0 : k = 0
      · subst hk0
        have HS : Hid (nums (runsTo s (0 + 1)) = nums (runsTo s 0) ++ [1]) := by
          have : nums (runsTo s (0 + 1)) = nums (runsTo s 0) ++ [1] := by rw [runsTo_succ s 0 hlt, snocRun_new _ _ (fun d n h => by cases h), nums_snoc]; rfl
          exact Lib.hid this
        have hln := nums_runsTo_length s 0
        go_wp2_with (go_at_call 19; refine (specWordOk_any _ _ hsm).mono ?_; rintro e w' ⟨rfl, rfl⟩)
        go_quiet (fail)
        go_wp2_with (at_builtin; refine wpList_append_own _ rfl _ _ 23 rfl w.heap.size 3 i0 (.int .i64 0) 1 8 Try.underlying23 HI.out HZ0.out HZ1.out HZ2.out rfl (by decide) _ _ _ rfl ((ownsRow_drewN hown _).alloc _) ⟨wr.heap.size, 0, none⟩ 1 1 [.int .i64 1] rfl rfl (cell_one_new _ _ _) (by simp [Value.oneCell']) (by unfold maxLen; omega) (by omega) (by have := hbel.size; simp; omega) ?_; intro v' w1 hown' hgrow _)
        go_roundw
        case rel => exact ⟨0 + 1, hlt, by go_num, by rw [HS.out, List.length_append, List.map_append]; exact hown', (((below_drewN hbel _).alloc (by have := hbel.size; simp; omega) _).grown hgrow (by have := hbel.size; simp; omega) (fun k e => (hown.lt k e).1))⟩
        case measure => simp [intOf]; omega
      · have hjt : k - 1 < s.size := by omega
        have hkp : 0 < k := by omega
        obtain ⟨ys, n, hys⟩ := runsTo_last s (k - 1) hjt
        rw [Nat.sub_add_cancel hkp] at hys
        by_cases hb : s[k] = s[k - 1]
        · have hb' : ((s[k].toNat : Int) == (s[k - 1].toNat : Int)) = true := by rw [u8_beq]; simpa using hb
          have HS : Hid (nums (runsTo s (k + 1)) = nums ys ++ [(n : Int) + 1]) := by
            have : nums (runsTo s (k + 1)) = nums ys ++ [(n : Int) + 1] := by
              rw [runsTo_succ s k hlt, hys, hb, snocRun_same, nums_snoc]; rfl
            exact Lib.hid this
          have hn14 : n ≤ 14 := by
            have := runsTo_sum s k (s[k - 1], n) (by rw [hys]; exact List.mem_append.2 (.inr (by simp)))
            simp only at this
            omega
          have hown2 : wr.ownsRow w.heap.size 3 1 u3 ((nums ys).length + 1) ((nums ys).map (Value.int .i64) ++ [.int .i64 (n : Int)]) := by
            rw [hys, nums_snoc, List.length_append, List.map_append] at hown
            exact hown
          have hyl : (nums ys).length ≤ 14 := by
            have := nums_runsTo_length s k
            rw [hys, nums_snoc, List.length_append] at this
            simp at this
            omega
          obtain ⟨g, cap, rfl⟩ := ownsRow_succ hown2
          have hgl := hown2.lt g rfl
          have hcap : (nums ys).length + 1 ≤ cap := by
            rcases hown2.2 with ⟨h, _⟩ | ⟨g', cap', cur, h, _, _, h4, _⟩
            · cases h
            · cases h; exact h4
          have hcell : wr.cell? ⟨g, (nums ys).length, none⟩ = some (.int .i64 (n : Int)) := by
            rw [hown2.cellAt (nums ys).length (by omega)]
            simp
          have hfr := hown2.frozenAt (nums ys).length
          have hst := (hown2.stored (nums ys).length (.int .i64 ((n : Int) + 1)))
          have hset : ((nums ys).map (Value.int .i64) ++ [Value.int .i64 (n : Int)]).set (nums ys).length (Value.int .i64 ((n : Int) + 1)) = (nums ys).map (Value.int .i64) ++ [Value.int .i64 ((n : Int) + 1)] := by
            rw [List.set_append_right _ _ (by simp)]; simp
          rw [hset] at hst
          have HST := Lib.hid hst
          have HB := Lib.hid hb
          have HO := Lib.hid hown2
          clear hb hys hown hst hset hown2
          generalize hLL : (nums ys).length = L at *
          have HL := Lib.hid hLL
          clear hLL
          go_wp2_with (go_at_call 19; refine (specWordOk_any _ _ hsm).mono ?_; rintro e w' ⟨rfl, rfl⟩)
          have hq2 : (0 : Int) ≤ (k : Int) - 1 := by omega
          have hq4 : (k : Int) - 1 < s.size := by omega
          have hq3 : ((k : Int) - 1).toNat = k - 1 := by omega
          have hq1 : IntKind.i64.wrap ((k : Int) - 1) = (k : Int) - 1 := IntWalk.i64_in _ (by omega)
          have hix := fun w => index_pred s k hkp hjt w
          go_quiet (fail)
          clear hq1 hq2 hq3 hq4 hix
          go_wp2
          go_roundw
          case rel =>
            refine ⟨k + 1, hlt, by go_num, ?_, (below_drewN hbel _).setCell (p := ⟨g, L, none⟩) hgl.1 _⟩
            rw [HS.out, List.length_append, List.map_append, HL.out]
            exact HST.out.1
          case measure => simp [intOf]; omega
        · have hb' : ((s[k].toNat : Int) == (s[k - 1].toNat : Int)) = false := by rw [u8_beq]; simpa using hb
          have HS : Hid (nums (runsTo s (k + 1)) = nums (runsTo s k) ++ [1]) := by
            have : nums (runsTo s (k + 1)) = nums (runsTo s k) ++ [1] := by rw [runsTo_succ s k hlt, snocRun_new _ _ (fun d n' h => by rw [hys] at h; simp at h; rw [← h.1]; exact fun h' => hb h'.symm), nums_snoc]; rfl
            exact Lib.hid this
          have HB := Lib.hid hb
          have HY := Lib.hid hys
          clear hb hys
          have hln := nums_runsTo_length s k
          go_wp2_with (go_at_call 19; refine (specWordOk_any _ _ hsm).mono ?_; rintro e w' ⟨rfl, rfl⟩)
          have hq2 : (0 : Int) ≤ (k : Int) - 1 := by omega
          have hq4 : (k : Int) - 1 < s.size := by omega
          have hq3 : ((k : Int) - 1).toNat = k - 1 := by omega
          have hq1 : IntKind.i64.wrap ((k : Int) - 1) = (k : Int) - 1 := IntWalk.i64_in _ (by omega)
          have hix := fun w => index_pred s k hkp hjt w
          go_quiet (fail)
          clear hq1 hq2 hq3 hq4 hix
          go_wp2_with (at_builtin; refine wpList_append_own _ rfl _ _ 23 rfl w.heap.size 3 i0 (.int .i64 0) 1 8 Try.underlying23 HI.out HZ0.out HZ1.out HZ2.out rfl (by decide) _ _ _ rfl ((ownsRow_drewN hown _).alloc _) ⟨wr.heap.size, 0, none⟩ 1 1 [.int .i64 1] rfl rfl (cell_one_new _ _ _) (by simp [Value.oneCell']) (by unfold maxLen; omega) (by omega) (by have := hbel.size; simp; omega) ?_; intro v' w1 hown' hgrow _)
          go_roundw
          case rel => exact ⟨k + 1, hlt, by go_num, by rw [HS.out, List.length_append, List.map_append]; exact hown', (((below_drewN hbel _).alloc (by have := hbel.size; simp; omega) _).grown hgrow (by have := hbel.size; simp; omega) (fun k e => (hown.lt k e).1))⟩
          case measure => simp [intOf]; omega
    · obtain rfl : k = s.size := by omega
      have HA := Lib.hid (runsTo_all s)
      go_wp2
      go_ret
      refine ⟨_, rfl, ?_, hbel⟩
      rw [← HA.out]; exact hown

theorem specRunsOf_any (s : ByteArray) (w : World) (hs : s.size ≤ maxLen) :
    Calls Try.prog 96 #[.string s] w (IntsPost (runsOf s) w) := by
  by_cases hw : wordOk s = true
  · rw [runsOf_yes hw]
    exact specRunsOf_yes s w hw
  · have hw' : wordOk s = false := by simpa using hw
    rw [runsOf_no hw']
    clear hw
    have H0 := Lib.hid (World.ownsRow_lit (base := w.heap.size) (e := 3) (size := 1) w #[] 0 (Nat.le_refl _) (Nat.zero_le _) rfl)
    have hs' := hs
    unfold maxLen at hs
    go_enter Try.func96, Try.ntmps96
    go_wp2
    go_loopw [3, 4, 5] (fun o i _ wr => i = .int .i64 0 ∧ o = .slice (some ⟨w.heap.size, 0, none⟩) 0 0 ∧ wr.ownsRow w.heap.size 3 1 o 0 [] ∧ Below w.heap.size w wr) (fun _ _ _ _ => 0)
    case atStart => exact ⟨rfl, rfl, H0.out, (Below.refl _ _).alloc (Nat.le_refl _) _⟩
    case round =>
      obtain ⟨rfl, rfl, hown, hbel⟩ := hrel
      by_cases h0 : 0 < s.size
      · go_wp2_with (go_at_call 19; refine (specWordOk_any _ _ hs').mono ?_; rintro e w' ⟨rfl, rfl⟩)
        go_ret
        exact ⟨_, rfl, hown, hbel⟩
      · go_wp2_with (go_at_call 19; refine (specWordOk_any _ _ hs').mono ?_; rintro e w' ⟨rfl, rfl⟩)
        go_ret
        exact ⟨_, rfl, hown, hbel⟩

end Go.Proofs.Ytgpjckmmleagbab

namespace Go.Proofs.Ytgpjckmmleagbab
open Go.RowKit

set_option maxHeartbeats 1600000 in
theorem specKeeps_0 (letter : ByteArray) (many : Int) (s : ByteArray) (w : World) (hl : letterOk letter = true) (h0 : 0 ≤ many) (h4 : many ≤ 4) (hw : wordOk s = true) :
    Calls Try.prog 49 #[.agg #[.int .i64 0, .string letter, .string ⟨#[]⟩, .int .i64 many], .string s] w
      fun e w' => e = .returned (.bool (decide ((longestIn (runsL s.data.toList) (byteAt letter 0) : Int) ≤ many))) ∧ Below w.heap.size w w' := by
  have hsm : s.size ≤ maxLen := Nat.le_trans (wordOk_size hw) (by decide)
  have hok : (Ru.mk 0 letter ⟨#[]⟩ many).ok = true := Ru.ok_iff.2 ⟨hl, .inl ⟨rfl, rfl, h0, h4⟩⟩
  have HL := Lib.hid (longestOf_yes hw hl)
  go_enter Try.func49, Try.ntmps49
  go_wp2_with fail
  refine (specRuleOk_any 0 letter ⟨#[]⟩ many _).mono ?_
  rintro e w1 ⟨rfl, hb1⟩
  rw [hok]
  simp only [World.size_alloc] at hb1
  obtain ⟨y0, y1, y2, y3, q1, s1⟩ := ru_cells 0 letter ⟨#[]⟩ many hb1
  go_wp2_with (go_at_call 19; refine (specWordOk_any _ _ hsm).mono ?_; rintro e w' ⟨rfl, rfl⟩)
  go_region_with (go_at_call 94; refine (specLongestOf_any _ _ _ hsm).mono ?_; rintro e w2 ⟨rfl, hb2⟩; obtain ⟨z0, z1, z2, z3, q2, s2⟩ := ru_cells 0 letter ⟨#[]⟩ many (hb1.drew.trans (hb2.mono s1)))
  all_goals
    go_wp2
    go_ret
    exact ⟨ret_bool (by rw [HL.out]), q2⟩

set_option maxHeartbeats 1600000 in
theorem specKeeps_3 (letter : ByteArray) (many : Int) (s : ByteArray) (w : World) (hl : letterOk letter = true) (h0 : 0 ≤ many) (h4 : many ≤ 5) (hw : wordOk s = true) :
    Calls Try.prog 49 #[.agg #[.int .i64 3, .string letter, .string ⟨#[]⟩, .int .i64 many], .string s] w
      fun e w' => e = .returned (.bool (decide (cntEq s.data.toList (byteAt letter 0) s.size ≤ many))) ∧ Below w.heap.size w w' := by
  have hsm : s.size ≤ maxLen := Nat.le_trans (wordOk_size hw) (by decide)
  have hok : (Ru.mk 3 letter ⟨#[]⟩ many).ok = true := Ru.ok_iff.2 ⟨hl, .inr (.inr (.inr (.inl ⟨rfl, rfl, h0, h4⟩)))⟩
  have HL := Lib.hid (countOf_yes hw hl)
  go_enter Try.func49, Try.ntmps49
  go_wp2_with fail
  refine (specRuleOk_any 3 letter ⟨#[]⟩ many _).mono ?_
  rintro e w1 ⟨rfl, hb1⟩
  rw [hok]
  simp only [World.size_alloc] at hb1
  obtain ⟨y0, y1, y2, y3, q1, s1⟩ := ru_cells 3 letter ⟨#[]⟩ many hb1
  go_wp2_with (go_at_call 19; refine (specWordOk_any _ _ hsm).mono ?_; rintro e w' ⟨rfl, rfl⟩)
  go_region_with (go_at_call 95; refine (specCountOf_any _ _ _ hsm).mono ?_; rintro e w2 ⟨rfl, hb2⟩; obtain ⟨z0, z1, z2, z3, q2, s2⟩ := ru_cells 3 letter ⟨#[]⟩ many (hb1.drew.trans (hb2.mono s1)))
  all_goals
    go_wp2
    go_ret
    exact ⟨ret_bool (by rw [HL.out]), q2⟩

set_option maxHeartbeats 1600000 in
theorem specKeeps_4 (letter : ByteArray) (many : Int) (s : ByteArray) (w : World) (hl : letterOk letter = true) (h0 : 1 ≤ many) (h4 : many ≤ 5) (hw : wordOk s = true) :
    Calls Try.prog 49 #[.agg #[.int .i64 4, .string letter, .string ⟨#[]⟩, .int .i64 many], .string s] w
      fun e w' => e = .returned (.bool (decide (many ≤ cntEq s.data.toList (byteAt letter 0) s.size))) ∧ Below w.heap.size w w' := by
  have hsm : s.size ≤ maxLen := Nat.le_trans (wordOk_size hw) (by decide)
  have hok : (Ru.mk 4 letter ⟨#[]⟩ many).ok = true := Ru.ok_iff.2 ⟨hl, .inr (.inr (.inr (.inr ⟨rfl, rfl, h0, h4⟩)))⟩
  have HL := Lib.hid (countOf_yes hw hl)
  go_enter Try.func49, Try.ntmps49
  go_wp2_with fail
  refine (specRuleOk_any 4 letter ⟨#[]⟩ many _).mono ?_
  rintro e w1 ⟨rfl, hb1⟩
  rw [hok]
  simp only [World.size_alloc] at hb1
  obtain ⟨y0, y1, y2, y3, q1, s1⟩ := ru_cells 4 letter ⟨#[]⟩ many hb1
  go_wp2_with (go_at_call 19; refine (specWordOk_any _ _ hsm).mono ?_; rintro e w' ⟨rfl, rfl⟩)
  go_region_with (go_at_call 95; refine (specCountOf_any _ _ _ hsm).mono ?_; rintro e w2 ⟨rfl, hb2⟩; obtain ⟨z0, z1, z2, z3, q2, s2⟩ := ru_cells 4 letter ⟨#[]⟩ many (hb1.drew.trans (hb2.mono s1)))
  all_goals
    go_wp2
    go_ret
    exact ⟨ret_bool (by rw [HL.out]), q2⟩

theorem pairTo_up {l : List UInt8} {c d : UInt8} {k n : Nat} (hk : k ≤ n) (h : pairTo l c d k = true) : pairTo l c d n = true := by
  obtain ⟨i, hi, h⟩ := List.any_eq_true.1 h
  exact List.any_eq_true.2 ⟨i, List.mem_range.2 (by have := List.mem_range.1 hi; omega), h⟩

set_option maxHeartbeats 1600000 in
theorem specKeeps_2 (letter thn : ByteArray) (s : ByteArray) (w : World) (hl : letterOk letter = true) (ht : letterOk thn = true) (hw : wordOk s = true) :
    Calls Try.prog 49 #[.agg #[.int .i64 2, .string letter, .string thn, .int .i64 0], .string s] w
      fun e w' => e = .returned (.bool (!pairTo s.data.toList (byteAt letter 0) (byteAt thn 0) (s.size - 1))) ∧ Below w.heap.size w w' := by
  have hsm : s.size ≤ maxLen := Nat.le_trans (wordOk_size hw) (by decide)
  have hok : (Ru.mk 2 letter thn 0).ok = true := Ru.ok_iff.2 ⟨hl, .inr (.inr (.inl ⟨rfl, ht, rfl⟩))⟩
  have h1 := letterOk_size hl
  have h2 := letterOk_size ht
  have hp1 : 0 < letter.size := by omega
  have hp2 : 0 < thn.size := by omega
  have h14 := wordOk_size hw
  go_enter Try.func49, Try.ntmps49
  go_wp2_with fail
  refine (specRuleOk_any 2 letter thn 0 _).mono ?_
  rintro e w1 ⟨rfl, hb1⟩
  rw [hok]
  simp only [World.size_alloc] at hb1
  obtain ⟨y0, y1, y2, y3, q1, s1⟩ := ru_cells 2 letter thn 0 hb1
  go_wp2_with (go_at_call 19; refine (specWordOk_any _ _ hsm).mono ?_; rintro e w' ⟨rfl, rfl⟩)
  have hc1 : letter[0] = byteAt letter 0 := byteAt_eq letter 0 hp1
  have hc2 : thn[0] = byteAt thn 0 := byteAt_eq thn 0 hp2
  have HC := Lib.hid (And.intro hc1 hc2)
  clear hc1 hc2
  have B1 := Lib.hid hb1
  clear hb1 y0 y1 y2 y3 q1 s1
  go_loopw [5] (fun i wr => ∃ k : Nat, 1 ≤ k ∧ i = .int .i64 (k : Int) ∧ k - 1 ≤ s.size - 1 ∧ pairTo s.data.toList (byteAt letter 0) (byteAt thn 0) (k - 1) = false ∧ Below (w.heap.size + 1) (w.alloc (.cells #[.int .i64 2, .string letter, .string thn, .int .i64 0] 46)) wr) (fun i _ => s.size - (intOf i).toNat)
  case atStart => exact ⟨1, by omega, rfl, Nat.zero_le _, rfl, B1.out⟩
  case round =>
    obtain ⟨k, hkp, rfl, hk, hno, hb⟩ := hrel
    have HN := Lib.hid hno
    have HB := Lib.hid hb
    obtain ⟨y0, y1, y2, y3, q1, s1⟩ := ru_cells 2 letter thn 0 hb
    have Q1 := Lib.hid q1
    clear hno hb y0 y3 q1 s1
    by_cases hlt : k < s.size
    · have hjt : k - 1 < s.size := by omega
      have HP : Hid (pairTo s.data.toList (byteAt letter 0) (byteAt thn 0) k = (s[k - 1] == letter[0] && s[k] == thn[0])) := by
        have e : k = (k - 1) + 1 := by omega
        have : pairTo s.data.toList (byteAt letter 0) (byteAt thn 0) k = (s[k - 1] == letter[0] && s[k] == thn[0]) := by
          rw [byteAt_eq s (k - 1) hjt, byteAt_eq s k hlt, HC.out.1, HC.out.2]
          conv => lhs; rw [e]
          rw [pairTo_succ, HN.out, Bool.false_or, ← e]
          rfl
        exact Lib.hid this
      have HHIT : Hid (pairTo s.data.toList (byteAt letter 0) (byteAt thn 0) k = true → pairTo s.data.toList (byteAt letter 0) (byteAt thn 0) (s.size - 1) = true) := Lib.hid (fun h => pairTo_up (by omega) h)
      have hix := fun w => index_pred s k hkp hjt w
      generalize s[k - 1] = x1 at *
      by_cases t1 : (x1 == letter[0]) = true
      · have t1' : ((x1.toNat : Int) == (letter[0].toNat : Int)) = true := by rw [u8_beq]; exact t1
        by_cases t2 : (s[k] == thn[0]) = true
        · have t2' : ((s[k].toNat : Int) == (thn[0].toNat : Int)) = true := by rw [u8_beq]; exact t2
          have HF := Lib.hid (HHIT.out (by rw [HP.out, t1, t2]; rfl))
          clear t1 t2
          go_wp2
          go_quiet (fail)
          go_wp2
          go_ret
          exact ⟨ret_bool (by rw [HF.out]; rfl), below_drewN Q1.out _⟩
        · have t2' : ((s[k].toNat : Int) == (thn[0].toNat : Int)) = false := by rw [u8_beq]; simpa using t2
          have HF : Hid (pairTo s.data.toList (byteAt letter 0) (byteAt thn 0) k = false) := by
            have : pairTo s.data.toList (byteAt letter 0) (byteAt thn 0) k = false := by rw [HP.out, t1]; simpa using t2
            exact Lib.hid this
          clear t1 t2
          go_wp2
          go_quiet (fail)
          go_wp2
          go_roundw
          case rel => exact ⟨k + 1, by omega, by go_num, by omega, HF.out, below_drewN HB.out _⟩
          case measure => simp [intOf]; omega
      · have t1' : ((x1.toNat : Int) == (letter[0].toNat : Int)) = false := by rw [u8_beq]; simpa using t1
        have HF : Hid (pairTo s.data.toList (byteAt letter 0) (byteAt thn 0) k = false) := by
          have t1n : (x1 == letter[0]) = false := by simpa using t1
          have : pairTo s.data.toList (byteAt letter 0) (byteAt thn 0) k = false := by rw [HP.out, t1n]; rfl
          exact Lib.hid this
        clear t1
        go_wp2
        go_quiet (fail)
        go_wp2
        go_roundw
        case rel => exact ⟨k + 1, by omega, by go_num, by omega, HF.out, below_drewN HB.out _⟩
        case measure => simp [intOf]; omega
    · have HF : Hid (pairTo s.data.toList (byteAt letter 0) (byteAt thn 0) (s.size - 1) = false) := by
        have e : k - 1 = s.size - 1 := by omega
        have := HN.out
        rw [e] at this
        exact Lib.hid this
      go_wp2
      go_ret
      exact ⟨ret_bool (by rw [HF.out]; rfl), Q1.out⟩

/-- how many letters the first k runs have -/
def sumRuns (R : List (UInt8 × Nat)) (k : Nat) : Nat := ((R.take k).map (·.2)).sum
theorem sumRuns_succ (R : List (UInt8 × Nat)) (k : Nat) (h : k < R.length) : sumRuns R (k + 1) = sumRuns R k + R[k].2 := by
  unfold sumRuns
  rw [List.take_succ_eq_append_getElem h, List.map_append, List.sum_append]; simp
theorem sumRuns_lt (l : List UInt8) (k : Nat) (h : k < (runsL l).length) : sumRuns (runsL l) k + (runsL l)[k].2 ≤ l.length := by
  rw [← sumRuns_succ _ _ h, ← runsL_sum l]
  unfold sumRuns
  conv => rhs; rw [← List.take_append_drop (k + 1) (runsL l)]
  rw [List.map_append, List.sum_append]
  omega
theorem runs_letter (l : List UInt8) : ∀ k (h : k < (runsL l).length), l.getD (sumRuns (runsL l) k) 0 = (runsL l)[k].1 := by
  refine snoc_ind (P := fun l => ∀ k (h : k < (runsL l).length), l.getD (sumRuns (runsL l) k) 0 = (runsL l)[k].1) ?_ ?_ l
  · intro k h; simp [runsL_nil] at h
  · intro l c ih k h
    have hs := runsL_snoc l c
    rcases snocRun_cases (runsL l) c with ⟨ys, n, h1, h2⟩ | ⟨h2, _⟩
    · rw [h2] at hs
      have hk : k < (ys ++ [(c, n)]).length := by rw [hs] at h; simpa using h
      have hk' : k < (runsL l).length := by rw [h1]; exact hk
      have hky : k ≤ ys.length := by simp at hk; omega
      have a := ih k hk'
      have b := sumRuns_lt l k hk'
      have p := runsL_pos l _ (List.getElem_mem hk')
      have e1 : sumRuns (runsL (l ++ [c])) k = sumRuns (runsL l) k := by
        unfold sumRuns
        rw [hs, h1, List.take_append_of_le_length hky, List.take_append_of_le_length hky]
      have e2 : (runsL (l ++ [c]))[k].1 = (runsL l)[k].1 := by
        simp only [hs, h1]
        rcases Nat.lt_or_eq_of_le hky with hlt | rfl
        · rw [List.getElem_append_left hlt, List.getElem_append_left hlt]
        · simp
      rw [e1, e2, ← a, List.getD_eq_getElem?_getD, List.getD_eq_getElem?_getD, List.getElem?_append_left (by omega)]
    · rw [h2] at hs
      have e1 : ∀ j, j ≤ (runsL l).length → sumRuns (runsL (l ++ [c])) j = sumRuns (runsL l) j := fun j hj => by
        unfold sumRuns
        rw [hs, List.take_append_of_le_length hj]
      have hk : k < (runsL l ++ [(c, 1)]).length := by rw [hs] at h; exact h
      rw [e1 k (by simp at hk; omega)]
      rcases Nat.lt_or_ge k (runsL l).length with hlt | hge
      · have a := ih k hlt
        have b := sumRuns_lt l k hlt
        have p := runsL_pos l _ (List.getElem_mem hlt)
        have e2 : (runsL (l ++ [c]))[k].1 = (runsL l)[k].1 := by simp only [hs]; rw [List.getElem_append_left hlt]
        rw [e2, ← a, List.getD_eq_getElem?_getD, List.getD_eq_getElem?_getD, List.getElem?_append_left (by omega)]
      · have e : k = (runsL l).length := by simp at hk; omega
        subst e
        have e2 : (runsL (l ++ [c]))[(runsL l).length].1 = c := by simp only [hs]; simp
        have e3 : sumRuns (runsL l) (runsL l).length = l.length := by unfold sumRuns; rw [List.take_length, runsL_sum]
        rw [e2, e3]
        simp [List.getD]
end Go.Proofs.Ytgpjckmmleagbab

namespace Go.Proofs.Ytgpjckmmleagbab
open Go.RowKit

set_option maxHeartbeats 1600000 in
theorem specKeeps_1 (letter : ByteArray) (many : Int) (s : ByteArray) (w : World) (hl : letterOk letter = true) (h0 : 2 ≤ many) (h4 : many ≤ 4) (hw : wordOk s = true) :
    Calls Try.prog 49 #[.agg #[.int .i64 1, .string letter, .string ⟨#[]⟩, .int .i64 many], .string s] w
      fun e w' => e = .returned (.bool (longAll (runsL s.data.toList) (byteAt letter 0) many)) ∧ Below w.heap.size w w' := by
  have hsm : s.size ≤ maxLen := Nat.le_trans (wordOk_size hw) (by decide)
  have hok : (Ru.mk 1 letter ⟨#[]⟩ many).ok = true := Ru.ok_iff.2 ⟨hl, .inr (.inl ⟨rfl, rfl, h0, h4⟩)⟩
  have h1 := letterOk_size hl
  have hp1 : 0 < letter.size := by omega
  have h14 := wordOk_size hw
  go_enter Try.func49, Try.ntmps49
  go_wp2_with fail
  refine (specRuleOk_any 1 letter ⟨#[]⟩ many _).mono ?_
  rintro e w1 ⟨rfl, hb1⟩
  rw [hok]
  simp only [World.size_alloc] at hb1
  obtain ⟨y0, y1, y2, y3, q1, s1⟩ := ru_cells 1 letter ⟨#[]⟩ many hb1
  go_wp2_with (go_at_call 19; refine (specWordOk_any _ _ hsm).mono ?_; rintro e w' ⟨rfl, rfl⟩)
  refine (specRunsOf_any s _ hsm).mono ?_
  rintro e w2 ⟨v, rfl, hown, hb2⟩
  rw [runsOf_yes hw] at hown
  have B2 := Lib.hid (hb1.trans (hb2.mono s1))
  have hRow : IsInts w2 v ((runsL s.data.toList).map (fun p => (p.2 : Int))) := IsInts.of_owns hown
  obtain ⟨a, cap, rfl, hcap, hmax, hor⟩ := hRow
  have HOR := Lib.hid hor
  have HSL := Lib.hid (And.intro (fun k h => sumRuns_lt s.data.toList k h) (fun k h => runs_letter s.data.toList k h))
  have HPOS := Lib.hid (runsL_pos s.data.toList)
  have hRl : (runsL s.data.toList).length ≤ 14 := Nat.le_trans (runsL_length _) (by rw [len_data]; exact h14)
  have HRD := Lib.hid (len_data s)
  have hc1 : Hid (letter[0] = byteAt letter 0) := Lib.hid (byteAt_eq letter 0 hp1)
  clear hown hor hb1 hb2 y0 y1 y2 y3 q1 s1
  rw [List.length_map] at hcap ⊢
  generalize hR : runsL s.data.toList = R at *
  have HRR := Lib.hid hR
  clear hR
  go_wp2_with fail
  go_loopw [7, 8] (fun p i wr => ∃ k : Nat, k ≤ R.length ∧ i = .int .i64 (k : Int) ∧ p = .int .i64 ((sumRuns R k : Nat) : Int) ∧ longAll (R.take k) (byteAt letter 0) many = true ∧ Below w2.heap.size w2 wr) (fun _ i _ => R.length - (intOf i).toNat)
  case atStart => exact ⟨0, Nat.zero_le _, rfl, rfl, rfl, Below.refl _ _⟩
  case round =>
    obtain ⟨k, hk, rfl, rfl, hall, hb⟩ := hrel
    have HA := Lib.hid hall
    have HB := Lib.hid hb
    obtain ⟨y0, y1, y2, y3, q1, s1⟩ := ru_cells 1 letter ⟨#[]⟩ many (B2.out.trans (hb.mono (by have := B2.out.size; simp only [World.size_alloc] at this; exact this)))
    have Q1 := Lib.hid q1
    clear hall hb y0 y2 q1 s1
    by_cases hlt : k < R.length
    · obtain ⟨g, off, rfl, hg, hcell⟩ := HOR.out.resolve_left (fun e => by have := congrArg List.length e; rw [List.length_map] at this; simp at this; rw [this] at hlt; exact Nat.not_lt_zero _ hlt)
      have hck := (HB.out.cell (p := ⟨g, off + k, none⟩) hg).trans (hcell k (by rw [List.length_map]; exact hlt))
      rw [List.getElem_map] at hck
      have hsum := HSL.out.1 k hlt
      have hps := sumRuns_succ R k hlt
      have hlet := HSL.out.2 k hlt
      have hLT : Hid (longAll (R.take (k + 1)) (byteAt letter 0) many = (!(R[k].1 == byteAt letter 0) || decide (many ≤ (R[k].2 : Int)))) := by
        have : longAll (R.take (k + 1)) (byteAt letter 0) many = (!(R[k].1 == byteAt letter 0) || decide (many ≤ (R[k].2 : Int))) := by
          rw [List.take_succ_eq_append_getElem hlt, longAll_snoc, HA.out, Bool.true_and]
        exact Lib.hid this
      have hmem : R[k] ∈ R := List.getElem_mem hlt
      have hALL : Hid (longAll (R.take (k + 1)) (byteAt letter 0) many = false → longAll R (byteAt letter 0) many = false) := by
        have : longAll (R.take (k + 1)) (byteAt letter 0) many = false → longAll R (byteAt letter 0) many = false := fun h => by
          have h2 : longAll (R.take (k + 1) ++ R.drop (k + 1)) (byteAt letter 0) many = false := by
            unfold longAll at h ⊢
            rw [List.all_append, h]; rfl
          rwa [List.take_append_drop] at h2
        exact Lib.hid this
      rw [HRD.out] at hsum
      generalize hrk : R[k] = rk at *
      obtain ⟨rc, rn⟩ := rk
      simp only at hck hsum hps hlet hLT
      have hpos : 1 ≤ rn := HPOS.out _ hmem
      have hps' : sumRuns R k < s.size := by omega
      have hsb : s[sumRuns R k] = rc := (byteAt_eq s _ hps').trans hlet
      have HPS := Lib.hid hps
      have hp14 : sumRuns R k ≤ 14 := by omega
      clear hlet hps hmem hcell hrk
      generalize sumRuns R k = p at *
      have hrn : (rn : Int) ≤ 14 := by omega
      by_cases t1 : (rc == letter[0]) = true
      · have t1' : ((rc.toNat : Int) == (letter[0].toNat : Int)) = true := by rw [u8_beq]; exact t1
        have t1c : (rc == byteAt letter 0) = true := by rw [← hc1.out]; exact t1
        by_cases t2 : (rn : Int) < many
        · have HF : Hid (longAll R (byteAt letter 0) many = false) := by
            have : longAll R (byteAt letter 0) many = false := hALL.out (by rw [hLT.out, t1c]; simp; omega)
            exact Lib.hid this
          clear t1 t1c
          go_wp2
          go_quiet (fail)
          go_wp2
          go_ret
          exact ⟨ret_bool (by rw [HRR.out, HF.out]), below_drewN Q1.out _⟩
        · have HF : Hid (longAll (R.take (k + 1)) (byteAt letter 0) many = true) := by
            have : longAll (R.take (k + 1)) (byteAt letter 0) many = true := by rw [hLT.out, t1c]; simp; omega
            exact Lib.hid this
          clear t1 t1c
          go_wp2
          go_quiet (fail)
          go_wp2
          go_roundw
          case rel => exact ⟨k + 1, hlt, by go_num, by rw [HPS.out]; go_num, HF.out, below_drewN HB.out _⟩
          case measure => simp [intOf]; omega
      · have t1' : ((rc.toNat : Int) == (letter[0].toNat : Int)) = false := by rw [u8_beq]; simpa using t1
        have HF : Hid (longAll (R.take (k + 1)) (byteAt letter 0) many = true) := by
          have t1c : (rc == byteAt letter 0) = false := by rw [← hc1.out]; simpa using t1
          have : longAll (R.take (k + 1)) (byteAt letter 0) many = true := by rw [hLT.out, t1c]; rfl
          exact Lib.hid this
        clear t1
        go_wp2
        go_quiet (fail)
        go_wp2
        go_roundw
        case rel => exact ⟨k + 1, hlt, by go_num, by rw [HPS.out]; go_num, HF.out, below_drewN HB.out _⟩
        case measure => simp [intOf]; omega
    · obtain rfl : k = R.length := by omega
      have HF : Hid (longAll R (byteAt letter 0) many = true) := by
        have := HA.out
        rw [List.take_length] at this
        exact Lib.hid this
      go_wp2
      go_ret
      exact ⟨ret_bool (by rw [HRR.out, HF.out]), Q1.out⟩
end Go.Proofs.Ytgpjckmmleagbab

namespace Go.Proofs.Ytgpjckmmleagbab
open Go.RowKit

theorem Ru.keeps_of {r : Ru} {s : ByteArray} (h : r.ok = true) (hw : wordOk s = true) : r.keeps s = r.holds s := by simp [Ru.keeps, h, hw]

set_option maxHeartbeats 1600000 in
theorem implKeeps_any (kind : Int) (letter thn : ByteArray) (many : Int) (s : ByteArray) (m : Int) (w : World) (h1 : letter.size ≤ maxLen) (h2 : thn.size ≤ maxLen) (hs : s.size ≤ maxLen) (hm : w.cell? ⟨0, 0, none⟩ = some (.int .i64 m)) :
    Calls Try.prog 48 #[.agg #[.int .i64 kind, .string letter, .string thn, .int .i64 many], .string s] w
      fun e w' => e = .returned (.bool ((Ru.mk kind letter thn many).keeps s)) ∧ Below w.heap.size w w' := by
  by_cases hok : (Ru.mk kind letter thn many).ok = true
  · by_cases hw : wordOk s = true
    · rw [Ru.keeps_of hok hw]
      obtain ⟨hl, hr⟩ := Ru.ok_iff.1 hok
      simp only at hl hr
      rcases hr with ⟨rfl, rfl, h0, h4⟩ | ⟨rfl, rfl, h0, h4⟩ | ⟨rfl, ht, rfl⟩ | ⟨rfl, rfl, h0, h4⟩ | ⟨rfl, rfl, h0, h4⟩
      · exact implKeeps_0 letter many s w hl h0 h4 hw
      · exact implKeeps_1 letter many s w hl h0 h4 hw
      · exact implKeeps_2 letter thn m s w hl ht hm hw
      · exact implKeeps_3 letter many s w hl h0 h4 hw
      · exact implKeeps_4 letter many s w hl h0 h4 hw
    · have hw' : wordOk s = false := by simpa using hw
      have HF : Hid ((Ru.mk kind letter thn many).keeps s = false) := by
        have : (Ru.mk kind letter thn many).keeps s = false := by simp [Ru.keeps, hw']
        exact Lib.hid this
      clear hw
      go_enter Try.func48, Try.ntmps48
      go_wp2_with fail
      refine (implRuleOk_any kind letter thn many _ h1 h2).mono ?_
      rintro e w1 ⟨rfl, hb1⟩
      rw [hok]
      simp only [World.size_alloc] at hb1
      have q1 := (ru_cells kind letter thn many hb1).2.2.2.2.1
      go_wp2_with (go_at_call 63; refine (implWordOk_any _ _ hs).mono ?_; rintro e w' ⟨rfl, rfl⟩)
      go_ret
      exact ⟨ret_bool HF.out.symm, q1⟩
  · have hok' : (Ru.mk kind letter thn many).ok = false := by simpa using hok
    have HF : Hid ((Ru.mk kind letter thn many).keeps s = false) := by
      have : (Ru.mk kind letter thn many).keeps s = false := by simp [Ru.keeps, hok']
      exact Lib.hid this
    clear hok
    go_enter Try.func48, Try.ntmps48
    go_wp2_with fail
    refine (implRuleOk_any kind letter thn many _ h1 h2).mono ?_
    rintro e w1 ⟨rfl, hb1⟩
    rw [hok']
    simp only [World.size_alloc] at hb1
    have q1 := (ru_cells kind letter thn many hb1).2.2.2.2.1
    go_wp2_with fail
    go_ret
    exact ⟨ret_bool HF.out.symm, q1⟩

set_option maxHeartbeats 1600000 in
theorem specKeeps_any (kind : Int) (letter thn : ByteArray) (many : Int) (s : ByteArray) (w : World) (hs : s.size ≤ maxLen) :
    Calls Try.prog 49 #[.agg #[.int .i64 kind, .string letter, .string thn, .int .i64 many], .string s] w
      fun e w' => e = .returned (.bool ((Ru.mk kind letter thn many).keeps s)) ∧ Below w.heap.size w w' := by
  by_cases hok : (Ru.mk kind letter thn many).ok = true
  · by_cases hw : wordOk s = true
    · rw [Ru.keeps_of hok hw]
      obtain ⟨hl, hr⟩ := Ru.ok_iff.1 hok
      simp only at hl hr
      rcases hr with ⟨rfl, rfl, h0, h4⟩ | ⟨rfl, rfl, h0, h4⟩ | ⟨rfl, ht, rfl⟩ | ⟨rfl, rfl, h0, h4⟩ | ⟨rfl, rfl, h0, h4⟩
      · exact specKeeps_0 letter many s w hl h0 h4 hw
      · exact specKeeps_1 letter many s w hl h0 h4 hw
      · exact specKeeps_2 letter thn s w hl ht hw
      · exact specKeeps_3 letter many s w hl h0 h4 hw
      · exact specKeeps_4 letter many s w hl h0 h4 hw
    · have hw' : wordOk s = false := by simpa using hw
      have HF : Hid ((Ru.mk kind letter thn many).keeps s = false) := by
        have : (Ru.mk kind letter thn many).keeps s = false := by simp [Ru.keeps, hw']
        exact Lib.hid this
      clear hw
      go_enter Try.func49, Try.ntmps49
      go_wp2_with fail
      refine (specRuleOk_any kind letter thn many _).mono ?_
      rintro e w1 ⟨rfl, hb1⟩
      rw [hok]
      simp only [World.size_alloc] at hb1
      have q1 := (ru_cells kind letter thn many hb1).2.2.2.2.1
      go_wp2_with (go_at_call 19; refine (specWordOk_any _ _ hs).mono ?_; rintro e w' ⟨rfl, rfl⟩)
      go_ret
      exact ⟨ret_bool HF.out.symm, q1⟩
  · have hok' : (Ru.mk kind letter thn many).ok = false := by simpa using hok
    have HF : Hid ((Ru.mk kind letter thn many).keeps s = false) := by
      have : (Ru.mk kind letter thn many).keeps s = false := by simp [Ru.keeps, hok']
      exact Lib.hid this
    clear hok
    go_enter Try.func49, Try.ntmps49
    go_wp2_with fail
    refine (specRuleOk_any kind letter thn many _).mono ?_
    rintro e w1 ⟨rfl, hb1⟩
    rw [hok']
    simp only [World.size_alloc] at hb1
    have q1 := (ru_cells kind letter thn many hb1).2.2.2.2.1
    go_wp2_with fail
    go_ret
    exact ⟨ret_bool HF.out.symm, q1⟩
end Go.Proofs.Ytgpjckmmleagbab

namespace Go.Proofs.Ytgpjckmmleagbab
open Go.RowKit

theorem M.endAt_at {m : M} (h : m.ok = true) (s : Int) (h0 : 0 ≤ s) (h1 : s < m.st) : ∃ k : Nat, (k : Int) = s ∧ ∃ hk : k < m.ends.length, m.endAt s = m.ends[k] := by
  have hs := M.ok_shape h
  have hk : s.toNat < m.ends.length := by omega
  refine ⟨s.toNat, by omega, hk, ?_⟩
  rw [M.endAt, if_neg (by omega), List.getD_eq_getElem?_getD, List.getElem?_eq_getElem hk]; rfl
theorem M.endAt_neg (m : M) (s : Int) (h : s < 0) : m.endAt s = false := by rw [M.endAt, if_pos h]
theorem M.after_bd (m : M) (word : ByteArray) (h : 0 ≤ m.after word) : m.ok = true ∧ wordOk word = true ∧ m.after word < m.st := by
  cases hk : m.ok with
  | false => rw [M.after_not word hk] at h; omega
  | true =>
    cases hw : wordOk word with
    | false => rw [M.after_now word hw] at h; omega
    | true =>
      refine ⟨rfl, rfl, ?_⟩
      rw [M.after_yes hk hw]
      exact (M.goes_bd hk 0 _ (by omega) (by have := M.ok_shape hk; omega) (wordOk_all hw)).2

set_option maxHeartbeats 800000 in
theorem specTakesOk_any (m : M) (word : ByteArray) (nv ev : Value) (w : World) (h1 : IsInts w nv m.next) (h2 : IsBools w ev m.ends) (hst : (Lit.int .i64 m.st).wf = true) (hs : word.size ≤ maxLen) :
    Calls Try.prog 17 #[.agg #[.int .i64 m.st, nv, ev], .string word] w fun e w' => e = .returned (.bool (m.takes word)) ∧ Below w.heap.size w w' := by
  have hM : MachBox w.heap.size m.st nv m.next ev m.ends (w.alloc (.cells #[.int .i64 m.st, nv, ev] 26)) := MachBox.new _ h1 h2
  have M0 := Lib.hid hM
  have q0 : Hid (Below w.heap.size w (w.alloc (.cells #[.int .i64 m.st, nv, ev] 26))) := Lib.hid ((Below.refl _ _).alloc (Nat.le_refl _) _)
  clear hM h1 h2
  go_enter Try.func17, Try.ntmps17
  go_wp2_with fail
  refine (specStateAfter_any m word nv ev _ M0.out.ints M0.out.bools hst hs).mono ?_
  rintro e w1 ⟨rfl, hb1⟩
  have M1 := Lib.hid (M0.out.below hb1)
  have q1 := Lib.hid (q0.out.trans (hb1.mono q0.out.size))
  clear hb1
  have HT : Hid (m.takes word = m.endAt (m.after word)) := Lib.hid rfl
  have HB := Lib.hid (M.after_bd m word)
  generalize m.after word = p at *
  have y12 := M1.out.c2
  by_cases hp : 0 ≤ p
  · obtain ⟨hk, -, hlt⟩ := HB.out hp
    obtain ⟨i, hi1, hi2, hi3⟩ := M.endAt_at hk p hp hlt
    obtain ⟨b, cap, rfl, hb1, hb2, hb⟩ := M1.out.bools
    obtain ⟨g, off, rfl, hg, hc⟩ := hb.resolve_left (fun h => by rw [h] at hi2; exact absurd hi2 (Nat.not_lt_zero i))
    have hcell := hc i hi2
    unfold maxLen at hb2
    have HE := Lib.hid (HT.out.trans hi3)
    have hil : i < m.ends.length := hi2
    generalize m.ends[i] = d at hcell HE
    have hsh := M.ok_shape hk
    have hn : m.ends.length ≤ 48 := by omega
    clear hsh hi3 hb hc hk HB HT hi2
    subst hi1
    go_wp2_with fail
    go_ret
    exact ⟨ret_bool HE.out.symm, q1.out⟩
  · have HE := Lib.hid (HT.out.trans (M.endAt_neg m p (by omega)))
    clear HB HT
    go_wp2_with fail
    go_ret
    exact ⟨ret_bool HE.out.symm, q1.out⟩

set_option maxHeartbeats 800000 in
theorem implTakesOk_any (m : M) (word : ByteArray) (nv ev : Value) (w : World) (h1 : IsInts w nv m.next) (h2 : IsBools w ev m.ends) (hst : (Lit.int .i64 m.st).wf = true) (hs : word.size ≤ maxLen) :
    Calls Try.prog 16 #[.agg #[.int .i64 m.st, nv, ev], .string word] w fun e w' => e = .returned (.bool (m.takes word)) ∧ Below w.heap.size w w' := by
  have hM : MachBox w.heap.size m.st nv m.next ev m.ends (w.alloc (.cells #[.int .i64 m.st, nv, ev] 26)) := MachBox.new _ h1 h2
  have M0 := Lib.hid hM
  have q0 : Hid (Below w.heap.size w (w.alloc (.cells #[.int .i64 m.st, nv, ev] 26))) := Lib.hid ((Below.refl _ _).alloc (Nat.le_refl _) _)
  clear hM h1 h2
  go_enter Try.func16, Try.ntmps16
  go_wp2_with fail
  refine (implStateAfter_any m word nv ev _ M0.out.ints M0.out.bools hst hs).mono ?_
  rintro e w1 ⟨rfl, hb1⟩
  have M1 := Lib.hid (M0.out.below hb1)
  have q1 := Lib.hid (q0.out.trans (hb1.mono q0.out.size))
  clear hb1
  have HT : Hid (m.takes word = m.endAt (m.after word)) := Lib.hid rfl
  have HB := Lib.hid (M.after_bd m word)
  generalize m.after word = p at *
  have y12 := M1.out.c2
  by_cases hp : 0 ≤ p
  · obtain ⟨hk, -, hlt⟩ := HB.out hp
    obtain ⟨i, hi1, hi2, hi3⟩ := M.endAt_at hk p hp hlt
    obtain ⟨b, cap, rfl, hb1, hb2, hb⟩ := M1.out.bools
    obtain ⟨g, off, rfl, hg, hc⟩ := hb.resolve_left (fun h => by rw [h] at hi2; exact absurd hi2 (Nat.not_lt_zero i))
    have hcell := hc i hi2
    unfold maxLen at hb2
    have HE := Lib.hid (HT.out.trans hi3)
    have hil : i < m.ends.length := hi2
    generalize m.ends[i] = d at hcell HE
    have hsh := M.ok_shape hk
    have hn : m.ends.length ≤ 48 := by omega
    clear hsh hi3 hb hc hk HB HT hi2
    subst hi1
    go_wp2_with fail
    go_ret
    exact ⟨ret_bool HE.out.symm, q1.out⟩
  · have HE := Lib.hid (HT.out.trans (M.endAt_neg m p (by omega)))
    clear HB HT
    go_wp2_with fail
    go_ret
    exact ⟨ret_bool HE.out.symm, q1.out⟩
end Go.Proofs.Ytgpjckmmleagbab

namespace Go.Proofs.Ytgpjckmmleagbab

theorem longestIn_append (xs ys : List (UInt8 × Nat)) (c : UInt8) : longestIn (xs ++ ys) c = max (longestIn xs c) (longestIn ys c) := by
  refine snoc_ind (P := fun ys => longestIn (xs ++ ys) c = max (longestIn xs c) (longestIn ys c)) ?_ ?_ ys
  · simp [longestIn]
  · intro ys p ih
    rw [← List.append_assoc, longestIn_snoc, longestIn_snoc, ih]
    split <;> omega
theorem longestIn_reverse (xs : List (UInt8 × Nat)) (c : UInt8) : longestIn xs.reverse c = longestIn xs c := by
  induction xs with
  | nil => rfl
  | cons p xs ih =>
    rw [List.reverse_cons, longestIn_append, ih, show p :: xs = [p] ++ xs from rfl, longestIn_append]
    omega
theorem longest_count (l : List UInt8) (c : UInt8) : nowIn (runsL l) c ≤ l.countP (· == c) ∧ longestIn (runsL l) c ≤ l.countP (· == c) ∧ (longestIn (runsL l) c = 0 ↔ l.countP (· == c) = 0) := by
  refine snoc_ind (P := fun l => nowIn (runsL l) c ≤ l.countP (· == c) ∧ longestIn (runsL l) c ≤ l.countP (· == c) ∧ (longestIn (runsL l) c = 0 ↔ l.countP (· == c) = 0)) ?_ ?_ l
  · simp [nowIn, runsL, longestIn]
  · intro l d ih
    rw [runsL_snoc, List.countP_append]
    by_cases h : d = c
    · subst h
      obtain ⟨h1, h2⟩ := snoc_hit (runsL l) d
      rw [h1, h2]
      simp only [List.countP_cons, List.countP_nil, beq_self_eq_true, if_true]
      omega
    · obtain ⟨h1, h2⟩ := snoc_miss (runsL l) c d h
      rw [h1, h2]
      have : (d == c) = false := by simpa using h
      have e : List.countP (· == c) [d] = 0 := by simp [this]
      rw [e, Nat.add_zero]
      exact ⟨Nat.zero_le _, ih.2.1, ih.2.2⟩
theorem longest_two (l m : List UInt8) (c : UInt8) : nowIn (runsL (l ++ m)) c ≤ nowIn (runsL l) c + nowIn (runsL m) c ∧ longestIn (runsL (l ++ m)) c ≤ longestIn (runsL l) c + longestIn (runsL m) c ∧ longestIn (runsL l) c ≤ longestIn (runsL (l ++ m)) c := by
  refine snoc_ind (P := fun m => nowIn (runsL (l ++ m)) c ≤ nowIn (runsL l) c + nowIn (runsL m) c ∧ longestIn (runsL (l ++ m)) c ≤ longestIn (runsL l) c + longestIn (runsL m) c ∧ longestIn (runsL l) c ≤ longestIn (runsL (l ++ m)) c) ?_ ?_ m
  · simp
  · intro m d ih
    have hl := now_le (runsL l) c
    rw [← List.append_assoc, runsL_snoc, runsL_snoc]
    by_cases h : d = c
    · subst h
      obtain ⟨h1, h2⟩ := snoc_hit (runsL (l ++ m)) d
      obtain ⟨h3, h4⟩ := snoc_hit (runsL m) d
      rw [h1, h2, h3, h4]
      omega
    · obtain ⟨h1, h2⟩ := snoc_miss (runsL (l ++ m)) c d h
      obtain ⟨h3, h4⟩ := snoc_miss (runsL m) c d h
      rw [h1, h2, h3, h4]
      omega
theorem runsL_letters (l : List UInt8) (h : ∀ x ∈ l, isL x = true) : ∀ p ∈ runsL l, isL p.1 = true := by
  revert h
  refine snoc_ind (P := fun l => (∀ x ∈ l, isL x = true) → ∀ p ∈ runsL l, isL p.1 = true) ?_ ?_ l
  · intro _ p h; cases h
  · intro l d ih h
    have ih' := ih (fun x hx => h x (List.mem_append.2 (.inl hx)))
    have hd := h d (List.mem_append.2 (.inr (by simp)))
    rw [runsL_snoc]
    rcases snocRun_cases (runsL l) d with ⟨ys, n, h1, h2⟩ | ⟨h2, _⟩
    · rw [h2]
      rw [h1] at ih'
      intro p hp
      rcases List.mem_append.1 hp with hq | hq
      · exact ih' p (List.mem_append.2 (.inl hq))
      · simp at hq; subst hq; exact hd
    · rw [h2]
      intro p hp
      rcases List.mem_append.1 hp with hq | hq
      · exact ih' p hq
      · simp at hq; subst hq; exact hd
/-- the greatest of numbers, from a first one on -/
def maxTo (xs : List Int) (k : Nat) : Int := (xs.take k).foldl max 0
/-- the sum of the first numbers -/
def sumTo (xs : List Int) (k : Nat) : Int := (xs.take k).sum
theorem maxTo_succ (xs : List Int) (k : Nat) (h : k < xs.length) : maxTo xs (k + 1) = max (maxTo xs k) xs[k] := by
  unfold maxTo; rw [List.take_succ_eq_append_getElem h, List.foldl_append]; rfl
theorem sumTo_succ (xs : List Int) (k : Nat) (h : k < xs.length) : sumTo xs (k + 1) = sumTo xs k + xs[k] := by
  unfold sumTo; rw [List.take_succ_eq_append_getElem h, List.sum_append]; simp
theorem maxL_three (ps : List (UInt8 × Nat)) (h : ∀ p ∈ ps, isL p.1 = true) :
    (ps.map (fun p => (p.2 : Int))).foldl max 0 = max (longestIn ps 114 : Int) (max (longestIn ps 100 : Int) (longestIn ps 110 : Int)) := by
  revert h
  refine snoc_ind (P := fun ps => (∀ p ∈ ps, isL p.1 = true) → (ps.map (fun p => (p.2 : Int))).foldl max 0 = max (longestIn ps 114 : Int) (max (longestIn ps 100 : Int) (longestIn ps 110 : Int))) ?_ ?_ ps
  · intro _; rfl
  · intro ps p ih h
    have ih' := ih (fun x hx => h x (List.mem_append.2 (.inl hx)))
    have hp := h p (List.mem_append.2 (.inr (by simp)))
    rw [List.map_append, List.foldl_append, ih', longestIn_snoc, longestIn_snoc, longestIn_snoc]
    simp only [isL, Bool.or_eq_true, beq_iff_eq] at hp
    obtain ⟨c, n⟩ := p
    simp only [List.map_cons, List.map_nil, List.foldl_cons, List.foldl_nil]
    rcases hp with (rfl | rfl) | rfl <;> simp <;> omega
end Go.Proofs.Ytgpjckmmleagbab

namespace Go.Proofs.Ytgpjckmmleagbab

/-- its first letters, and one more -/
theorem take_one (s : ByteArray) (k : Nat) (h : k < s.size) : s.data.toList.take (k + 1) = s.data.toList.take k ++ [byteAt s k] := by
  rw [take_snoc s k h, byteAt_eq s k h]
theorem nx_of {r : Ru} {s : ByteArray} (hw : wordOk s = true) {k : Nat} (hk : k < s.size) (x : Int) : r.nx x (lix s k) = nxR r.kind r.many (byteAt r.letter 0 == byteAt s k) (byteAt r.thn 0 == byteAt s k) x := by
  rw [Ru.nx, (lix_bd hw hk).2.1]
theorem now_hit (xs : List (UInt8 × Nat)) (c : UInt8) : nowIn (snocRun xs c) c = nowIn xs c + 1 := (snoc_hit xs c).1

/-- at most so many in a row -/
theorem to_0 {letter thn : ByteArray} {many : Int} (h0 : 0 ≤ many) (s : ByteArray) (hw : wordOk s = true) : ∀ k, k ≤ s.size →
    (Ru.mk 0 letter thn many).to s k = if (longestIn (runsL (s.data.toList.take k)) (byteAt letter 0) : Int) ≤ many then (nowIn (runsL (s.data.toList.take k)) (byteAt letter 0) : Int) else -1 := by
  intro k
  induction k with
  | zero => intro _; simp [Ru.to, runsL_nil, longestIn, nowIn, h0]
  | succ k ih =>
    intro hk
    have ih := ih (by omega)
    have hlt : k < s.size := by omega
    rw [Ru.to, ih, take_one s k hlt, runsL_snoc, nx_of hw hlt]
    generalize runsL (s.data.toList.take k) = xs
    generalize byteAt s k = c
    simp only
    have hnl := now_le xs (byteAt letter 0)
    by_cases hc : byteAt letter 0 = c
    · obtain ⟨h1, h2⟩ := snoc_hit xs c
      rw [hc] at hnl ⊢
      rw [h1, h2]
      by_cases hl : (longestIn xs c : Int) ≤ many
      · rw [if_pos hl]
        simp only [nxR, beq_self_eq_true, if_true]
        by_cases he : (nowIn xs c : Int) = many
        · rw [if_neg (by omega), if_pos he, if_neg (by omega)]
        · rw [if_neg (by omega), if_neg he, if_pos (by omega)]; omega
      · rw [if_neg hl, if_pos (by decide), if_neg (by omega)]
    · obtain ⟨h1, h2⟩ := snoc_miss xs (byteAt letter 0) c (fun e => hc e.symm)
      rw [h1, h2]
      have hb : (byteAt letter 0 == c) = false := by simpa using hc
      by_cases hl : (longestIn xs (byteAt letter 0) : Int) ≤ many
      · rw [if_pos hl, if_neg (by omega), if_pos hl, hb]
        simp [nxR]
      · rw [if_neg hl, if_pos (by decide), if_neg hl]

/-- all runs but the last one are long enough -/
def doneOk (xs : List (UInt8 × Nat)) (c : UInt8) (n : Int) : Bool := longAll xs.dropLast c n
theorem to_1 {letter thn : ByteArray} {many : Int} (h0 : 2 ≤ many) (s : ByteArray) (hw : wordOk s = true) : ∀ k, k ≤ s.size →
    (Ru.mk 1 letter thn many).to s k = if doneOk (runsL (s.data.toList.take k)) (byteAt letter 0) many = true then min (nowIn (runsL (s.data.toList.take k)) (byteAt letter 0) : Int) many else -1 := by
  intro k
  induction k with
  | zero => intro _; simp [Ru.to, runsL_nil, doneOk, longAll, nowIn]; omega
  | succ k ih =>
    intro hk
    have ih := ih (by omega)
    have hlt : k < s.size := by omega
    rw [Ru.to, ih, take_one s k hlt, runsL_snoc, nx_of hw hlt]
    generalize hxs : runsL (s.data.toList.take k) = xs
    have hpos : ∀ p ∈ xs, 1 ≤ p.2 := by rw [← hxs]; exact runsL_pos _
    generalize byteAt s k = c
    simp only
    by_cases hc : byteAt letter 0 = c
    · rw [hc]
      have h1 := now_hit xs c
      rw [h1]
      have hd : doneOk (snocRun xs c) c many = doneOk xs c many := by
        rcases snocRun_cases xs c with ⟨ys, n, e1, e2⟩ | ⟨e2, e3⟩
        · rw [e1] at e2 ⊢; rw [e2, doneOk, doneOk, List.dropLast_concat, List.dropLast_concat]
        · rw [e2, doneOk, doneOk, List.dropLast_concat]
          rcases snoc_cases xs with rfl | ⟨ys, ⟨d, n⟩, rfl⟩
          · rfl
          · have hne := e3 d n (by simp)
            rw [longAll_snoc, List.dropLast_concat]
            simp [hne]
      rw [hd]
      by_cases hl : doneOk xs c many = true
      · rw [if_pos hl, if_neg (by rw [Int.min_def]; split <;> omega), if_pos hl]
        simp only [nxR, beq_self_eq_true, if_true]
        simp only [Int.min_def]
        push_cast
        split <;> split <;> (try split) <;> omega
      · rw [if_neg hl, if_pos (by decide), if_neg hl]
    · have hc2 : c ≠ byteAt letter 0 := fun e => hc e.symm
      have h1 := (snoc_miss xs (byteAt letter 0) c hc2).1
      rw [h1]
      have hb : (byteAt letter 0 == c) = false := by simpa using hc
      have hd : doneOk (snocRun xs c) (byteAt letter 0) many = longAll xs (byteAt letter 0) many := by
        rcases snocRun_cases xs c with ⟨ys, n, e1, e2⟩ | ⟨e2, e3⟩
        · rw [e1] at e2 ⊢
          rw [e2, doneOk, List.dropLast_concat, longAll_snoc]
          simp [hc2]
        · rw [e2, doneOk, List.dropLast_concat]
      have hx : longAll xs (byteAt letter 0) many = (doneOk xs (byteAt letter 0) many && (decide ((nowIn xs (byteAt letter 0) : Int) = 0) || decide (many ≤ (nowIn xs (byteAt letter 0) : Int)))) := by
        rcases snoc_cases xs with rfl | ⟨ys, ⟨d, n⟩, rfl⟩
        · simp [doneOk, longAll, nowIn]
        · rw [longAll_snoc, doneOk, List.dropLast_concat]
          congr 1
          have hn := hpos (d, n) (by simp)
          simp only at hn
          by_cases hd : d = byteAt letter 0
          · simp only [nowIn, List.getLast?_concat, hd, if_true]
            simp
            omega
          · simp [nowIn, hd]
      rw [hd, hx, hb]
      by_cases hl : doneOk xs (byteAt letter 0) many = true
      · rw [if_pos hl, hl, Bool.true_and]
        rw [if_neg (by rw [Int.min_def]; split <;> omega)]
        simp only [nxR]
        generalize (nowIn xs (byteAt letter 0)) = N
        by_cases e0 : N = 0
        · subst e0
          simp [Int.min_def]
          omega
        · by_cases e1 : many ≤ (N : Int)
          · have : min (N : Int) many = many := by rw [Int.min_def]; split <;> omega
            rw [this]
            simp [e1]
            omega
          · have : min (N : Int) many = N := by rw [Int.min_def]; split <;> omega
            rw [this]
            have h3 : 0 < (N : Int) ∧ (N : Int) < many := by omega
            simp [e0, e1, h3]
      · rw [if_neg hl, if_pos (by decide)]
        have : doneOk xs (byteAt letter 0) many = false := by simpa using hl
        simp [this]
theorem holds_1 {letter : ByteArray} {many : Int} (h0 : 2 ≤ many) (s : ByteArray) : longAll (runsL s.data.toList) (byteAt letter 0) many = (doneOk (runsL s.data.toList) (byteAt letter 0) many && endR 1 many (min (nowIn (runsL s.data.toList) (byteAt letter 0) : Int) many)) := by
  have hpos := runsL_pos s.data.toList
  generalize runsL s.data.toList = xs at *
  have hz : min (0 : Int) many = 0 := by rw [Int.min_def]; split <;> omega
  rcases snoc_cases xs with rfl | ⟨ys, ⟨d, n⟩, rfl⟩
  · simp [doneOk, longAll, nowIn, endR, hz]
  · rw [longAll_snoc, doneOk, List.dropLast_concat]
    congr 1
    have hn := hpos (d, n) (by simp)
    simp only at hn
    by_cases hd : d = byteAt letter 0
    · simp only [nowIn, List.getLast?_concat, hd, if_true, endR]
      by_cases e1 : many ≤ (n : Int)
      · have : min (n : Int) many = many := by rw [Int.min_def]; split <;> omega
        simp [this, e1]
      · have : min (n : Int) many = n := by rw [Int.min_def]; split <;> omega
        simp [this, e1]
        omega
    · simp [nowIn, hd, endR, hz]

/-- never right behind -/
theorem to_2 {letter thn : ByteArray} (s : ByteArray) (hw : wordOk s = true) : ∀ k, k ≤ s.size →
    (Ru.mk 2 letter thn 0).to s k = if pairTo s.data.toList (byteAt letter 0) (byteAt thn 0) (k - 1) = true then -1 else if 0 < k ∧ byteAt s (k - 1) = byteAt letter 0 then 1 else 0 := by
  intro k
  induction k with
  | zero => intro _; simp [Ru.to, pairTo]
  | succ k ih =>
    intro hk
    have ih := ih (by omega)
    have hlt : k < s.size := by omega
    rw [Ru.to, ih, nx_of hw hlt]
    simp only [Nat.add_sub_cancel]
    cases k with
    | zero =>
      simp only [pairTo, List.range_zero, List.any_nil, Nat.zero_sub]
      by_cases hc : byteAt letter 0 = byteAt s 0
      · simp [nxR, hc]
      · have hc2 : ¬ byteAt s 0 = byteAt letter 0 := fun e => hc e.symm
        have hb : (byteAt letter 0 == byteAt s 0) = false := by simpa using hc
        simp [nxR, hb, hc2]
    | succ k =>
      have hp := pairTo_succ s.data.toList (byteAt letter 0) (byteAt thn 0) k
      have g1 : s.data.toList.getD k 0 = byteAt s k := rfl
      have g2 : s.data.toList.getD (k + 1) 0 = byteAt s (k + 1) := rfl
      rw [g1, g2] at hp
      rw [hp]
      simp only [Nat.add_sub_cancel]
      by_cases hpk : pairTo s.data.toList (byteAt letter 0) (byteAt thn 0) k = true
      · simp [hpk]
      · have hpk' : pairTo s.data.toList (byteAt letter 0) (byteAt thn 0) k = false := by simpa using hpk
        rw [hpk']
        generalize byteAt s k = x
        generalize byteAt s (k + 1) = y
        generalize byteAt letter 0 = c
        generalize byteAt thn 0 = d
        by_cases hx : x = c
        · by_cases hy : d = y
          · simp [hx, hy, nxR]
          · have hy2 : ¬ y = d := fun e => hy e.symm
            by_cases hcy : c = y
            · simp [hx, hy, hy2, hcy, nxR]
            · have hcy2 : ¬ y = c := fun e => hcy e.symm
              simp [hx, hy, hy2, hcy, hcy2, nxR]
        · by_cases hcy : c = y
          · subst hcy
            simp [hx, nxR]
          · have hcy2 : ¬ y = c := fun e => hcy e.symm
            simp [hx, hcy, hcy2, nxR]

/-- counted -/
theorem cnt_one (s : ByteArray) (c : UInt8) (k : Nat) : cntEq s.data.toList c (k + 1) = cntEq s.data.toList c k + if byteAt s k = c then 1 else 0 := by
  by_cases h : byteAt s k = c
  · have hp : ((fun i => s.data.toList.getD i 0 == c) k) = true := by
      show (byteAt s k == c) = true
      rw [h]; simp
    rw [cntEq, cntTo_yes _ _ hp, if_pos h]; rfl
  · have hp : ((fun i => s.data.toList.getD i 0 == c) k) = false := by
      show (byteAt s k == c) = false
      simpa using h
    rw [cntEq, cntTo_no _ _ hp, if_neg h, Int.add_zero]; rfl
theorem to_3 {letter thn : ByteArray} {many : Int} (h0 : 0 ≤ many) (s : ByteArray) (hw : wordOk s = true) : ∀ k, k ≤ s.size →
    (Ru.mk 3 letter thn many).to s k = if cntEq s.data.toList (byteAt letter 0) k ≤ many then cntEq s.data.toList (byteAt letter 0) k else -1 := by
  intro k
  induction k with
  | zero => intro _; simp [Ru.to, cntEq, cntTo, h0]
  | succ k ih =>
    intro hk
    have ih := ih (by omega)
    have hlt : k < s.size := by omega
    have hb := cntEq_bd s.data.toList (byteAt letter 0) k
    rw [Ru.to, ih, nx_of hw hlt, cnt_one]
    generalize cntEq s.data.toList (byteAt letter 0) k = N at *
    simp only
    by_cases hc : byteAt s k = byteAt letter 0
    · rw [hc, if_pos rfl]
      by_cases hl : N ≤ many
      · rw [if_pos hl, if_neg (by omega)]
        simp only [nxR, beq_self_eq_true, if_true]
        by_cases he : N = many
        · simp [he]
          intro h
          omega
        · have h1 : min (N + 1) many = N + 1 := by rw [Int.min_def]; split <;> omega
          simp [he, h1]
          omega
      · rw [if_neg hl, if_pos (by decide), if_neg (by omega)]
    · have hb2 : (byteAt letter 0 == byteAt s k) = false := by simpa using fun e => hc e.symm
      rw [if_neg hc, hb2]
      by_cases hl : N ≤ many
      · rw [if_pos hl, if_neg (by omega), if_pos (by omega)]
        simp [nxR]
      · rw [if_neg hl, if_pos (by decide), if_neg (by omega)]
theorem to_4 {letter thn : ByteArray} {many : Int} (h0 : 1 ≤ many) (s : ByteArray) (hw : wordOk s = true) : ∀ k, k ≤ s.size →
    (Ru.mk 4 letter thn many).to s k = min (cntEq s.data.toList (byteAt letter 0) k) many := by
  intro k
  induction k with
  | zero => intro _; simp [Ru.to, cntEq, cntTo, Int.min_def]; omega
  | succ k ih =>
    intro hk
    have ih := ih (by omega)
    have hlt : k < s.size := by omega
    have hb := cntEq_bd s.data.toList (byteAt letter 0) k
    rw [Ru.to, ih, nx_of hw hlt, cnt_one]
    generalize cntEq s.data.toList (byteAt letter 0) k = N at *
    rw [if_neg (by rw [Int.min_def]; split <;> omega)]
    simp only
    by_cases hc : byteAt s k = byteAt letter 0
    · rw [hc, if_pos rfl]
      simp only [nxR, beq_self_eq_true, if_true]
      simp [Int.min_def]
      split <;> split <;> (try split) <;> omega
    · have hb2 : (byteAt letter 0 == byteAt s k) = false := by simpa using fun e => hc e.symm
      rw [if_neg hc, hb2]
      simp [nxR]
end Go.Proofs.Ytgpjckmmleagbab

namespace Go.Proofs.Ytgpjckmmleagbab

theorem goes_to {r : Ru} (hok : r.ok = true) {s : ByteArray} (hw : wordOk s = true) : ∀ k, k ≤ s.size → (mfT r).goes 0 (s.data.toList.take k) = r.to s k := by
  intro k
  induction k with
  | zero => intro _; rfl
  | succ k ih =>
    intro hk
    have ih := ih (by omega)
    have hlt : k < s.size := by omega
    obtain ⟨l3, _, l2⟩ := lix_bd hw hlt
    rw [M.goes_snoc _ _ _ _ hlt, ih, byteAt_eq s k hlt, ← l2]
    rcases Ru.to_bd hok s k with h | h
    · rw [h, M.nx_neg _ _ _ (by decide), Ru.to, if_pos (by rw [h]; decide)]
    · rw [mfT_nx hok h l3, Ru.to, if_neg (by have := h.1; omega)]
theorem after_to {r : Ru} (hok : r.ok = true) {s : ByteArray} (hw : wordOk s = true) : (mfT r).after s = r.to s s.size := by
  rw [M.after, if_pos (by rw [mfT_ok hok, hw]; rfl), ← goes_to hok hw s.size (Nat.le_refl _), List.take_of_length_le (Nat.le_of_eq (len_data s))]
theorem endAt_to {r : Ru} (hok : r.ok = true) (s : ByteArray) (k : Nat) : (mfT r).endAt (r.to s k) = if r.to s k = -1 then false else r.endAt (r.to s k) := by
  rcases Ru.to_bd hok s k with h | h
  · rw [h]; simp [M.endAt]
  · rw [mfT_end h, if_neg (by have := h.1; omega)]

/-- A RULE AND ITS MACHINE SAY THE SAME -/
theorem takes_holds {r : Ru} (hok : r.ok = true) {s : ByteArray} (hw : wordOk s = true) : (mfT r).takes s = r.holds s := by
  rw [M.takes, after_to hok hw, endAt_to hok]
  obtain ⟨kind, letter, thn, many⟩ := r
  obtain ⟨hl, hr⟩ := Ru.ok_iff.1 hok
  have ht : s.data.toList.take s.size = s.data.toList := List.take_of_length_le (Nat.le_of_eq (len_data s))
  simp only at hr
  rcases hr with ⟨rfl, rfl, h0, h4⟩ | ⟨rfl, rfl, h0, h4⟩ | ⟨rfl, ht2, rfl⟩ | ⟨rfl, rfl, h0, h4⟩ | ⟨rfl, rfl, h0, h4⟩
  · rw [to_0 h0 s hw s.size (Nat.le_refl _), ht]
    simp only [Ru.holds, Ru.endAt, endR, if_true]
    by_cases h : (longestIn (runsL s.data.toList) (byteAt letter 0) : Int) ≤ many
    · rw [if_pos h, if_neg (by omega)]; simp [h]
    · rw [if_neg h, if_pos rfl]; simp [h]
  · rw [to_1 h0 s hw s.size (Nat.le_refl _), ht]
    have hh := holds_1 (letter := letter) h0 s
    have e : (Ru.mk 1 letter ⟨#[]⟩ many).holds s = longAll (runsL s.data.toList) (byteAt letter 0) many := by simp [Ru.holds]
    rw [e, hh]
    simp only [Ru.endAt]
    by_cases h : doneOk (runsL s.data.toList) (byteAt letter 0) many = true
    · rw [if_pos h, if_neg (by rw [Int.min_def]; split <;> omega), h, Bool.true_and]
    · have h' : doneOk (runsL s.data.toList) (byteAt letter 0) many = false := by simpa using h
      rw [if_neg h, if_pos rfl, h', Bool.false_and]
  · rw [to_2 s hw s.size (Nat.le_refl _)]
    simp only [Ru.holds, Ru.endAt, endR]
    by_cases h : pairTo s.data.toList (byteAt letter 0) (byteAt thn 0) (s.size - 1) = true
    · simp [h]
    · have h' : pairTo s.data.toList (byteAt letter 0) (byteAt thn 0) (s.size - 1) = false := by simpa using h
      rw [h']
      by_cases hx : 0 < s.size ∧ byteAt s (s.size - 1) = byteAt letter 0
      · simp [hx]
      · simp [hx]
  · rw [to_3 h0 s hw s.size (Nat.le_refl _)]
    have hb := cntEq_bd s.data.toList (byteAt letter 0) s.size
    simp only [Ru.holds, Ru.endAt, endR]
    by_cases h : cntEq s.data.toList (byteAt letter 0) s.size ≤ many
    · rw [if_pos h, if_neg (by omega)]; simp [h]
    · rw [if_neg h, if_pos rfl]; simp [h]
  · rw [to_4 h0 s hw s.size (Nat.le_refl _)]
    have hb := cntEq_bd s.data.toList (byteAt letter 0) s.size
    simp only [Ru.holds, Ru.endAt, endR]
    generalize cntEq s.data.toList (byteAt letter 0) s.size = N at *
    rw [if_neg (by rw [Int.min_def]; split <;> omega)]
    by_cases h : many ≤ N
    · have : min N many = many := by rw [Int.min_def]; split <;> omega
      simp [this, h]
    · have : min N many = N := by rw [Int.min_def]; split <;> omega
      simp [this, h]
      omega

/-- the rule with both letters exchanged, if it is of RuleNever -/
def Ru.turned (r : Ru) : Ru := if r.kind = 2 then ⟨2, r.thn, r.letter, 0⟩ else r
theorem Ru.turned_ok {r : Ru} (h : r.ok = true) : r.turned.ok = true := by
  obtain ⟨kind, letter, thn, many⟩ := r
  unfold Ru.turned
  simp only
  by_cases hk : kind = 2
  · rw [if_pos hk]
    subst hk
    obtain ⟨hl, hr⟩ := Ru.ok_iff.1 h
    simp only at hl hr
    rcases hr with ⟨h, _⟩ | ⟨h, _⟩ | ⟨_, ht, _⟩ | ⟨h, _⟩ | ⟨h, _⟩
    · omega
    · omega
    · exact Ru.ok_iff.2 ⟨ht, .inr (.inr (.inl ⟨rfl, hl, rfl⟩))⟩
    · omega
    · omega
  · rw [if_neg hk]; exact h
theorem pairTo_iff (l : List UInt8) (c d : UInt8) (k : Nat) : pairTo l c d k = true ↔ ∃ i, i < k ∧ l.getD i 0 = c ∧ l.getD (i + 1) 0 = d := by
  simp [pairTo]
theorem pairTo_rev (l : List UInt8) (c d : UInt8) : pairTo l.reverse d c (l.length - 1) = pairTo l c d (l.length - 1) := by
  have key : ∀ (l : List UInt8) (c d : UInt8), pairTo l c d (l.length - 1) = true → pairTo l.reverse d c (l.length - 1) = true := by
    intro l c d h
    obtain ⟨i, hi, h1, h2⟩ := (pairTo_iff _ _ _ _).1 h
    refine (pairTo_iff _ _ _ _).2 ⟨l.length - 2 - i, by omega, ?_, ?_⟩
    · rw [List.getD_eq_getElem?_getD, List.getElem?_reverse (by omega), show l.length - 1 - (l.length - 2 - i) = i + 1 from by omega, ← List.getD_eq_getElem?_getD]; exact h2
    · rw [List.getD_eq_getElem?_getD, List.getElem?_reverse (by omega), show l.length - 1 - (l.length - 2 - i + 1) = i from by omega, ← List.getD_eq_getElem?_getD]; exact h1
  rw [Bool.eq_iff_iff]
  refine ⟨fun h => ?_, key l c d⟩
  have := key l.reverse d c (by rw [List.length_reverse]; exact h)
  rwa [List.reverse_reverse, List.length_reverse] at this
theorem turned_back {r : Ru} (hok : r.ok = true) {s : ByteArray} (hw : wordOk s = true) : r.turned.holds (backStr s) = r.holds s := by
  obtain ⟨kind, letter, thn, many⟩ := r
  obtain ⟨hl, hr⟩ := Ru.ok_iff.1 hok
  have hd : (backStr s).data.toList = s.data.toList.reverse := by rw [backStr_yes hw, back0_list]
  have hsz : (backStr s).size = s.size := back_size hw
  have hcnt : cntEq s.data.toList.reverse (byteAt letter 0) s.size = cntEq s.data.toList (byteAt letter 0) s.size := by
    have h := countOf_back hw hl
    simp only at h
    rw [countOf_yes (wordOk_back hw) hl, countOf_yes hw hl, hd, hsz] at h
    exact h
  simp only at hr
  rcases hr with ⟨rfl, rfl, h0, h4⟩ | ⟨rfl, rfl, h0, h4⟩ | ⟨rfl, ht2, rfl⟩ | ⟨rfl, rfl, h0, h4⟩ | ⟨rfl, rfl, h0, h4⟩
  · simp [Ru.turned, Ru.holds, hd, runsL_reverse, longestIn_reverse]
  · simp [Ru.turned, Ru.holds, hd, runsL_reverse, longAll]
  · have := pairTo_rev s.data.toList (byteAt letter 0) (byteAt thn 0)
    rw [len_data] at this
    simp [Ru.turned, Ru.holds, hd, hsz, this]
  · simp [Ru.turned, Ru.holds, hd, hsz, hcnt]
  · simp [Ru.turned, Ru.holds, hd, hsz, hcnt]
/-- what FnKeepsRule asks of the word back -/
theorem turned_keeps {r : Ru} (hok : r.ok = true) {s : ByteArray} (hw : wordOk s = true) : r.turned.keeps (backStr s) = r.keeps s := by
  simp [Ru.keeps, Ru.turned_ok hok, hok, wordOk_back hw, hw, turned_back hok hw]

theorem lets_mono (r : Ru) (s : ByteArray) (k j : Nat) : r.lets s k ≤ r.lets s (k + j) := by
  induction j with
  | zero => exact Int.le_refl _
  | succ j ih =>
    show _ ≤ r.lets s (k + j + 1)
    rw [Ru.lets]; split <;> omega
theorem lets_bd2 (r : Ru) (s : ByteArray) (k : Nat) : 0 ≤ r.lets s k ∧ r.lets s k ≤ k := by
  induction k with
  | zero => exact ⟨Int.le_refl _, Int.le_refl _⟩
  | succ k ih => rw [Ru.lets]; split <;> omega
/-- the first letters break the rule just from the told number on -/
theorem broken_from {r : Ru} (hok : r.ok = true) {s : ByteArray} (hw : wordOk s = true) (k : Nat) (hk : k ≤ s.size) : (r.to s k = -1) ↔ (0 ≤ r.broken s ∧ r.broken s ≤ k) := by
  have hb : r.broken s = if r.to s s.size < 0 then r.lets s s.size else -1 := by simp [Ru.broken, hok, hw]
  have hle := lets_bd2 r s
  rw [hb]
  by_cases h : r.to s k < 0
  · have hst := Ru.stuck s k (s.size - k) h
    rw [show k + (s.size - k) = s.size from by omega] at hst
    rw [if_pos hst.1, hst.2]
    have := hle k
    have h2 := (Ru.to_bd hok s k).resolve_right (fun e => by have := e.1; omega)
    exact ⟨fun _ => this, fun _ => h2⟩
  · have hne : ¬ r.to s k = -1 := by omega
    refine ⟨fun e => absurd e hne, fun ⟨a, b⟩ => ?_⟩
    exfalso
    by_cases hx : r.to s s.size < 0
    · rw [if_pos hx] at b
      have hlt : k < s.size := by
        rcases Nat.lt_or_ge k s.size with h2 | h2
        · exact h2
        · have : k = s.size := by omega
          rw [this] at h; omega
      have h1 : r.lets s (k + 1) = k + 1 := by rw [Ru.lets, if_neg h, Ru.lets_of s k (by omega)]
      have h2 := lets_mono r s (k + 1) (s.size - (k + 1))
      rw [show k + 1 + (s.size - (k + 1)) = s.size from by omega] at h2
      omega
    · rw [if_neg hx] at a; omega
theorem broken_one {r : Ru} (hok : r.ok = true) {s : ByteArray} (hw : wordOk s = true) : r.broken s < 0 ∨ (1 ≤ r.broken s ∧ r.keeps s = false) := by
  by_cases h : r.broken s < 0
  · exact .inl h
  · right
    have h0 := broken_from hok hw 0 (Nat.zero_le _)
    have h1 : 1 ≤ r.broken s := by
      rcases Int.lt_or_le (r.broken s) 1 with h2 | h2
      · have : r.to s 0 = -1 := h0.2 ⟨by omega, by omega⟩
        simp [Ru.to] at this
      · exact h2
    refine ⟨h1, ?_⟩
    have hb : r.broken s = if r.to s s.size < 0 then r.lets s s.size else -1 := by simp [Ru.broken, hok, hw]
    have hneg : r.to s s.size = -1 := by
      by_cases hx : r.to s s.size < 0
      · exact (Ru.to_bd hok s s.size).resolve_right (fun e => by have := e.1; omega)
      · rw [if_neg hx] at hb; omega
    have ht := takes_holds hok hw
    rw [M.takes, after_to hok hw, endAt_to hok, if_pos hneg] at ht
    simp [Ru.keeps, hok, hw, ← ht]
end Go.Proofs.Ytgpjckmmleagbab

namespace Go.Proofs.Ytgpjckmmleagbab
open Go.RowKit

theorem wordOk_take (s : ByteArray) (h : wordOk s = true) (k : Nat) : wordOk (s.extract 0 k) = true := by
  simp only [wordOk, Bool.and_eq_true, decide_eq_true_eq, allL, List.all_eq_true] at h ⊢
  refine ⟨fun x hx => h.1 x ?_, ?_⟩
  · rw [ByteArray.data_extract, Array.toList_extract, List.extract_eq_take_drop] at hx
    exact List.mem_of_mem_take hx
  · rw [ByteArray.size_extract]; omega
theorem take_after {r : Ru} (hok : r.ok = true) {s : ByteArray} (hw : wordOk s = true) (k : Nat) (hk : k ≤ s.size) : (mfT r).after (s.extract 0 k) = r.to s k := by
  rw [M.after, if_pos (by rw [mfT_ok hok, wordOk_take s hw k]; rfl), ← goes_to hok hw k hk, ByteArray.data_extract, Array.toList_extract, List.extract_eq_take_drop]
  rfl
theorem broken_test {r : Ru} (hok : r.ok = true) {s : ByteArray} (hw : wordOk s = true) (k : Nat) (hk : k ≤ s.size) :
    ((r.to s k == -1) != (decide (r.broken s ≥ 0) && decide ((k : Int) ≥ r.broken s))) = false := by
  have h := broken_from hok hw k hk
  by_cases h1 : r.to s k = -1
  · obtain ⟨h2, h3⟩ := h.1 h1
    simp [h1, h2, h3]
  · have h4 : ¬(0 ≤ r.broken s ∧ r.broken s ≤ k) := fun hc => h1 (h.2 hc)
    have h5 : (r.to s k == -1) = false := by simpa using h1
    rw [h5]
    by_cases h6 : 0 ≤ r.broken s
    · have h7 : ¬ (r.broken s ≤ k) := fun hc => h4 ⟨h6, hc⟩
      simp [h6, h7]
    · simp [h6]

set_option maxHeartbeats 6000000 in
set_option maxRecDepth 100000 in
theorem lawBroken_walk {w : World} (a : Option Addr) (len cap : Nat) (zs : List Int) (h : IsRow .u8 w a len cap zs) (hglob : ∃ m, w.cell? ⟨0, 0, none⟩ = some (.int .i64 m)) :
    Calls Try.prog 14 #[.slice a len cap] w fun e w' => e = .returned (.bool true) ∧ Below w.heap.size w w' := by
  obtain ⟨mx, hmx⟩ := hglob
  have hg0 : (⟨0, 0, none⟩ : Addr).block < w.heap.size := World.block_lt_of_cell? w _ hmx
  have HMX : Hid (∀ w', Below w.heap.size w w' → w'.cell? ⟨0, 0, none⟩ = some (.int .i64 mx)) := Lib.hid (fun w' hb => (hb.cell hg0).trans hmx)
  clear hmx hg0
  have HD := Lib.hid (drawBrokenAt_any a len cap zs w h)
  have hl : len ≤ maxLen := by
    rcases h with ⟨_, rfl, _⟩ | ⟨x, _, h1, h2, _⟩
    · exact Nat.zero_le _
    · exact Nat.le_trans h1 h2
  unfold maxLen at hl
  clear h
  by_cases hbig : 1048576 < len
  · go_enter Try.func14, Try.ntmps14
    go_wp2_with fail
    go_ret
    exact ⟨rfl, Below.refl _ _⟩
  · go_enter Try.func14, Try.ntmps14
    go_wp2_with fail
    refine HD.out.mono ?_
    clear HD
    rintro e w1 ⟨kind, letter, thn, many, s, rfl, p1, p2, p3, p4, p5, p6, p7, hb⟩
    have hlm : letter.size ≤ maxLen := by rw [p3]; decide
    have htm : thn.size ≤ maxLen := Nat.le_trans p4 (by decide)
    have hsm : s.size ≤ maxLen := Nat.le_trans p7 (by decide)
    have b0 := Lib.hid (Below.refl (w1.heap.size + 1) (w1.alloc (.cells #[.int .i64 kind, .string letter, .string thn, .int .i64 many] 46)))
    have QB := Lib.hid hb
    clear hb
    obtain ⟨y0, y1, y2, y3, q1, s1⟩ := ru_cells kind letter thn many b0.out
    have hm1 := HMX.out _ (QB.out.trans (q1.mono QB.out.size))
    go_wp2_with fail
    clear y0 y1 y2 y3
    refine (implBroken_any kind letter thn many s _ hlm htm hsm).mono ?_
    rintro e w2 ⟨rfl, hb2⟩
    simp only [World.size_alloc] at hb2
    have B2 := Lib.hid hb2
    clear hb2 q1 s1 hm1
    obtain ⟨y0, y1, y2, y3, -, s2⟩ := ru_cells kind letter thn many B2.out
    go_wp2_with fail
    clear y0 y1 y2 y3
    refine (specBroken_any kind letter thn many s _ hsm).mono ?_
    rintro e w3 ⟨rfl, hb3⟩
    have B3 := Lib.hid (B2.out.trans (hb3.mono s2))
    clear hb3 s2 B2
    have hne : ((Ru.mk kind letter thn many).broken s != (Ru.mk kind letter thn many).broken s) = false := by simp
    obtain ⟨y0, y1, y2, y3, -, s3⟩ := ru_cells kind letter thn many B3.out
    go_wp2_with fail
    clear y0 y1 y2 y3 hne
    refine (specRuleOk_any kind letter thn many _).mono ?_
    rintro e w4 ⟨rfl, hb4⟩
    have B4 := Lib.hid (B3.out.trans (hb4.mono s3))
    clear hb4 s3 B3
    have Q4 := Lib.hid (QB.out.trans ((ru_cells kind letter thn many B4.out).2.2.2.2.1.mono QB.out.size))
    by_cases hok : (Ru.mk kind letter thn many).ok = true
    · by_cases hw : wordOk s = true
      · have HOK := Lib.hid (And.intro hok hw)
        rw [hok]
        clear hok
        obtain ⟨y0, y1, y2, y3, -, s4⟩ := ru_cells kind letter thn many B4.out
        go_wp2_with (go_at_call 19; refine (specWordOk_any _ _ hsm).mono ?_; rintro e w' ⟨rfl, rfl⟩)
        have hMF := implMachineFor_any kind letter thn many w4 hlm htm
        rw [mf_yes HOK.out.1, HOK.out.1] at hMF
        clear y0 y1 y2 y3
        refine hMF.mono ?_
        clear hMF
        rintro e w5 ⟨a1, a2, c1, c2, rfl, hA, hb5⟩
        have hI := IsInts.of_owns hA.head
        have hE := IsBools.of_owns hA.tail.head
        have B5 := Lib.hid (B4.out.trans (hb5.mono s4))
        have hstw : (Lit.int .i64 (mfT (Ru.mk kind letter thn many)).st).wf = true := by
          have hb := Ru.st_bd HOK.out.1
          exact WalkArith.wf_i64 (by show _ ∧ _; have : (mfT (Ru.mk kind letter thn many)).st = ((Ru.mk kind letter thn many).st : Int) := rfl; omega)
        have HAFT := Lib.hid (fun k hk => take_after HOK.out.1 HOK.out.2 k hk)
        have HTEST := Lib.hid (fun k hk => broken_test HOK.out.1 HOK.out.2 k hk)
        have HONE := Lib.hid (broken_one HOK.out.1 HOK.out.2)
        generalize hTT : mfT (Ru.mk kind letter thn many) = T at *
        have HTT := Lib.hid hTT
        clear hTT hA hb5 s4
        have hal : Below w5.heap.size w5 (w5.alloc (.cells #[.int .i64 T.st, .slice a1 T.next.length c1, .slice a2 T.ends.length c2] 26)) := (Below.refl _ _).alloc (Nat.le_refl _) _
        have s5 := (ru_cells kind letter thn many B5.out).2.2.2.2.2
        have M6 := Lib.hid (MachBox.new (st := T.st) 26 hI hE)
        have B6 := Lib.hid (B5.out.trans (hal.mono s5))
        clear hal s5 hI hE
        have Q5 := Lib.hid (QB.out.trans ((ru_cells kind letter thn many B6.out).2.2.2.2.1.mono QB.out.size))
        have S6 := Lib.hid ((ru_cells kind letter thn many B6.out).2.2.2.2.2)
        have HKF : Hid ((Ru.mk kind letter thn many).broken s < 0 ∨ ∀ W, Below w.heap.size w W → Calls Try.prog 48 #[.agg #[.int .i64 kind, .string letter, .string thn, .int .i64 many], .string s] W fun e w' => e = .returned (.bool false) ∧ Below W.heap.size W w') := by
          rcases HONE.out with h | ⟨-, h⟩
          · exact Lib.hid (.inl h)
          · exact Lib.hid (.inr fun W hW => by
              have := implKeeps_any kind letter thn many s mx W hlm htm hsm (HMX.out W hW)
              rwa [h] at this)
        have HON2 : Hid ((Ru.mk kind letter thn many).broken s < 0 ∨ 1 ≤ (Ru.mk kind letter thn many).broken s) := Lib.hid (HONE.out.imp id (·.1))
        generalize hBR : (Ru.mk kind letter thn many).broken s = br at *
        have HBR := Lib.hid hBR
        clear hBR HONE
        have hwl : s.size ≤ 14 := wordOk_size HOK.out.2
        go_wp2_with fail
        go_loopw [8] (fun i wr => ∃ j : Int, 0 ≤ j ∧ j ≤ (s.size : Int) + 1 ∧ i = .int .i64 j ∧ Below (w5.alloc (.cells #[.int .i64 T.st, .slice a1 T.next.length c1, .slice a2 T.ends.length c2] 26)).heap.size (w5.alloc (.cells #[.int .i64 T.st, .slice a1 T.next.length c1, .slice a2 T.ends.length c2] 26)) wr) (fun i _ => s.size + 1 - (intOf i).toNat)
        case atStart => exact ⟨0, by omega, by omega, rfl, Below.refl _ _⟩
        case round =>
          obtain ⟨j, hj0, hj1, rfl, hb⟩ := hrel
          have BK := Lib.hid hb
          clear hb
          have MK := Lib.hid (M6.out.below BK.out)
          obtain ⟨y0, y1, y2, y3, -, -⟩ := ru_cells kind letter thn many (B6.out.trans (BK.out.mono S6.out))
          have m0 := MK.out.c0
          have m1 := MK.out.c1
          have m2 := MK.out.c2
          by_cases hgo : j ≤ (s.size : Int)
          · have hkn : j.toNat ≤ s.size := by omega
            have hsx : (s.extract 0 j.toNat).size ≤ maxLen := Nat.le_trans (by rw [ByteArray.size_extract]; omega) (show 14 ≤ maxLen by decide)
            have hq1 : IntKind.i64.wrap (j + 1) = j + 1 := IntWalk.i64_in _ (by omega)
            have hcall : ∀ W nv ev, IsInts W nv T.next → IsBools W ev T.ends → Calls Try.prog 57 #[.agg #[.int .i64 T.st, nv, ev], .string (s.extract 0 j.toNat)] W fun e w' => e = .returned (.int .i64 ((Ru.mk kind letter thn many).to s j.toNat)) ∧ Below W.heap.size W w' := fun W nv ev h1 h2 => by
              have := implStateAfter_any T (s.extract 0 j.toNat) nv ev W h1 h2 hstw hsx
              rwa [HAFT.out j.toNat hkn] at this
            have HCALL := Lib.hid hcall
            have htest := HTEST.out j.toNat hkn
            rw [Int.toNat_of_nonneg hj0] at htest
            clear hcall
            generalize (Ru.mk kind letter thn many).to s j.toNat = X at *
            by_cases h0 : 0 ≤ br
            · by_cases h1 : br ≤ j
              · have hX : X = -1 := by
                  by_cases h : X = -1
                  · exact h
                  · have h5 : (X == -1) = false := by simpa using h
                    rw [h5] at htest; simp [h0, h1] at htest
                subst hX
                clear htest
                go_wp2_with fail
                first | go_region_with (go_at_call 57; refine (HCALL.out _ _ _ (MK.out.ints.below (Below.refl _ _).drew) (MK.out.bools.below (Below.refl _ _).drew)).mono ?_; rintro e w9 ⟨rfl, hb9⟩) | fail
                all_goals
                  have N9 := Lib.hid (BK.out.trans (((Below.refl wr.heap.size wr).drew.trans hb9).mono BK.out.size))
                  clear hb9 m0 m1 m2 y0 y1 y2 y3
                  go_simp
                  go_wp2_with fail
                  go_roundw
                  case rel => exact ⟨j + 1, by omega, by omega, by first | rfl | go_num, N9.out⟩
                  case measure => simp [intOf]; omega
              · have hX : (X == -1) = false := by
                  by_cases h : X = -1
                  · subst h; simp [h0, h1] at htest
                  · simpa using h
                clear htest
                go_wp2_with fail
                first | go_region_with (go_at_call 57; refine (HCALL.out _ _ _ (MK.out.ints.below (Below.refl _ _).drew) (MK.out.bools.below (Below.refl _ _).drew)).mono ?_; rintro e w9 ⟨rfl, hb9⟩) | fail
                all_goals
                  have N9 := Lib.hid (BK.out.trans (((Below.refl wr.heap.size wr).drew.trans hb9).mono BK.out.size))
                  clear hb9 m0 m1 m2 y0 y1 y2 y3
                  go_simp
                  go_wp2_with fail
                  go_roundw
                  case rel => exact ⟨j + 1, by omega, by omega, by first | rfl | go_num, N9.out⟩
                  case measure => simp [intOf]; omega
            · have hX : (X == -1) = false := by
                by_cases h : X = -1
                · subst h; simp [h0] at htest
                · simpa using h
              clear htest
              have hd0 : decide (0 ≤ br) = false := by simpa using h0
              have hd1 : (0 ≤ br) = False := by simp [h0]
              go_wp2_with fail
              first | go_region_with (go_at_call 57; refine (HCALL.out _ _ _ (MK.out.ints.below (Below.refl _ _).drew) (MK.out.bools.below (Below.refl _ _).drew)).mono ?_; rintro e w9 ⟨rfl, hb9⟩) | fail
              all_goals
                have N9 := Lib.hid (BK.out.trans (((Below.refl wr.heap.size wr).drew.trans hb9).mono BK.out.size))
                clear hb9 m0 m1 m2 y0 y1 y2 y3
                go_simp
                go_wp2_with fail
                go_roundw
                case rel => exact ⟨j + 1, by omega, by omega, by first | rfl | go_num, N9.out⟩
                case measure => simp [intOf]; omega
          · have hkk : j = (s.size : Int) + 1 := by omega
            subst hkk
            rcases HON2.out with hneg | hpos
            · go_wp2_with fail
              go_ret
              exact ⟨rfl, Q5.out.trans (BK.out.mono Q5.out.size)⟩
            · have HK3 := Lib.hid ((HKF.out.resolve_left (by omega)) _ (Q5.out.trans (BK.out.mono Q5.out.size)))
              go_wp2_with fail
              refine HK3.out.mono ?_
              rintro e w9 ⟨rfl, hb9⟩
              have N9 := Lib.hid (BK.out.trans (hb9.mono BK.out.size))
              clear hb9
              go_wp2_with fail
              go_ret
              exact ⟨rfl, Q5.out.trans (N9.out.mono Q5.out.size)⟩
      · have hw' : wordOk s = false := by simpa using hw
        have HK : Hid ((Ru.mk kind letter thn many).broken s = -1) := by
          have : (Ru.mk kind letter thn many).broken s = -1 := broken_no (by simp [hw'])
          exact Lib.hid this
        rw [hok, HK.out]
        clear hw hok
        go_wp2_with (first | (go_at_call 19; refine (specWordOk_any _ _ hsm).mono ?_; rintro e w' ⟨rfl, rfl⟩) | (go_at_call 20; refine (alive_any _).mono ?_; rintro e w' ⟨rfl, rfl⟩))
        go_ret
        exact ⟨rfl, Q4.out⟩
    · have hok' : (Ru.mk kind letter thn many).ok = false := by simpa using hok
      have HK : Hid ((Ru.mk kind letter thn many).broken s = -1) := by
        have : (Ru.mk kind letter thn many).broken s = -1 := broken_no (by simp [hok'])
        exact Lib.hid this
      rw [hok', HK.out]
      clear hok
      go_wp2_with (go_at_call 20; refine (alive_any _).mono ?_; rintro e w' ⟨rfl, rfl⟩)
      go_ret
      exact ⟨rfl, Q4.out⟩
end Go.Proofs.Ytgpjckmmleagbab
