/- Drawing a rule and a word. No condition. The walks of FnWordOk and FnLetterOk: true at every code. No condition. laws.sameInts: whether two lists of numbers are the same. No condition. laws.sameMachine: a machine is the same as itself, wherever its lists lie. No condition. impl.RunsOf: what it returns, for every text. spec.RunsOf: what it returns, for every text. KeepsRule on the model's side. No condition. KeepsRule on the model's side, for rules of runs. No condition. KeepsRule on both sides, for every rule and text; the walk of FnExactKeepsRule. Condition: the library's variable MaxLen holds some number. StateAfter and TakesOk, the model's and the program's. No condition. TakesOk, the model's and the program's. No condition. More plain mathematics of runs: back, twice, the greatest. No program, no condition. A rule and its machine say the same; a rule and the word back. No program's walk, no condition. A rule and its machine say the same; a rule and the word back; where a word breaks a rule. No program's walk, no condition. The machine of a rule is trimmed: a finite look. No program's walk. The walk of FnMachineFor: true at every two codes. Condition: the library's variable MaxLen holds some number. -/
import Derived.Test.YtlfjecaffmfgcabDrawnR
import Derived.Test.YtlfjecaffmfgcabDrawn1
import Derived.Test.YtlfjecaffmfgcabInts
import Derived.Test.YtlfjecaffmfgcabWords
import Derived.Deep.QuietTactic
import Derived.BigQuiet
import Derived.WalkSmall
import Derived.Test.YtlfjecaffmfgcabMach
import Derived.Deep.RegionWith
import Derived.Test.YtlfjecaffmfgcabLongest
import Derived.Test.YtlfjecaffmfgcabKeeps
import Derived.Test.YtlfjecaffmfgcabStep
import Derived.Test.YtlfjecaffmfgcabImplMachOk
import Derived.Test.YtlfjecaffmfgcabMathR
import Derived.Test.YtlfjecaffmfgcabForMachAll
import Derived.Test.YtlfjecaffmfgcabTrimmed2

namespace Go.Proofs.Ytlfjecaffmfgcab
open Go.RowKit

def KeptPost (B R : Nat) (a : Option Addr) (len cap k : Nat) (w : World) (e : Ending) (w' : World) : Prop :=
  ∃ (kind : Int) (letter thn : ByteArray) (many : Int) (s : ByteArray), e = .returned (.tuple #[.agg #[.int .i64 kind, .string letter, .string thn, .int .i64 many], .string s]) ∧ 0 ≤ kind ∧ kind ≤ 5 ∧ letter.size = 1 ∧ thn.size ≤ 1 ∧ -1 ≤ many ∧ many ≤ 6 ∧ s.size ≤ 23 ∧
    ∃ k', k ≤ k' ∧ k' ≤ k + 40 ∧ RdAt B R a len cap k' w' ∧ KeepsBut R w w'

set_option maxHeartbeats 800000 in
theorem l20Kept_any (B R : Nat) (a : Option Addr) (len cap k : Nat) (w : World) (H : RdAt B R a len cap k w) (hk : k ≤ 800000) :
    Calls Try.prog 57 #[.pointer (some ⟨R, 0, none⟩)] w (KeptPost B R a len cap k w) := by
  have F0 := Lib.hid (RuF.new w 0 ⟨#[]⟩ ⟨#[]⟩ 0 27)
  have R0 := Lib.hid (H.keeps ((Below.refl _ w).alloc (Nat.le_refl _) (.cells #[.int .i64 0, .string ⟨#[]⟩, .string ⟨#[]⟩, .int .i64 0] 27)))
  have K0 := Lib.hid ((KeepsBut.refl R w).alloc (.cells #[.int .i64 0, .string ⟨#[]⟩, .string ⟨#[]⟩, .int .i64 0] 27))
  have hne : w.heap.size ≠ R := Nat.ne_of_gt H.hR
  have HNE := Lib.hid hne
  have HBR := Lib.hid (And.intro H.hB H.hR)
  clear H hne
  go_enter Try.func57, Try.ntmps57
  go_wp2_with fail
  refine (l20Rule_any B R a len cap k 12 _ R0.out (by omega) (by omega) (by omega)).mono ?_
  rintro e w2 ⟨kind, letter, thn, many, rfl, p1, p2, p3, p4, p5, p6, k2, hk1, hk2, hR2, hK2⟩
  have F2 := Lib.hid (F0.out.keeps hK2 HNE.out)
  have K2 := Lib.hid (K0.out.trans hK2)
  have R2 := Lib.hid hR2
  clear hR2 hK2 F0 K0 R0
  go_wp2_with fail
  refine (l20Word_any B R a len cap k2 12 _ R2.out (by omega) (by omega) (by omega)).mono ?_
  rintro e w3 ⟨s, rfl, hs, k3, hk3, hk4, hR3, hK3⟩
  have F3 := Lib.hid (F2.out.keeps hK3 HNE.out)
  have K3 := Lib.hid (K2.out.trans hK3)
  have FI : ∀ W, W = (((w3.setCell ⟨w.heap.size, 0, none⟩ (.int .i64 kind)).setCell ⟨w.heap.size, 1, none⟩ (.string letter)).setCell ⟨w.heap.size, 2, none⟩ (.string thn)).setCell ⟨w.heap.size, 3, none⟩ (.int .i64 many) →
      W.cell? ⟨w.heap.size, 0, none⟩ = some (.int .i64 kind) ∧ W.cell? ⟨w.heap.size, 1, none⟩ = some (.string letter) ∧ W.cell? ⟨w.heap.size, 2, none⟩ = some (.string thn) ∧ W.cell? ⟨w.heap.size, 3, none⟩ = some (.int .i64 many) ∧ RdAt B R a len cap k3 W ∧ KeepsBut R w W := by
    rintro W rfl
    have b0 := F3.out.c0
    have b1 := F3.out.c1
    have b2 := F3.out.c2
    have b3 := F3.out.c3
    have hB : B ≤ w.heap.size := by have := HBR.out; omega
    refine ⟨by go_simp, by go_simp, by go_simp, by go_simp, (((hR3.other _ 0 _ HNE.out hB).other _ 1 _ HNE.out hB).other _ 2 _ HNE.out hB).other _ 3 _ HNE.out hB, ?_⟩
    have hsame : ∀ (x : World) (i : Nat) (u : Value), KeepsBut R w x → KeepsBut R w (x.setCell ⟨w.heap.size, i, none⟩ u) := fun x i u hx =>
      ⟨hx.os, hx.tape, hx.output, by simpa using hx.size, fun j hj hr => (Below.heap_setCell x ⟨w.heap.size, i, none⟩ u j (by show j ≠ w.heap.size; omega)).trans (hx.block j hj hr)⟩
    exact hsame _ _ _ (hsame _ _ _ (hsame _ _ _ (hsame _ _ _ K3.out)))
  have FIH := Lib.hid FI
  have y0 := F3.out.c0
  have y1 := F3.out.c1
  have y2 := F3.out.c2
  have y3 := F3.out.c3
  have f0 := F3.out.f 0
  have f1 := F3.out.f 1
  have f2 := F3.out.f 2
  have f3 := F3.out.f 3
  clear FI hR3 hK3
  go_wp2
  obtain ⟨r0, r1, r2, r3, r4, r5⟩ := FIH.out _ rfl
  refine bodyPost_ret (v := .tuple #[.agg #[.int .i64 kind, .string letter, .string thn, .int .i64 many], .string s]) ?_ rfl ⟨kind, letter, thn, many, s, rfl, p1, p2, p3, p4, p5, p6, hs, k3, by omega, by omega, r4, r5⟩
  simp [results, Try.results57, go_sem, r0, r1, r2, r3]

set_option maxHeartbeats 800000 in
theorem drawKeepsRule_any (a : Option Addr) (len cap : Nat) (zs : List Int) (w : World) (h : IsRow .u8 w a len cap zs) :
    Calls Try.prog 23 #[.slice a len cap] w (RuleWordRes w) := by
  have H0 := h.below2 ((Below.refl w.heap.size w).alloc (Nat.le_refl _) (.cells #[.int .i64 0, .string ⟨#[]⟩, .string ⟨#[]⟩, .int .i64 0] 27))
  have HO := Lib.hid (l20Open_any a len cap zs _ H0)
  have F0 := Lib.hid (RuF.new w 0 ⟨#[]⟩ ⟨#[]⟩ 0 27)
  clear H0 h
  go_enter Try.func23, Try.ntmps23
  go_wp2_with fail
  refine HO.out.mono ?_
  clear HO
  rintro e w1 ⟨a1, len1, cap1, rfl, hR, hb1⟩
  have F1 := Lib.hid (F0.out.keeps (R := w.heap.size + 1) (KeepsBut.of_below hb1) (by omega))
  have q1 := Lib.hid (((Below.refl w.heap.size w).alloc (Nat.le_refl _) (.cells #[.int .i64 0, .string ⟨#[]⟩, .string ⟨#[]⟩, .int .i64 0] 27)).trans (hb1.mono (by simp)))
  simp only [World.size_alloc] at hR hb1
  go_wp2_with fail
  refine (l20Kept_any _ _ a1 len1 cap1 0 w1 hR (by omega)).mono ?_
  rintro e w2 ⟨kind, letter, thn, many, s, rfl, p1, p2, p3, p4, p5, p6, p7, k2, hk1, hk2, hR2, hK2⟩
  have F2 := Lib.hid (F1.out.keeps hK2 (by omega))
  have q2 : Below w.heap.size w w2 := q1.out.trans (hK2.below (by omega) q1.out.size)
  have FI := Lib.hid (fun W hW => laid4 (kind := kind) (letter := letter) (thn := thn) (many := many) F2.out q2 (Nat.le_refl _) (W := W) hW)
  have y0 := F2.out.c0
  have y1 := F2.out.c1
  have y2 := F2.out.c2
  have y3 := F2.out.c3
  have f0 := F2.out.f 0
  have f1 := F2.out.f 1
  have f2 := F2.out.f 2
  have f3 := F2.out.f 3
  clear q2 hR hb1 hR2 hK2
  go_wp2
  obtain ⟨r0, r1, r2, r3, r4⟩ := FI.out _ rfl
  refine bodyPost_ret (v := .tuple #[.agg #[.int .i64 kind, .string letter, .string thn, .int .i64 many], .string s]) ?_ rfl ⟨kind, letter, thn, many, s, rfl, p1, p2, p3, p4, p5, p6, p7, r4⟩
  simp [results, Try.results23, go_sem, r0, r1, r2, r3]

end Go.Proofs.Ytlfjecaffmfgcab

namespace Go.Proofs.Ytlfjecaffmfgcab
open Go.RowKit

theorem alive_any (w : World) : Calls Try.prog 14 #[] w fun e w' => e = .returned (.bool true) ∧ w = w' := by
  have h1 : wordOk ⟨#[114, 100, 110]⟩ = true := by decide +kernel
  have h2 : wordOk ⟨#[120]⟩ = false := by decide +kernel
  go_enter Try.func14, Try.ntmps14
  go_wp2_with (go_at_call 48; refine (implWordOk_any _ _ (by decide)).mono ?_; rintro e w' ⟨rfl, rfl⟩)
  go_ret
  exact ⟨rfl, rfl⟩

theorem wordOk_init (s : ByteArray) (h : wordOk s = true) (h0 : 0 < s.size) : wordOk (s.extract 0 (s.size - 1)) = true := by
  simp only [wordOk, Bool.and_eq_true, decide_eq_true_eq, allL, List.all_eq_true] at h ⊢
  refine ⟨fun x hx => h.1 x ?_, ?_⟩
  · rw [ByteArray.data_extract, Array.toList_extract, List.extract_eq_take_drop] at hx
    exact List.mem_of_mem_take hx
  · rw [ByteArray.size_extract]; omega
theorem wordOk_twice (s : ByteArray) (h : wordOk s = true) (h0 : 2 * s.size ≤ 14) : wordOk (s ++ s) = true := by
  simp only [wordOk, Bool.and_eq_true, decide_eq_true_eq, allL, List.all_eq_true] at h ⊢
  refine ⟨fun x hx => h.1 x ?_, ?_⟩
  · rw [ByteArray.data_append, Array.toList_append, List.mem_append] at hx
    exact hx.elim id id
  · rw [ByteArray.size_append]; omega

theorem letterOk_def1 (s : ByteArray) (h : s.size = 1) : letterOk s = wordOk s := by simp [letterOk, h]

end Go.Proofs.Ytlfjecaffmfgcab

namespace Go.Proofs.Ytlfjecaffmfgcab
open Go.RowKit

set_option maxHeartbeats 800000 in
theorem sameInts_any (u v : Value) (xs ys : List Int) (w : World) (hu : IsInts w u xs) (hv : IsInts w v ys) :
    Calls Try.prog 54 #[u, v] w fun e w' => e = .returned (.bool (xs == ys)) ∧ ∃ n, w' = w.drewN n := by
  obtain ⟨a, cap, rfl, ha1, ha2, ha⟩ := hu
  obtain ⟨b, cbp, rfl, hb1, hb2, hb⟩ := hv
  unfold maxLen at ha2 hb2
  by_cases hlen : xs.length = ys.length
  · have hl' : ((xs.length : Int) != (ys.length : Int)) = false := by simp [hlen]
    have HA := Lib.hid ha
    have HB := Lib.hid hb
    clear ha hb
    have hle : xs.length ≤ ys.length := by omega
    have HLN := Lib.hid hlen
    clear hlen
    go_enter Try.func54, Try.ntmps54
    go_wp2
    go_loopw [5] (fun i wr => ∃ k : Nat, k ≤ xs.length ∧ i = .int .i64 k ∧ (∀ j, j < k → xs.getD j 0 = ys.getD j 0) ∧ ∃ n, wr = w.drewN n) (fun i _ => xs.length - (intOf i).toNat)
    case atStart => exact ⟨0, Nat.zero_le _, rfl, (fun j h => absurd h (Nat.not_lt_zero j)), 0, rfl⟩
    case round =>
      obtain ⟨k, hk, rfl, heq, n, rfl⟩ := hrel
      have HE := Lib.hid heq
      clear heq
      by_cases hlt : k < xs.length
      · obtain ⟨g, off, rfl, hg, hc⟩ := HA.out.resolve_left (fun h => by rw [h] at hlt; exact absurd hlt (Nat.not_lt_zero k))
        obtain ⟨g2, off2, rfl, hg2, hc2⟩ := HB.out.resolve_left (fun h => by rw [h] at hle; have : xs.length ≤ 0 := hle; omega)
        have hlt2 : k < ys.length := by omega
        have hc1 := hc k hlt
        have hd1 := hc2 k hlt2
        clear hc hc2
        have e1 : xs.getD k 0 = xs[k] := by simp [List.getD, hlt]
        have e2 : ys.getD k 0 = ys[k] := by simp [List.getD, hlt2]
        by_cases hb : xs[k] = ys[k]
        · have hb' : (xs[k] != ys[k]) = false := by simp [hb]
          have HN : Hid (∀ j, j < k + 1 → xs.getD j 0 = ys.getD j 0) := by
            have : ∀ j, j < k + 1 → xs.getD j 0 = ys.getD j 0 := fun j hj => by
              by_cases hjk : j = k
              · subst hjk; rw [e1, e2, hb]
              · exact HE.out j (by omega)
            exact Lib.hid this
          clear hb e1 e2
          generalize hW : w.drewN n = W at *
          have HW := Lib.hid hW
          have hc1' : W.cell? ⟨g, off + k, none⟩ = some (.int .i64 xs[k]) := by rw [← hW]; exact hc1
          have hd1' : W.cell? ⟨g2, off2 + k, none⟩ = some (.int .i64 ys[k]) := by rw [← hW]; exact hd1
          clear hW hc1 hd1
          go_wp2
          go_quiet (fail)
          go_wp2
          go_roundw
          case rel => exact ⟨k + 1, by omega, by go_num, HN.out, _, by rw [← HW.out, World.drewN_drewN]⟩
          case measure => simp [intOf]; omega
        · have hb' : (xs[k] != ys[k]) = true := by simp [hb]
          have HN : Hid ((xs == ys) = false) := by
            have : (xs == ys) = false := by
              rw [beq_eq_false_iff_ne]
              intro h
              exact hb (by simp only [h])
            exact Lib.hid this
          clear hb e1 e2
          generalize hW : w.drewN n = W at *
          have HW := Lib.hid hW
          have hc1' : W.cell? ⟨g, off + k, none⟩ = some (.int .i64 xs[k]) := by rw [← hW]; exact hc1
          have hd1' : W.cell? ⟨g2, off2 + k, none⟩ = some (.int .i64 ys[k]) := by rw [← hW]; exact hd1
          clear hW hc1 hd1
          go_wp2
          go_quiet (fail)
          go_wp2
          go_ret
          exact ⟨ret_bool HN.out.symm, _, by rw [← HW.out, World.drewN_drewN]⟩
      · obtain rfl : k = xs.length := by omega
        have HN : Hid ((xs == ys) = true) := by
          have : (xs == ys) = true := by
            rw [beq_iff_eq]
            refine List.ext_getElem HLN.out fun i h1 h2 => ?_
            have := HE.out i h1
            simpa [List.getD, h1, h2] using this
          exact Lib.hid this
        go_wp2
        go_ret
        exact ⟨ret_bool HN.out.symm, _, rfl⟩
  · have hl' : ((xs.length : Int) != (ys.length : Int)) = true := by simp; omega
    have HN : Hid ((xs == ys) = false) := by
      have : (xs == ys) = false := by
        rw [beq_eq_false_iff_ne]
        intro h
        exact hlen (by rw [h])
      exact Lib.hid this
    clear hlen ha hb
    go_enter Try.func54, Try.ntmps54
    go_wp2
    go_ret
    exact ⟨ret_bool HN.out.symm, 0, rfl⟩

end Go.Proofs.Ytlfjecaffmfgcab

namespace Go.Proofs.Ytlfjecaffmfgcab
open Go.RowKit

set_option maxHeartbeats 1600000 in
set_option maxRecDepth 100000 in
theorem sameMachine_same (m : M) (nv ev nv' ev' : Value) (w : World) (h1 : IsInts w nv m.next) (h2 : IsBools w ev m.ends) (h3 : IsInts w nv' m.next) (h4 : IsBools w ev' m.ends) :
    Calls Try.prog 21 #[.agg #[.int .i64 m.st, nv, ev], .agg #[.int .i64 m.st, nv', ev']] w fun e w' => e = .returned (.bool true) ∧ Below w.heap.size w w' := by
  obtain ⟨st, xs, bs⟩ := m
  simp only at h1 h2 h3 h4 ⊢
  have hM1 := MachBox.new (st := st) 37 h1 h2
  have hal : Below (w.alloc (.cells #[.int .i64 st, nv, ev] 37)).heap.size (w.alloc (.cells #[.int .i64 st, nv, ev] 37)) ((w.alloc (.cells #[.int .i64 st, nv, ev] 37)).alloc (.cells #[.int .i64 st, nv', ev'] 37)) := (Below.refl _ _).alloc (Nat.le_refl _) _
  have hal0 : Below w.heap.size w (w.alloc (.cells #[.int .i64 st, nv, ev] 37)) := (Below.refl _ _).alloc (Nat.le_refl _) _
  have hM2 := MachBox.new (st := st) 37 (h3.below hal0) (h4.below hal0)
  have M1 := Lib.hid (hM1.below hal)
  rw [World.size_alloc] at hM2
  have M2 := Lib.hid hM2
  have Q2 := Lib.hid (hal0.trans (hal.mono (by simp)))
  have hS2 : ((w.alloc (.cells #[.int .i64 st, nv, ev] 37)).alloc (.cells #[.int .i64 st, nv', ev'] 37)).heap.size = w.heap.size + 1 + 1 := by simp
  have HS2 := Lib.hid hS2
  have hcall : ∀ W, IsInts W nv xs → IsInts W nv' xs → Calls Try.prog 54 #[nv, nv'] W fun e w' => e = .returned (.bool true) ∧ Below W.heap.size W w' := fun W a1 a2 => by
    refine (sameInts_any nv nv' xs xs W a1 a2).mono ?_
    rintro e w1 ⟨rfl, n, rfl⟩
    exact ⟨by simp, below_drewN (Below.refl _ _) n⟩
  have HCALL := Lib.hid hcall
  obtain ⟨a2, n2, c2, rfl⟩ := h2.slice
  obtain ⟨a4, n4, c4, rfl⟩ := h4.slice
  obtain ⟨b2, d2, e2, f2, f2', f2''⟩ := h2
  obtain ⟨b4, d4, e4, f4, f4', f4''⟩ := h4
  simp only [Value.slice.injEq] at e2 e4
  obtain ⟨rfl, rfl, rfl⟩ := e2
  obtain ⟨rfl, rfl, rfl⟩ := e4
  unfold maxLen at f2' f4'
  clear h1 h3 hM1 hM2 hal hal0 hS2 hcall f2'' f4''
  have hne : (st != st) = false := by simp
  have hne2 : ((bs.length : Int) != (bs.length : Int)) = false := by simp
  have m0 := M1.out.c0
  have m1 := M1.out.c1
  have m2 := M1.out.c2
  have k0 := M2.out.c0
  have k1 := M2.out.c1
  have k2 := M2.out.c2
  go_enter Try.func21, Try.ntmps21
  go_wp2_with fail
  refine (HCALL.out _ M1.out.ints M2.out.ints).mono ?_
  rintro e w3 ⟨rfl, hb3⟩
  have N1 := Lib.hid (M1.out.below hb3)
  have N2 := Lib.hid (M2.out.below hb3)
  have Q3 := Lib.hid (Q2.out.trans (hb3.mono Q2.out.size))
  clear hb3 m0 m1 m2 k0 k1 k2
  have m2 := N1.out.c2
  have k2 := N2.out.c2
  go_wp2_with fail
  clear m2 k2
  go_loopw [5] (fun i wr => ∃ j : Int, 0 ≤ j ∧ j ≤ (bs.length : Int) ∧ i = .int .i64 j ∧ Below w3.heap.size w3 wr) (fun i _ => bs.length - (intOf i).toNat)
  case atStart => exact ⟨0, by omega, by omega, rfl, Below.refl _ _⟩
  case round =>
    obtain ⟨j, hj0, hj1, rfl, hb⟩ := hrel
    have P1 := Lib.hid (N1.out.below hb)
    have P2 := Lib.hid (N2.out.below hb)
    have QR := Lib.hid hb
    clear hb
    have m2 := P1.out.c2
    have k2 := P2.out.c2
    by_cases hlt : j < (bs.length : Int)
    · have hn : j.toNat < bs.length := by omega
      obtain ⟨a', c', he, -, -, hx⟩ := P1.out.bools
      obtain ⟨a'', c'', he', -, -, hx'⟩ := P2.out.bools
      simp only [Value.slice.injEq] at he he'
      obtain ⟨rfl, -, rfl⟩ := he
      obtain ⟨rfl, -, rfl⟩ := he'
      obtain ⟨g, off, rfl, hg, hc⟩ := hx.resolve_left (fun h => by rw [h] at hn; exact absurd hn (Nat.not_lt_zero _))
      obtain ⟨g', off', rfl, hg', hc'⟩ := hx'.resolve_left (fun h => by rw [h] at hn; exact absurd hn (Nat.not_lt_zero _))
      have c1 := hc j.toNat hn
      have d1 := hc' j.toNat hn
      clear hc hc' hx hx'
      generalize bs[j.toNat] = b at *
      have hbb : (b != b) = false := by simp
      have hbx : (b ^^ b) = false := by simp
      go_wp2_with fail
      go_quiet (fail)
      go_wp2_with fail
      go_roundw
      case rel => exact ⟨j + 1, by omega, by omega, by first | rfl | go_num, below_drewN QR.out _⟩
      case measure => simp [intOf]; omega
    · go_wp2_with fail
      go_ret
      exact ⟨rfl, Q3.out.trans (QR.out.mono Q3.out.size)⟩
end Go.Proofs.Ytlfjecaffmfgcab

namespace Go.Proofs.Ytlfjecaffmfgcab
open Go.RowKit Go.Shelf
attribute [local go_sem] Oper.semAt_some

theorem infoInt : (Try.prog.info? 3).map (fun i => (i.zero, i.size, i.bytes)) = some (some (.int .i64 0), 1, 8) := by kernel_rfl
theorem runsOf_yes {s : ByteArray} (h : wordOk s = true) : runsOf s = (runsL s.data.toList).map (fun p => (p.2 : Int)) := by simp [runsOf, h]
theorem runsOf_no {s : ByteArray} (h : wordOk s = false) : runsOf s = [] := by simp [runsOf, h]
/-- the numbers of runs -/
def nums (xs : List (UInt8 × Nat)) : List Int := xs.map (fun p => (p.2 : Int))
theorem nums_snoc (xs : List (UInt8 × Nat)) (p : UInt8 × Nat) : nums (xs ++ [p]) = nums xs ++ [(p.2 : Int)] := by simp [nums]
theorem nums_length (xs : List (UInt8 × Nat)) : (nums xs).length = xs.length := by simp [nums]

/-- a slice of the call's own, that holds a list of numbers -/
def IntsPost (xs : List Int) (w : World) (e : Ending) (w' : World) : Prop :=
  ∃ v, e = .returned v ∧ w'.ownsRow w.heap.size 3 1 v xs.length (xs.map (Value.int .i64)) ∧ Below w.heap.size w w'

end Go.Proofs.Ytlfjecaffmfgcab

namespace Go.Proofs.Ytlfjecaffmfgcab
open Go.RowKit

theorem snocRun_last (xs : List (UInt8 × Nat)) (c : UInt8) : ∃ ys n, snocRun xs c = ys ++ [(c, n)] := by
  rcases snocRun_cases xs c with ⟨ys, n, _, h⟩ | ⟨h, _⟩
  · exact ⟨ys, n + 1, h⟩
  · exact ⟨xs, 1, h⟩
theorem runsTo_last (s : ByteArray) (k : Nat) (h : k < s.size) : ∃ ys n, runsTo s (k + 1) = ys ++ [(s[k], n)] := by
  rw [runsTo_succ s k h]; exact snocRun_last _ _
theorem le_sum_mem : ∀ (l : List Nat) (n : Nat), n ∈ l → n ≤ l.sum
  | a :: l, n, h => by
    rcases List.mem_cons.1 h with rfl | h
    · simp
    · have := le_sum_mem l n h
      simp; omega
theorem runsTo_sum (s : ByteArray) (k : Nat) : ∀ p ∈ runsTo s k, p.2 ≤ k := by
  intro p hp
  have h1 := runsL_sum (s.data.toList.take k)
  have h2 : p.2 ≤ ((runsTo s k).map (·.2)).sum := le_sum_mem _ _ (List.mem_map.2 ⟨p, hp, rfl⟩)
  have h4 : (s.data.toList.take k).length ≤ k := List.length_take_le _ _
  unfold runsTo at *
  omega
theorem nums_runsTo_length (s : ByteArray) (k : Nat) : (nums (runsTo s k)).length ≤ k := by
  rw [nums_length]
  exact Nat.le_trans (runsL_length _) (List.length_take_le _ _)

theorem index_pred (s : ByteArray) (k : Nat) (hk : 0 < k) (h : k - 1 < s.size) (w : World) :
    (Instr.index 9 (.string s) (.int .i64 ((k : Int) - 1))).run Try.prog w = .ok (.int .u8 (s[k - 1].toNat : Int)) w := by
  have e : ((k : Int) - 1) = ((k - 1 : Nat) : Int) := by omega
  rw [e]
  go_simp

theorem ownsRow_drewN {w : World} {base : Nat} {e : TypeId} {size : Nat} {v : Value} {n : Nat} {xs : List Value} (h : w.ownsRow base e size v n xs) (k : Nat) : (w.drewN k).ownsRow base e size v n xs := h

end Go.Proofs.Ytlfjecaffmfgcab

namespace Go.Proofs.Ytlfjecaffmfgcab
open Go.RowKit

theorem pairTo_up {l : List UInt8} {c d : UInt8} {k n : Nat} (hk : k ≤ n) (h : pairTo l c d k = true) : pairTo l c d n = true := by
  obtain ⟨i, hi, h⟩ := List.any_eq_true.1 h
  exact List.any_eq_true.2 ⟨i, List.mem_range.2 (by have := List.mem_range.1 hi; omega), h⟩

/-- how many letters the first k runs have -/
def sumRuns (R : List (UInt8 × Nat)) (k : Nat) : Nat := ((R.take k).map (·.2)).sum
theorem sumRuns_succ (R : List (UInt8 × Nat)) (k : Nat) (h : k < R.length) : sumRuns R (k + 1) = sumRuns R k + R[k].2 := by
  unfold sumRuns
  rw [List.take_succ_eq_append_getElem h, List.map_append, List.sum_append]; simp
theorem sumRuns_lt (l : List UInt8) (k : Nat) (h : k < (runsL l).length) : sumRuns (runsL l) k + (runsL l)[k].2 ≤ l.length := by
  rw [← sumRuns_succ _ _ h, ← runsL_sum l]
  unfold sumRuns
  conv => rhs; rw [← List.take_append_drop (k + 1) (runsL l)]
  rw [List.map_append, List.sum_append]
  omega
theorem runs_letter (l : List UInt8) : ∀ k (h : k < (runsL l).length), l.getD (sumRuns (runsL l) k) 0 = (runsL l)[k].1 := by
  refine snoc_ind (P := fun l => ∀ k (h : k < (runsL l).length), l.getD (sumRuns (runsL l) k) 0 = (runsL l)[k].1) ?_ ?_ l
  · intro k h; simp [runsL_nil] at h
  · intro l c ih k h
    have hs := runsL_snoc l c
    rcases snocRun_cases (runsL l) c with ⟨ys, n, h1, h2⟩ | ⟨h2, _⟩
    · rw [h2] at hs
      have hk : k < (ys ++ [(c, n)]).length := by rw [hs] at h; simpa using h
      have hk' : k < (runsL l).length := by rw [h1]; exact hk
      have hky : k ≤ ys.length := by simp at hk; omega
      have a := ih k hk'
      have b := sumRuns_lt l k hk'
      have p := runsL_pos l _ (List.getElem_mem hk')
      have e1 : sumRuns (runsL (l ++ [c])) k = sumRuns (runsL l) k := by
        unfold sumRuns
        rw [hs, h1, List.take_append_of_le_length hky, List.take_append_of_le_length hky]
      have e2 : (runsL (l ++ [c]))[k].1 = (runsL l)[k].1 := by
        simp only [hs, h1]
        rcases Nat.lt_or_eq_of_le hky with hlt | rfl
        · rw [List.getElem_append_left hlt, List.getElem_append_left hlt]
        · simp
      rw [e1, e2, ← a, List.getD_eq_getElem?_getD, List.getD_eq_getElem?_getD, List.getElem?_append_left (by omega)]
    · rw [h2] at hs
      have e1 : ∀ j, j ≤ (runsL l).length → sumRuns (runsL (l ++ [c])) j = sumRuns (runsL l) j := fun j hj => by
        unfold sumRuns
        rw [hs, List.take_append_of_le_length hj]
      have hk : k < (runsL l ++ [(c, 1)]).length := by rw [hs] at h; exact h
      rw [e1 k (by simp at hk; omega)]
      rcases Nat.lt_or_ge k (runsL l).length with hlt | hge
      · have a := ih k hlt
        have b := sumRuns_lt l k hlt
        have p := runsL_pos l _ (List.getElem_mem hlt)
        have e2 : (runsL (l ++ [c]))[k].1 = (runsL l)[k].1 := by simp only [hs]; rw [List.getElem_append_left hlt]
        rw [e2, ← a, List.getD_eq_getElem?_getD, List.getD_eq_getElem?_getD, List.getElem?_append_left (by omega)]
      · have e : k = (runsL l).length := by simp at hk; omega
        subst e
        have e2 : (runsL (l ++ [c]))[(runsL l).length].1 = c := by simp only [hs]; simp
        have e3 : sumRuns (runsL l) (runsL l).length = l.length := by unfold sumRuns; rw [List.take_length, runsL_sum]
        rw [e2, e3]
        simp [List.getD]
end Go.Proofs.Ytlfjecaffmfgcab

namespace Go.Proofs.Ytlfjecaffmfgcab
open Go.RowKit

end Go.Proofs.Ytlfjecaffmfgcab

namespace Go.Proofs.Ytlfjecaffmfgcab
open Go.RowKit

theorem Ru.keeps_of {r : Ru} {s : ByteArray} (h : r.ok = true) (hw : wordOk s = true) : r.keeps s = r.holds s := by simp [Ru.keeps, h, hw]

set_option maxHeartbeats 1600000 in
theorem implKeeps_any (kind : Int) (letter thn : ByteArray) (many : Int) (s : ByteArray) (m : Int) (w : World) (h1 : letter.size ≤ maxLen) (h2 : thn.size ≤ maxLen) (hs : s.size ≤ maxLen) (hm : w.cell? ⟨0, 0, none⟩ = some (.int .i64 m)) :
    Calls Try.prog 27 #[.agg #[.int .i64 kind, .string letter, .string thn, .int .i64 many], .string s] w
      fun e w' => e = .returned (.bool ((Ru.mk kind letter thn many).keeps s)) ∧ Below w.heap.size w w' := by
  by_cases hok : (Ru.mk kind letter thn many).ok = true
  · by_cases hw : wordOk s = true
    · rw [Ru.keeps_of hok hw]
      obtain ⟨hl, hr⟩ := Ru.ok_iff.1 hok
      simp only at hl hr
      rcases hr with ⟨rfl, rfl, h0, h4⟩ | ⟨rfl, rfl, h0, h4⟩ | ⟨rfl, ht, rfl⟩ | ⟨rfl, rfl, h0, h4⟩ | ⟨rfl, rfl, h0, h4⟩
      · exact implKeeps_0 letter many s w hl h0 h4 hw
      · exact implKeeps_1 letter many s w hl h0 h4 hw
      · exact implKeeps_2 letter thn m s w hl ht hm hw
      · exact implKeeps_3 letter many s w hl h0 h4 hw
      · exact implKeeps_4 letter many s w hl h0 h4 hw
    · have hw' : wordOk s = false := by simpa using hw
      have HF : Hid ((Ru.mk kind letter thn many).keeps s = false) := by
        have : (Ru.mk kind letter thn many).keeps s = false := by simp [Ru.keeps, hw']
        exact Lib.hid this
      clear hw
      go_enter Try.func27, Try.ntmps27
      go_wp2_with fail
      refine (implRuleOk_any kind letter thn many _ h1 h2).mono ?_
      rintro e w1 ⟨rfl, hb1⟩
      rw [hok]
      simp only [World.size_alloc] at hb1
      have q1 := (ru_cells kind letter thn many hb1).2.2.2.2.1
      go_wp2_with (go_at_call 48; refine (implWordOk_any _ _ hs).mono ?_; rintro e w' ⟨rfl, rfl⟩)
      go_ret
      exact ⟨ret_bool HF.out.symm, q1⟩
  · have hok' : (Ru.mk kind letter thn many).ok = false := by simpa using hok
    have HF : Hid ((Ru.mk kind letter thn many).keeps s = false) := by
      have : (Ru.mk kind letter thn many).keeps s = false := by simp [Ru.keeps, hok']
      exact Lib.hid this
    clear hok
    go_enter Try.func27, Try.ntmps27
    go_wp2_with fail
    refine (implRuleOk_any kind letter thn many _ h1 h2).mono ?_
    rintro e w1 ⟨rfl, hb1⟩
    rw [hok']
    simp only [World.size_alloc] at hb1
    have q1 := (ru_cells kind letter thn many hb1).2.2.2.2.1
    go_wp2_with fail
    go_ret
    exact ⟨ret_bool HF.out.symm, q1⟩

end Go.Proofs.Ytlfjecaffmfgcab

namespace Go.Proofs.Ytlfjecaffmfgcab
open Go.RowKit

theorem idx_letter {c : UInt8} (h : isL c = true) : Lib.indexByte [114, 100, 110] c = letterOf (c.toNat : Int) := by
  simp only [isL, Bool.or_eq_true, beq_iff_eq] at h
  rcases h with (rfl | rfl) | rfl <;> decide

theorem idxLetter_any (c : UInt8) (h : isL c = true) (W : World) :
    Calls Try.prog 85 #[.string ⟨#[114, 100, 110]⟩, .int .u8 (c.toNat : Int)] W fun e w' => e = .returned (.int .i64 (letterOf (c.toNat : Int))) ∧ w' = W := by
  refine (strings_IndexByte ⟨#[114, 100, 110]⟩ (c.toNat : Int) W).mono fun e w' hh => ⟨hh.1.trans (ret_int ?_), hh.2⟩
  have hix : (c.toNat : Int).toNat.toUInt8 = c := by simp
  rw [hix]; exact idx_letter h

theorem implNextOf_any (m : M) (s l : Int) (nv ev : Value) (w : World) (h1 : IsInts w nv m.next) (hk : m.ok = true) (s0 : -1 ≤ s) (s1 : s < m.st) (l0 : 0 ≤ l) (l1 : l ≤ 2) :
    Calls Try.prog 77 #[.agg #[.int .i64 m.st, nv, ev], .int .i64 s, .int .i64 l] w fun e w' => e = .returned (.int .i64 (m.nx s l)) ∧ Below w.heap.size w w' := by
  have hsh := M.ok_shape hk
  by_cases hs : s = -1
  · subst hs
    have HN := Lib.hid (M.nx_neg m (-1) l (by omega))
    clear hsh hk
    go_enter Try.func77, Try.ntmps77
    go_wp2
    go_ret
    exact ⟨ret_int HN.out.symm, (Below.refl _ _).alloc (Nat.le_refl _) _⟩
  · obtain ⟨k, hk1, hk2, he⟩ := M.nx_at hk s l (by omega) s1 l0 l1
    obtain ⟨a, cap, rfl, ha1, ha2, ha⟩ := h1
    obtain ⟨g, off, rfl, hg, hc⟩ := ha.resolve_left (fun h => by rw [h] at hk2; exact absurd hk2 (Nat.not_lt_zero k))
    have hcell := hc k hk2
    have HE := Lib.hid he
    rw [he]
    have hkl : k < m.next.length := hk2
    generalize m.next[k] = c at hcell HE
    clear he hk hc ha hk2
    generalize m.next.length = n at *
    generalize m.st = st at *
    unfold maxLen at ha2
    have hq1 : IntKind.i64.wrap (s * 3) = s * 3 := IntWalk.i64_in _ (by omega)
    have hq2 : IntKind.i64.wrap (s * 3 + l) = s * 3 + l := IntWalk.i64_in _ (by omega)
    have hq3 : s * 3 + l = k := by omega
    have hs0 : 0 ≤ s := by omega
    clear hk1
    have hb1 : (s == -1) = false := by simpa using hs
    go_enter Try.func77, Try.ntmps77
    go_wp2
    go_ret
    exact ⟨rfl, (Below.refl _ _).alloc (Nat.le_refl _) _⟩

theorem goes_step_le {m : M} (hk : m.ok = true) {s : Int} {word : ByteArray} (hw : wordOk word = true) (s0 : -1 ≤ s) (s1 : s < m.st) (k : Nat) : -1 ≤ m.goes s (word.data.toList.take k) ∧ m.goes s (word.data.toList.take k) < m.st :=
  M.goes_bd hk s _ s0 s1 (allL_take (wordOk_all hw) k)

set_option maxHeartbeats 1600000 in
theorem specL2From_any (m : M) (s : Int) (word : ByteArray) (nv ev : Value) (w : World) (h1 : IsInts w nv m.next) (hk : m.ok = true) (hw : wordOk word = true) (s0 : -1 ≤ s) (s1 : s < m.st) :
    Calls Try.prog 99 #[.agg #[.int .i64 m.st, nv, ev], .int .i64 s, .string word] w fun e w' => e = .returned (.int .i64 (m.goes s word.data.toList)) ∧ Below w.heap.size w w' := by
  have hsz := wordOk_size hw
  obtain ⟨a, cap, rfl, ha1, ha2, ha⟩ := h1
  unfold maxLen at ha2
  have HA := Lib.hid ha
  have HK := Lib.hid hk
  have HW := Lib.hid hw
  have hsh := M.ok_shape hk
  have hl : m.next.length ≤ 144 := by omega
  have hst : m.st ≤ 48 := hsh.2.1
  clear hsh
  clear ha hk hw
  go_enter Try.func99, Try.ntmps99
  go_wp2
  go_loopw [1, 7] (fun j i wr => ∃ k : Nat, k ≤ word.size ∧ i = .int .i64 k ∧ j = .int .i64 (m.goes s (word.data.toList.take k)) ∧ ∃ n, wr = (w.alloc (.cells #[.int .i64 m.st, .slice a m.next.length cap, ev] 37)).drewN n) (fun _ i _ => word.size - (intOf i).toNat)
  case atStart => exact ⟨0, Nat.zero_le _, rfl, rfl, 0, rfl⟩
  case round =>
    obtain ⟨k, hkk, rfl, rfl, n, rfl⟩ := hrel
    have hbel : Below w.heap.size w ((w.alloc (.cells #[.int .i64 m.st, .slice a m.next.length cap, ev] 37)).drewN n) := below_drewN ((Below.refl _ _).alloc (Nat.le_refl _) _) n
    have hx1 : ((w.alloc (.cells #[.int .i64 m.st, .slice a m.next.length cap, ev] 37)).drewN n).cell? ⟨w.heap.size, 1, none⟩ = some (.slice a m.next.length cap) := World.cell?_alloc_new w _ _ 1
    have hbd := goes_step_le HK.out HW.out s0 s1 k
    by_cases hlt : k < word.size
    · have HSTEP := Lib.hid (M.goes_snoc m s word k hlt)
      have hL := wordOk_at HW.out k hlt
      have hlb := letter_bd hL
      by_cases hneg : m.goes s (word.data.toList.take k) < 0
      · have HEND := Lib.hid (M.goes_cut m s word k (by omega))
        generalize m.goes s (word.data.toList.take k) = p at *
        go_wp2
        go_ret
        exact ⟨ret_int (by rw [HEND.out]; omega), hbel⟩
      · obtain ⟨i, hi1, hi2, hi3⟩ := M.nx_at HK.out (m.goes s (word.data.toList.take k)) (letterOf (word[k].toNat : Int)) (by omega) hbd.2 hlb.1 hlb.2
        obtain ⟨g, off, rfl, hg, hc⟩ := HA.out.resolve_left (fun h => by rw [h] at hi2; exact absurd hi2 (Nat.not_lt_zero i))
        have hcell := (hbel.cell (p := ⟨g, off + i, none⟩) hg).trans (hc i hi2)
        have HE := Lib.hid (HSTEP.out.trans hi3)
        clear HSTEP hi3 hc hneg HA
        have HV : Hid (∀ q, ∃ n', (((w.alloc (.cells #[.int .i64 m.st, .slice (some ⟨g, off, none⟩) m.next.length cap, ev] 37)).drewN n).drewN q) = (w.alloc (.cells #[.int .i64 m.st, .slice (some ⟨g, off, none⟩) m.next.length cap, ev] 37)).drewN n') := by
          have := fun q => (⟨n + q, by rw [World.drewN_drewN]⟩ : ∃ n', (((w.alloc (.cells #[.int .i64 m.st, .slice (some ⟨g, off, none⟩) m.next.length cap, ev] 37)).drewN n).drewN q) = (w.alloc (.cells #[.int .i64 m.st, .slice (some ⟨g, off, none⟩) m.next.length cap, ev] 37)).drewN n')
          exact Lib.hid this
        generalize ((w.alloc (.cells #[.int .i64 m.st, .slice (some ⟨g, off, none⟩) m.next.length cap, ev] 37)).drewN n) = W at hbel hx1 hcell HV ⊢
        generalize m.next[i] = d at hcell HE
        generalize m.goes s (word.data.toList.take k) = p at *
        have HLT := Lib.hid (l1Letter_any (word[k].toNat : Int))
        generalize letterOf (word[k].toNat : Int) = l at *
        have hq1 : IntKind.i64.wrap (3 * p) = 3 * p := IntWalk.i64_in _ (by omega)
        have hq2 : IntKind.i64.wrap (3 * p + l) = 3 * p + l := IntWalk.i64_in _ (by omega)
        have hq3 : 3 * p + l = i := by omega
        have hp0 : 0 ≤ p := by omega
        clear hi1 hlb hbd
        go_wp2
        go_quiet ((go_at_call 58; exact Calls.quiet_of_same ((HLT.out _).mono fun _ _ ⟨h, g⟩ => ⟨h, g.symm⟩)))
        clear hq1 hq2 hq3
        go_wp2
        go_roundw
        case rel => exact ⟨k + 1, by omega, by go_num, by rw [HE.out], HV.out _⟩
        case measure => simp [intOf]; omega
    · obtain rfl : k = word.size := by omega
      have HG := Lib.hid (M.goes_all m s word)
      generalize m.goes s (word.data.toList.take word.size) = p at *
      go_wp2
      go_ret
      exact ⟨ret_int HG.out, hbel⟩
theorem M.after_not {m : M} (word : ByteArray) (h : m.ok = false) : m.after word = -2 := by rw [M.after, h]; rfl
theorem M.after_now {m : M} (word : ByteArray) (h : wordOk word = false) : m.after word = -2 := by rw [M.after, h, Bool.and_false]; rfl
theorem M.after_yes {m : M} {word : ByteArray} (h : m.ok = true) (g : wordOk word = true) : m.after word = m.goes 0 word.data.toList := by rw [M.after, h, g]; rfl

theorem specStateAfter_any (m : M) (word : ByteArray) (nv ev : Value) (w : World) (h1 : IsInts w nv m.next) (h2 : IsBools w ev m.ends) (hst : (Lit.int .i64 m.st).wf = true) (hs : word.size ≤ maxLen) :
    Calls Try.prog 66 #[.agg #[.int .i64 m.st, nv, ev], .string word] w fun e w' => e = .returned (.int .i64 (m.after word)) ∧ Below w.heap.size w w' := by
  have hM : MachBox w.heap.size m.st nv m.next ev m.ends (w.alloc (.cells #[.int .i64 m.st, nv, ev] 37)) := MachBox.new _ h1 h2
  have M0 := Lib.hid hM
  have q0 : Hid (Below w.heap.size w (w.alloc (.cells #[.int .i64 m.st, nv, ev] 37))) := Lib.hid ((Below.refl _ _).alloc (Nat.le_refl _) _)
  clear hM h1 h2
  go_enter Try.func66, Try.ntmps66
  go_wp2_with fail
  refine (specMachineOk_any m nv ev _ M0.out.ints M0.out.bools hst).mono ?_
  rintro e w1 ⟨rfl, hb1⟩
  have M1 := Lib.hid (M0.out.below hb1)
  have q1 := Lib.hid (q0.out.trans (hb1.mono q0.out.size))
  clear hb1
  have y10 := M1.out.c0
  have y11 := M1.out.c1
  have y12 := M1.out.c2
  by_cases hk : m.ok = true
  · have HK := Lib.hid hk
    rw [hk]
    clear hk
    go_wp2_with fail
    refine (specWordOk_any word _ hs).mono ?_
    rintro e w2 ⟨rfl, rfl⟩
    by_cases hw : wordOk word = true
    · have HW := Lib.hid hw
      have HR := Lib.hid (M.after_yes HK.out hw)
      rw [hw]
      clear hw
      go_wp2_with fail
      refine (specL2From_any m 0 word nv ev _ M1.out.ints HK.out HW.out (by omega) (by have := M.ok_shape HK.out; omega)).mono ?_
      rintro e w2 ⟨rfl, hb2⟩
      have q2 := Lib.hid (q1.out.trans (hb2.mono q1.out.size))
      clear hb2
      go_wp2_with fail
      go_ret
      exact ⟨ret_int HR.out.symm, q2.out⟩
    · have hwf : wordOk word = false := by simpa using hw
      have HR := Lib.hid (M.after_now (m := m) word hwf)
      rw [hwf]
      clear hw hwf
      go_wp2_with fail
      go_ret
      exact ⟨ret_int HR.out.symm, q1.out⟩
  · have hkf : m.ok = false := by simpa using hk
    have HR := Lib.hid (M.after_not word hkf)
    rw [hkf]
    clear hk hkf
    go_wp2_with fail
    go_ret
    exact ⟨ret_int HR.out.symm, q1.out⟩

set_option maxHeartbeats 1600000 in
theorem implStateAfter_any (m : M) (word : ByteArray) (nv ev : Value) (w : World) (h1 : IsInts w nv m.next) (h2 : IsBools w ev m.ends) (hst : (Lit.int .i64 m.st).wf = true) (hs : word.size ≤ maxLen) :
    Calls Try.prog 59 #[.agg #[.int .i64 m.st, nv, ev], .string word] w fun e w' => e = .returned (.int .i64 (m.after word)) ∧ Below w.heap.size w w' := by
  have hM : MachBox w.heap.size m.st nv m.next ev m.ends (w.alloc (.cells #[.int .i64 m.st, nv, ev] 37)) := MachBox.new _ h1 h2
  have M0 := Lib.hid hM
  have q0 : Hid (Below w.heap.size w (w.alloc (.cells #[.int .i64 m.st, nv, ev] 37))) := Lib.hid ((Below.refl _ _).alloc (Nat.le_refl _) _)
  clear hM h1 h2
  go_enter Try.func59, Try.ntmps59
  go_wp2_with fail
  refine (implMachineOk_any m nv ev _ M0.out.ints M0.out.bools hst).mono ?_
  rintro e w1 ⟨rfl, hb1⟩
  have M1 := Lib.hid (M0.out.below hb1)
  have q1 := Lib.hid (q0.out.trans (hb1.mono q0.out.size))
  clear hb1
  have y10 := M1.out.c0
  have y11 := M1.out.c1
  have y12 := M1.out.c2
  by_cases hk : m.ok = true
  · have HK := Lib.hid hk
    rw [hk]
    clear hk
    go_wp2_with fail
    refine (implWordOk_any word _ hs).mono ?_
    rintro e w2 ⟨rfl, rfl⟩
    by_cases hw : wordOk word = true
    · have HW := Lib.hid hw
      have HR := Lib.hid (M.after_yes HK.out hw)
      rw [hw]
      have hsz := wordOk_size hw
      clear hw hs
      go_wp2_with fail
      clear y10 y11 y12
      go_loopw [5, 17] (fun j i wr => ∃ k : Nat, k ≤ word.size ∧ i = .int .i64 k ∧ j = .int .i64 (m.goes 0 (word.data.toList.take k)) ∧ MachBox w.heap.size m.st nv m.next ev m.ends wr ∧ Below w.heap.size w wr) (fun _ i _ => word.size - (intOf i).toNat)
      case atStart => exact ⟨0, Nat.zero_le _, rfl, rfl, M1.out, q1.out⟩
      case round =>
        obtain ⟨k, hkk, rfl, rfl, hMk, hqk⟩ := hrel
        have MK := Lib.hid hMk
        have QK := Lib.hid hqk
        have y10 := hMk.c0
        have y11 := hMk.c1
        have y12 := hMk.c2
        clear hMk hqk
        by_cases hlt : k < word.size
        · have HSTEP := Lib.hid (M.goes_snoc m 0 word k hlt)
          have hbd := Lib.hid (goes_step_le (s := 0) HK.out HW.out (by omega) (by have := M.ok_shape HK.out; omega) k)
          have hL := wordOk_at HW.out k hlt
          have hlb := Lib.hid (letter_bd hL)
          have HC := Lib.hid (idxLetter_any word[k] hL)
          clear hL
          generalize letterOf (word[k].toNat : Int) = l at *
          generalize m.goes 0 (word.data.toList.take k) = p at *
          go_wp2_with fail
          have MKd := Lib.hid (MK.out.below (Below.refl _ wr).drew)
          have z10 := MKd.out.c0
          have z11 := MKd.out.c1
          have z12 := MKd.out.c2
          go_region_with (first | (go_at_call 85; refine (HC.out _).mono ?_; rintro e w7 ⟨rfl, rfl⟩) | (go_at_call 77; refine (implNextOf_any m p l nv ev _ MKd.out.ints HK.out hbd.out.1 hbd.out.2 hlb.out.1 hlb.out.2).mono ?_; rintro e w8 ⟨rfl, hb8⟩))
          all_goals
            clear z10 z11 z12 y10 y11 y12
            go_wp2
            go_roundw
            case rel => exact ⟨k + 1, by omega, by go_num, by rw [HSTEP.out], MKd.out.below hb8, QK.out.drew.trans (hb8.mono QK.out.size)⟩
            case measure => simp [intOf]; omega
        · obtain rfl : k = word.size := by omega
          have HG := Lib.hid (M.goes_all m 0 word)
          generalize m.goes 0 (word.data.toList.take word.size) = p at *
          go_wp2
          go_ret
          exact ⟨ret_int (HG.out.trans HR.out.symm), QK.out⟩
    · have hwf : wordOk word = false := by simpa using hw
      have HR := Lib.hid (M.after_now (m := m) word hwf)
      rw [hwf]
      clear hw hwf
      go_wp2_with fail
      go_ret
      exact ⟨ret_int HR.out.symm, q1.out⟩
  · have hkf : m.ok = false := by simpa using hk
    have HR := Lib.hid (M.after_not word hkf)
    rw [hkf]
    clear hk hkf
    go_wp2_with fail
    go_ret
    exact ⟨ret_int HR.out.symm, q1.out⟩
end Go.Proofs.Ytlfjecaffmfgcab

namespace Go.Proofs.Ytlfjecaffmfgcab
open Go.RowKit

theorem M.endAt_at {m : M} (h : m.ok = true) (s : Int) (h0 : 0 ≤ s) (h1 : s < m.st) : ∃ k : Nat, (k : Int) = s ∧ ∃ hk : k < m.ends.length, m.endAt s = m.ends[k] := by
  have hs := M.ok_shape h
  have hk : s.toNat < m.ends.length := by omega
  refine ⟨s.toNat, by omega, hk, ?_⟩
  rw [M.endAt, if_neg (by omega), List.getD_eq_getElem?_getD, List.getElem?_eq_getElem hk]; rfl
theorem M.endAt_neg (m : M) (s : Int) (h : s < 0) : m.endAt s = false := by rw [M.endAt, if_pos h]
theorem M.after_bd (m : M) (word : ByteArray) (h : 0 ≤ m.after word) : m.ok = true ∧ wordOk word = true ∧ m.after word < m.st := by
  cases hk : m.ok with
  | false => rw [M.after_not word hk] at h; omega
  | true =>
    cases hw : wordOk word with
    | false => rw [M.after_now word hw] at h; omega
    | true =>
      refine ⟨rfl, rfl, ?_⟩
      rw [M.after_yes hk hw]
      exact (M.goes_bd hk 0 _ (by omega) (by have := M.ok_shape hk; omega) (wordOk_all hw)).2

set_option maxHeartbeats 800000 in
theorem specTakesOk_any (m : M) (word : ByteArray) (nv ev : Value) (w : World) (h1 : IsInts w nv m.next) (h2 : IsBools w ev m.ends) (hst : (Lit.int .i64 m.st).wf = true) (hs : word.size ≤ maxLen) :
    Calls Try.prog 30 #[.agg #[.int .i64 m.st, nv, ev], .string word] w fun e w' => e = .returned (.bool (m.takes word)) ∧ Below w.heap.size w w' := by
  have hM : MachBox w.heap.size m.st nv m.next ev m.ends (w.alloc (.cells #[.int .i64 m.st, nv, ev] 37)) := MachBox.new _ h1 h2
  have M0 := Lib.hid hM
  have q0 : Hid (Below w.heap.size w (w.alloc (.cells #[.int .i64 m.st, nv, ev] 37))) := Lib.hid ((Below.refl _ _).alloc (Nat.le_refl _) _)
  clear hM h1 h2
  go_enter Try.func30, Try.ntmps30
  go_wp2_with fail
  refine (specStateAfter_any m word nv ev _ M0.out.ints M0.out.bools hst hs).mono ?_
  rintro e w1 ⟨rfl, hb1⟩
  have M1 := Lib.hid (M0.out.below hb1)
  have q1 := Lib.hid (q0.out.trans (hb1.mono q0.out.size))
  clear hb1
  have HT : Hid (m.takes word = m.endAt (m.after word)) := Lib.hid rfl
  have HB := Lib.hid (M.after_bd m word)
  generalize m.after word = p at *
  have y12 := M1.out.c2
  by_cases hp : 0 ≤ p
  · obtain ⟨hk, -, hlt⟩ := HB.out hp
    obtain ⟨i, hi1, hi2, hi3⟩ := M.endAt_at hk p hp hlt
    obtain ⟨b, cap, rfl, hb1, hb2, hb⟩ := M1.out.bools
    obtain ⟨g, off, rfl, hg, hc⟩ := hb.resolve_left (fun h => by rw [h] at hi2; exact absurd hi2 (Nat.not_lt_zero i))
    have hcell := hc i hi2
    unfold maxLen at hb2
    have HE := Lib.hid (HT.out.trans hi3)
    have hil : i < m.ends.length := hi2
    generalize m.ends[i] = d at hcell HE
    have hsh := M.ok_shape hk
    have hn : m.ends.length ≤ 48 := by omega
    clear hsh hi3 hb hc hk HB HT hi2
    subst hi1
    go_wp2_with fail
    go_ret
    exact ⟨ret_bool HE.out.symm, q1.out⟩
  · have HE := Lib.hid (HT.out.trans (M.endAt_neg m p (by omega)))
    clear HB HT
    go_wp2_with fail
    go_ret
    exact ⟨ret_bool HE.out.symm, q1.out⟩

set_option maxHeartbeats 800000 in
theorem implTakesOk_any (m : M) (word : ByteArray) (nv ev : Value) (w : World) (h1 : IsInts w nv m.next) (h2 : IsBools w ev m.ends) (hst : (Lit.int .i64 m.st).wf = true) (hs : word.size ≤ maxLen) :
    Calls Try.prog 26 #[.agg #[.int .i64 m.st, nv, ev], .string word] w fun e w' => e = .returned (.bool (m.takes word)) ∧ Below w.heap.size w w' := by
  have hM : MachBox w.heap.size m.st nv m.next ev m.ends (w.alloc (.cells #[.int .i64 m.st, nv, ev] 37)) := MachBox.new _ h1 h2
  have M0 := Lib.hid hM
  have q0 : Hid (Below w.heap.size w (w.alloc (.cells #[.int .i64 m.st, nv, ev] 37))) := Lib.hid ((Below.refl _ _).alloc (Nat.le_refl _) _)
  clear hM h1 h2
  go_enter Try.func26, Try.ntmps26
  go_wp2_with fail
  refine (implStateAfter_any m word nv ev _ M0.out.ints M0.out.bools hst hs).mono ?_
  rintro e w1 ⟨rfl, hb1⟩
  have M1 := Lib.hid (M0.out.below hb1)
  have q1 := Lib.hid (q0.out.trans (hb1.mono q0.out.size))
  clear hb1
  have HT : Hid (m.takes word = m.endAt (m.after word)) := Lib.hid rfl
  have HB := Lib.hid (M.after_bd m word)
  generalize m.after word = p at *
  have y12 := M1.out.c2
  by_cases hp : 0 ≤ p
  · obtain ⟨hk, -, hlt⟩ := HB.out hp
    obtain ⟨i, hi1, hi2, hi3⟩ := M.endAt_at hk p hp hlt
    obtain ⟨b, cap, rfl, hb1, hb2, hb⟩ := M1.out.bools
    obtain ⟨g, off, rfl, hg, hc⟩ := hb.resolve_left (fun h => by rw [h] at hi2; exact absurd hi2 (Nat.not_lt_zero i))
    have hcell := hc i hi2
    unfold maxLen at hb2
    have HE := Lib.hid (HT.out.trans hi3)
    have hil : i < m.ends.length := hi2
    generalize m.ends[i] = d at hcell HE
    have hsh := M.ok_shape hk
    have hn : m.ends.length ≤ 48 := by omega
    clear hsh hi3 hb hc hk HB HT hi2
    subst hi1
    go_wp2_with fail
    go_ret
    exact ⟨ret_bool HE.out.symm, q1.out⟩
  · have HE := Lib.hid (HT.out.trans (M.endAt_neg m p (by omega)))
    clear HB HT
    go_wp2_with fail
    go_ret
    exact ⟨ret_bool HE.out.symm, q1.out⟩
end Go.Proofs.Ytlfjecaffmfgcab

namespace Go.Proofs.Ytlfjecaffmfgcab

theorem longestIn_append (xs ys : List (UInt8 × Nat)) (c : UInt8) : longestIn (xs ++ ys) c = max (longestIn xs c) (longestIn ys c) := by
  refine snoc_ind (P := fun ys => longestIn (xs ++ ys) c = max (longestIn xs c) (longestIn ys c)) ?_ ?_ ys
  · simp [longestIn]
  · intro ys p ih
    rw [← List.append_assoc, longestIn_snoc, longestIn_snoc, ih]
    split <;> omega
theorem longestIn_reverse (xs : List (UInt8 × Nat)) (c : UInt8) : longestIn xs.reverse c = longestIn xs c := by
  induction xs with
  | nil => rfl
  | cons p xs ih =>
    rw [List.reverse_cons, longestIn_append, ih, show p :: xs = [p] ++ xs from rfl, longestIn_append]
    omega
theorem longest_count (l : List UInt8) (c : UInt8) : nowIn (runsL l) c ≤ l.countP (· == c) ∧ longestIn (runsL l) c ≤ l.countP (· == c) ∧ (longestIn (runsL l) c = 0 ↔ l.countP (· == c) = 0) := by
  refine snoc_ind (P := fun l => nowIn (runsL l) c ≤ l.countP (· == c) ∧ longestIn (runsL l) c ≤ l.countP (· == c) ∧ (longestIn (runsL l) c = 0 ↔ l.countP (· == c) = 0)) ?_ ?_ l
  · simp [nowIn, runsL, longestIn]
  · intro l d ih
    rw [runsL_snoc, List.countP_append]
    by_cases h : d = c
    · subst h
      obtain ⟨h1, h2⟩ := snoc_hit (runsL l) d
      rw [h1, h2]
      simp only [List.countP_cons, List.countP_nil, beq_self_eq_true, if_true]
      omega
    · obtain ⟨h1, h2⟩ := snoc_miss (runsL l) c d h
      rw [h1, h2]
      have : (d == c) = false := by simpa using h
      have e : List.countP (· == c) [d] = 0 := by simp [this]
      rw [e, Nat.add_zero]
      exact ⟨Nat.zero_le _, ih.2.1, ih.2.2⟩
theorem longest_two (l m : List UInt8) (c : UInt8) : nowIn (runsL (l ++ m)) c ≤ nowIn (runsL l) c + nowIn (runsL m) c ∧ longestIn (runsL (l ++ m)) c ≤ longestIn (runsL l) c + longestIn (runsL m) c ∧ longestIn (runsL l) c ≤ longestIn (runsL (l ++ m)) c := by
  refine snoc_ind (P := fun m => nowIn (runsL (l ++ m)) c ≤ nowIn (runsL l) c + nowIn (runsL m) c ∧ longestIn (runsL (l ++ m)) c ≤ longestIn (runsL l) c + longestIn (runsL m) c ∧ longestIn (runsL l) c ≤ longestIn (runsL (l ++ m)) c) ?_ ?_ m
  · simp
  · intro m d ih
    have hl := now_le (runsL l) c
    rw [← List.append_assoc, runsL_snoc, runsL_snoc]
    by_cases h : d = c
    · subst h
      obtain ⟨h1, h2⟩ := snoc_hit (runsL (l ++ m)) d
      obtain ⟨h3, h4⟩ := snoc_hit (runsL m) d
      rw [h1, h2, h3, h4]
      omega
    · obtain ⟨h1, h2⟩ := snoc_miss (runsL (l ++ m)) c d h
      obtain ⟨h3, h4⟩ := snoc_miss (runsL m) c d h
      rw [h1, h2, h3, h4]
      omega
theorem runsL_letters (l : List UInt8) (h : ∀ x ∈ l, isL x = true) : ∀ p ∈ runsL l, isL p.1 = true := by
  revert h
  refine snoc_ind (P := fun l => (∀ x ∈ l, isL x = true) → ∀ p ∈ runsL l, isL p.1 = true) ?_ ?_ l
  · intro _ p h; cases h
  · intro l d ih h
    have ih' := ih (fun x hx => h x (List.mem_append.2 (.inl hx)))
    have hd := h d (List.mem_append.2 (.inr (by simp)))
    rw [runsL_snoc]
    rcases snocRun_cases (runsL l) d with ⟨ys, n, h1, h2⟩ | ⟨h2, _⟩
    · rw [h2]
      rw [h1] at ih'
      intro p hp
      rcases List.mem_append.1 hp with hq | hq
      · exact ih' p (List.mem_append.2 (.inl hq))
      · simp at hq; subst hq; exact hd
    · rw [h2]
      intro p hp
      rcases List.mem_append.1 hp with hq | hq
      · exact ih' p hq
      · simp at hq; subst hq; exact hd
/-- the greatest of numbers, from a first one on -/
def maxTo (xs : List Int) (k : Nat) : Int := (xs.take k).foldl max 0
/-- the sum of the first numbers -/
def sumTo (xs : List Int) (k : Nat) : Int := (xs.take k).sum
theorem maxTo_succ (xs : List Int) (k : Nat) (h : k < xs.length) : maxTo xs (k + 1) = max (maxTo xs k) xs[k] := by
  unfold maxTo; rw [List.take_succ_eq_append_getElem h, List.foldl_append]; rfl
theorem sumTo_succ (xs : List Int) (k : Nat) (h : k < xs.length) : sumTo xs (k + 1) = sumTo xs k + xs[k] := by
  unfold sumTo; rw [List.take_succ_eq_append_getElem h, List.sum_append]; simp
theorem maxL_three (ps : List (UInt8 × Nat)) (h : ∀ p ∈ ps, isL p.1 = true) :
    (ps.map (fun p => (p.2 : Int))).foldl max 0 = max (longestIn ps 114 : Int) (max (longestIn ps 100 : Int) (longestIn ps 110 : Int)) := by
  revert h
  refine snoc_ind (P := fun ps => (∀ p ∈ ps, isL p.1 = true) → (ps.map (fun p => (p.2 : Int))).foldl max 0 = max (longestIn ps 114 : Int) (max (longestIn ps 100 : Int) (longestIn ps 110 : Int))) ?_ ?_ ps
  · intro _; rfl
  · intro ps p ih h
    have ih' := ih (fun x hx => h x (List.mem_append.2 (.inl hx)))
    have hp := h p (List.mem_append.2 (.inr (by simp)))
    rw [List.map_append, List.foldl_append, ih', longestIn_snoc, longestIn_snoc, longestIn_snoc]
    simp only [isL, Bool.or_eq_true, beq_iff_eq] at hp
    obtain ⟨c, n⟩ := p
    simp only [List.map_cons, List.map_nil, List.foldl_cons, List.foldl_nil]
    rcases hp with (rfl | rfl) | rfl <;> simp <;> omega
end Go.Proofs.Ytlfjecaffmfgcab

namespace Go.Proofs.Ytlfjecaffmfgcab

/-- its first letters, and one more -/
theorem take_one (s : ByteArray) (k : Nat) (h : k < s.size) : s.data.toList.take (k + 1) = s.data.toList.take k ++ [byteAt s k] := by
  rw [take_snoc s k h, byteAt_eq s k h]
theorem nx_of {r : Ru} {s : ByteArray} (hw : wordOk s = true) {k : Nat} (hk : k < s.size) (x : Int) : r.nx x (lix s k) = nxR r.kind r.many (byteAt r.letter 0 == byteAt s k) (byteAt r.thn 0 == byteAt s k) x := by
  rw [Ru.nx, (lix_bd hw hk).2.1]
theorem now_hit (xs : List (UInt8 × Nat)) (c : UInt8) : nowIn (snocRun xs c) c = nowIn xs c + 1 := (snoc_hit xs c).1

/-- at most so many in a row -/
theorem to_0 {letter thn : ByteArray} {many : Int} (h0 : 0 ≤ many) (s : ByteArray) (hw : wordOk s = true) : ∀ k, k ≤ s.size →
    (Ru.mk 0 letter thn many).to s k = if (longestIn (runsL (s.data.toList.take k)) (byteAt letter 0) : Int) ≤ many then (nowIn (runsL (s.data.toList.take k)) (byteAt letter 0) : Int) else -1 := by
  intro k
  induction k with
  | zero => intro _; simp [Ru.to, runsL_nil, longestIn, nowIn, h0]
  | succ k ih =>
    intro hk
    have ih := ih (by omega)
    have hlt : k < s.size := by omega
    rw [Ru.to, ih, take_one s k hlt, runsL_snoc, nx_of hw hlt]
    generalize runsL (s.data.toList.take k) = xs
    generalize byteAt s k = c
    simp only
    have hnl := now_le xs (byteAt letter 0)
    by_cases hc : byteAt letter 0 = c
    · obtain ⟨h1, h2⟩ := snoc_hit xs c
      rw [hc] at hnl ⊢
      rw [h1, h2]
      by_cases hl : (longestIn xs c : Int) ≤ many
      · rw [if_pos hl]
        simp only [nxR, beq_self_eq_true, if_true]
        by_cases he : (nowIn xs c : Int) = many
        · rw [if_neg (by omega), if_pos he, if_neg (by omega)]
        · rw [if_neg (by omega), if_neg he, if_pos (by omega)]; omega
      · rw [if_neg hl, if_pos (by decide), if_neg (by omega)]
    · obtain ⟨h1, h2⟩ := snoc_miss xs (byteAt letter 0) c (fun e => hc e.symm)
      rw [h1, h2]
      have hb : (byteAt letter 0 == c) = false := by simpa using hc
      by_cases hl : (longestIn xs (byteAt letter 0) : Int) ≤ many
      · rw [if_pos hl, if_neg (by omega), if_pos hl, hb]
        simp [nxR]
      · rw [if_neg hl, if_pos (by decide), if_neg hl]

/-- all runs but the last one are long enough -/
def doneOk (xs : List (UInt8 × Nat)) (c : UInt8) (n : Int) : Bool := longAll xs.dropLast c n
theorem to_1 {letter thn : ByteArray} {many : Int} (h0 : 2 ≤ many) (s : ByteArray) (hw : wordOk s = true) : ∀ k, k ≤ s.size →
    (Ru.mk 1 letter thn many).to s k = if doneOk (runsL (s.data.toList.take k)) (byteAt letter 0) many = true then min (nowIn (runsL (s.data.toList.take k)) (byteAt letter 0) : Int) many else -1 := by
  intro k
  induction k with
  | zero => intro _; simp [Ru.to, runsL_nil, doneOk, longAll, nowIn]; omega
  | succ k ih =>
    intro hk
    have ih := ih (by omega)
    have hlt : k < s.size := by omega
    rw [Ru.to, ih, take_one s k hlt, runsL_snoc, nx_of hw hlt]
    generalize hxs : runsL (s.data.toList.take k) = xs
    have hpos : ∀ p ∈ xs, 1 ≤ p.2 := by rw [← hxs]; exact runsL_pos _
    generalize byteAt s k = c
    simp only
    by_cases hc : byteAt letter 0 = c
    · rw [hc]
      have h1 := now_hit xs c
      rw [h1]
      have hd : doneOk (snocRun xs c) c many = doneOk xs c many := by
        rcases snocRun_cases xs c with ⟨ys, n, e1, e2⟩ | ⟨e2, e3⟩
        · rw [e1] at e2 ⊢; rw [e2, doneOk, doneOk, List.dropLast_concat, List.dropLast_concat]
        · rw [e2, doneOk, doneOk, List.dropLast_concat]
          rcases snoc_cases xs with rfl | ⟨ys, ⟨d, n⟩, rfl⟩
          · rfl
          · have hne := e3 d n (by simp)
            rw [longAll_snoc, List.dropLast_concat]
            simp [hne]
      rw [hd]
      by_cases hl : doneOk xs c many = true
      · rw [if_pos hl, if_neg (by rw [Int.min_def]; split <;> omega), if_pos hl]
        simp only [nxR, beq_self_eq_true, if_true]
        simp only [Int.min_def]
        push_cast
        split <;> split <;> (try split) <;> omega
      · rw [if_neg hl, if_pos (by decide), if_neg hl]
    · have hc2 : c ≠ byteAt letter 0 := fun e => hc e.symm
      have h1 := (snoc_miss xs (byteAt letter 0) c hc2).1
      rw [h1]
      have hb : (byteAt letter 0 == c) = false := by simpa using hc
      have hd : doneOk (snocRun xs c) (byteAt letter 0) many = longAll xs (byteAt letter 0) many := by
        rcases snocRun_cases xs c with ⟨ys, n, e1, e2⟩ | ⟨e2, e3⟩
        · rw [e1] at e2 ⊢
          rw [e2, doneOk, List.dropLast_concat, longAll_snoc]
          simp [hc2]
        · rw [e2, doneOk, List.dropLast_concat]
      have hx : longAll xs (byteAt letter 0) many = (doneOk xs (byteAt letter 0) many && (decide ((nowIn xs (byteAt letter 0) : Int) = 0) || decide (many ≤ (nowIn xs (byteAt letter 0) : Int)))) := by
        rcases snoc_cases xs with rfl | ⟨ys, ⟨d, n⟩, rfl⟩
        · simp [doneOk, longAll, nowIn]
        · rw [longAll_snoc, doneOk, List.dropLast_concat]
          congr 1
          have hn := hpos (d, n) (by simp)
          simp only at hn
          by_cases hd : d = byteAt letter 0
          · simp only [nowIn, List.getLast?_concat, hd, if_true]
            simp
            omega
          · simp [nowIn, hd]
      rw [hd, hx, hb]
      by_cases hl : doneOk xs (byteAt letter 0) many = true
      · rw [if_pos hl, hl, Bool.true_and]
        rw [if_neg (by rw [Int.min_def]; split <;> omega)]
        simp only [nxR]
        generalize (nowIn xs (byteAt letter 0)) = N
        by_cases e0 : N = 0
        · subst e0
          simp [Int.min_def]
          omega
        · by_cases e1 : many ≤ (N : Int)
          · have : min (N : Int) many = many := by rw [Int.min_def]; split <;> omega
            rw [this]
            simp [e1]
            omega
          · have : min (N : Int) many = N := by rw [Int.min_def]; split <;> omega
            rw [this]
            have h3 : 0 < (N : Int) ∧ (N : Int) < many := by omega
            simp [e0, e1, h3]
      · rw [if_neg hl, if_pos (by decide)]
        have : doneOk xs (byteAt letter 0) many = false := by simpa using hl
        simp [this]
theorem holds_1 {letter : ByteArray} {many : Int} (h0 : 2 ≤ many) (s : ByteArray) : longAll (runsL s.data.toList) (byteAt letter 0) many = (doneOk (runsL s.data.toList) (byteAt letter 0) many && endR 1 many (min (nowIn (runsL s.data.toList) (byteAt letter 0) : Int) many)) := by
  have hpos := runsL_pos s.data.toList
  generalize runsL s.data.toList = xs at *
  have hz : min (0 : Int) many = 0 := by rw [Int.min_def]; split <;> omega
  rcases snoc_cases xs with rfl | ⟨ys, ⟨d, n⟩, rfl⟩
  · simp [doneOk, longAll, nowIn, endR, hz]
  · rw [longAll_snoc, doneOk, List.dropLast_concat]
    congr 1
    have hn := hpos (d, n) (by simp)
    simp only at hn
    by_cases hd : d = byteAt letter 0
    · simp only [nowIn, List.getLast?_concat, hd, if_true, endR]
      by_cases e1 : many ≤ (n : Int)
      · have : min (n : Int) many = many := by rw [Int.min_def]; split <;> omega
        simp [this, e1]
      · have : min (n : Int) many = n := by rw [Int.min_def]; split <;> omega
        simp [this, e1]
        omega
    · simp [nowIn, hd, endR, hz]

/-- never right behind -/
theorem to_2 {letter thn : ByteArray} (s : ByteArray) (hw : wordOk s = true) : ∀ k, k ≤ s.size →
    (Ru.mk 2 letter thn 0).to s k = if pairTo s.data.toList (byteAt letter 0) (byteAt thn 0) (k - 1) = true then -1 else if 0 < k ∧ byteAt s (k - 1) = byteAt letter 0 then 1 else 0 := by
  intro k
  induction k with
  | zero => intro _; simp [Ru.to, pairTo]
  | succ k ih =>
    intro hk
    have ih := ih (by omega)
    have hlt : k < s.size := by omega
    rw [Ru.to, ih, nx_of hw hlt]
    simp only [Nat.add_sub_cancel]
    cases k with
    | zero =>
      simp only [pairTo, List.range_zero, List.any_nil, Nat.zero_sub]
      by_cases hc : byteAt letter 0 = byteAt s 0
      · simp [nxR, hc]
      · have hc2 : ¬ byteAt s 0 = byteAt letter 0 := fun e => hc e.symm
        have hb : (byteAt letter 0 == byteAt s 0) = false := by simpa using hc
        simp [nxR, hb, hc2]
    | succ k =>
      have hp := pairTo_succ s.data.toList (byteAt letter 0) (byteAt thn 0) k
      have g1 : s.data.toList.getD k 0 = byteAt s k := rfl
      have g2 : s.data.toList.getD (k + 1) 0 = byteAt s (k + 1) := rfl
      rw [g1, g2] at hp
      rw [hp]
      simp only [Nat.add_sub_cancel]
      by_cases hpk : pairTo s.data.toList (byteAt letter 0) (byteAt thn 0) k = true
      · simp [hpk]
      · have hpk' : pairTo s.data.toList (byteAt letter 0) (byteAt thn 0) k = false := by simpa using hpk
        rw [hpk']
        generalize byteAt s k = x
        generalize byteAt s (k + 1) = y
        generalize byteAt letter 0 = c
        generalize byteAt thn 0 = d
        by_cases hx : x = c
        · by_cases hy : d = y
          · simp [hx, hy, nxR]
          · have hy2 : ¬ y = d := fun e => hy e.symm
            by_cases hcy : c = y
            · simp [hx, hy, hy2, hcy, nxR]
            · have hcy2 : ¬ y = c := fun e => hcy e.symm
              simp [hx, hy, hy2, hcy, hcy2, nxR]
        · by_cases hcy : c = y
          · subst hcy
            simp [hx, nxR]
          · have hcy2 : ¬ y = c := fun e => hcy e.symm
            simp [hx, hcy, hcy2, nxR]

/-- counted -/
theorem cnt_one (s : ByteArray) (c : UInt8) (k : Nat) : cntEq s.data.toList c (k + 1) = cntEq s.data.toList c k + if byteAt s k = c then 1 else 0 := by
  by_cases h : byteAt s k = c
  · have hp : ((fun i => s.data.toList.getD i 0 == c) k) = true := by
      show (byteAt s k == c) = true
      rw [h]; simp
    rw [cntEq, cntTo_yes _ _ hp, if_pos h]; rfl
  · have hp : ((fun i => s.data.toList.getD i 0 == c) k) = false := by
      show (byteAt s k == c) = false
      simpa using h
    rw [cntEq, cntTo_no _ _ hp, if_neg h, Int.add_zero]; rfl
theorem to_3 {letter thn : ByteArray} {many : Int} (h0 : 0 ≤ many) (s : ByteArray) (hw : wordOk s = true) : ∀ k, k ≤ s.size →
    (Ru.mk 3 letter thn many).to s k = if cntEq s.data.toList (byteAt letter 0) k ≤ many then cntEq s.data.toList (byteAt letter 0) k else -1 := by
  intro k
  induction k with
  | zero => intro _; simp [Ru.to, cntEq, cntTo, h0]
  | succ k ih =>
    intro hk
    have ih := ih (by omega)
    have hlt : k < s.size := by omega
    have hb := cntEq_bd s.data.toList (byteAt letter 0) k
    rw [Ru.to, ih, nx_of hw hlt, cnt_one]
    generalize cntEq s.data.toList (byteAt letter 0) k = N at *
    simp only
    by_cases hc : byteAt s k = byteAt letter 0
    · rw [hc, if_pos rfl]
      by_cases hl : N ≤ many
      · rw [if_pos hl, if_neg (by omega)]
        simp only [nxR, beq_self_eq_true, if_true]
        by_cases he : N = many
        · simp [he]
          intro h
          omega
        · have h1 : min (N + 1) many = N + 1 := by rw [Int.min_def]; split <;> omega
          simp [he, h1]
          omega
      · rw [if_neg hl, if_pos (by decide), if_neg (by omega)]
    · have hb2 : (byteAt letter 0 == byteAt s k) = false := by simpa using fun e => hc e.symm
      rw [if_neg hc, hb2]
      by_cases hl : N ≤ many
      · rw [if_pos hl, if_neg (by omega), if_pos (by omega)]
        simp [nxR]
      · rw [if_neg hl, if_pos (by decide), if_neg (by omega)]
theorem to_4 {letter thn : ByteArray} {many : Int} (h0 : 1 ≤ many) (s : ByteArray) (hw : wordOk s = true) : ∀ k, k ≤ s.size →
    (Ru.mk 4 letter thn many).to s k = min (cntEq s.data.toList (byteAt letter 0) k) many := by
  intro k
  induction k with
  | zero => intro _; simp [Ru.to, cntEq, cntTo, Int.min_def]; omega
  | succ k ih =>
    intro hk
    have ih := ih (by omega)
    have hlt : k < s.size := by omega
    have hb := cntEq_bd s.data.toList (byteAt letter 0) k
    rw [Ru.to, ih, nx_of hw hlt, cnt_one]
    generalize cntEq s.data.toList (byteAt letter 0) k = N at *
    rw [if_neg (by rw [Int.min_def]; split <;> omega)]
    simp only
    by_cases hc : byteAt s k = byteAt letter 0
    · rw [hc, if_pos rfl]
      simp only [nxR, beq_self_eq_true, if_true]
      simp [Int.min_def]
      split <;> split <;> (try split) <;> omega
    · have hb2 : (byteAt letter 0 == byteAt s k) = false := by simpa using fun e => hc e.symm
      rw [if_neg hc, hb2]
      simp [nxR]
end Go.Proofs.Ytlfjecaffmfgcab

namespace Go.Proofs.Ytlfjecaffmfgcab

theorem goes_to {r : Ru} (hok : r.ok = true) {s : ByteArray} (hw : wordOk s = true) : ∀ k, k ≤ s.size → (mfT r).goes 0 (s.data.toList.take k) = r.to s k := by
  intro k
  induction k with
  | zero => intro _; rfl
  | succ k ih =>
    intro hk
    have ih := ih (by omega)
    have hlt : k < s.size := by omega
    obtain ⟨l3, _, l2⟩ := lix_bd hw hlt
    rw [M.goes_snoc _ _ _ _ hlt, ih, byteAt_eq s k hlt, ← l2]
    rcases Ru.to_bd hok s k with h | h
    · rw [h, M.nx_neg _ _ _ (by decide), Ru.to, if_pos (by rw [h]; decide)]
    · rw [mfT_nx hok h l3, Ru.to, if_neg (by have := h.1; omega)]
theorem after_to {r : Ru} (hok : r.ok = true) {s : ByteArray} (hw : wordOk s = true) : (mfT r).after s = r.to s s.size := by
  rw [M.after, if_pos (by rw [mfT_ok hok, hw]; rfl), ← goes_to hok hw s.size (Nat.le_refl _), List.take_of_length_le (Nat.le_of_eq (len_data s))]
theorem endAt_to {r : Ru} (hok : r.ok = true) (s : ByteArray) (k : Nat) : (mfT r).endAt (r.to s k) = if r.to s k = -1 then false else r.endAt (r.to s k) := by
  rcases Ru.to_bd hok s k with h | h
  · rw [h]; simp [M.endAt]
  · rw [mfT_end h, if_neg (by have := h.1; omega)]

/-- A RULE AND ITS MACHINE SAY THE SAME -/
theorem takes_holds {r : Ru} (hok : r.ok = true) {s : ByteArray} (hw : wordOk s = true) : (mfT r).takes s = r.holds s := by
  rw [M.takes, after_to hok hw, endAt_to hok]
  obtain ⟨kind, letter, thn, many⟩ := r
  obtain ⟨hl, hr⟩ := Ru.ok_iff.1 hok
  have ht : s.data.toList.take s.size = s.data.toList := List.take_of_length_le (Nat.le_of_eq (len_data s))
  simp only at hr
  rcases hr with ⟨rfl, rfl, h0, h4⟩ | ⟨rfl, rfl, h0, h4⟩ | ⟨rfl, ht2, rfl⟩ | ⟨rfl, rfl, h0, h4⟩ | ⟨rfl, rfl, h0, h4⟩
  · rw [to_0 h0 s hw s.size (Nat.le_refl _), ht]
    simp only [Ru.holds, Ru.endAt, endR, if_true]
    by_cases h : (longestIn (runsL s.data.toList) (byteAt letter 0) : Int) ≤ many
    · rw [if_pos h, if_neg (by omega)]; simp [h]
    · rw [if_neg h, if_pos rfl]; simp [h]
  · rw [to_1 h0 s hw s.size (Nat.le_refl _), ht]
    have hh := holds_1 (letter := letter) h0 s
    have e : (Ru.mk 1 letter ⟨#[]⟩ many).holds s = longAll (runsL s.data.toList) (byteAt letter 0) many := by simp [Ru.holds]
    rw [e, hh]
    simp only [Ru.endAt]
    by_cases h : doneOk (runsL s.data.toList) (byteAt letter 0) many = true
    · rw [if_pos h, if_neg (by rw [Int.min_def]; split <;> omega), h, Bool.true_and]
    · have h' : doneOk (runsL s.data.toList) (byteAt letter 0) many = false := by simpa using h
      rw [if_neg h, if_pos rfl, h', Bool.false_and]
  · rw [to_2 s hw s.size (Nat.le_refl _)]
    simp only [Ru.holds, Ru.endAt, endR]
    by_cases h : pairTo s.data.toList (byteAt letter 0) (byteAt thn 0) (s.size - 1) = true
    · simp [h]
    · have h' : pairTo s.data.toList (byteAt letter 0) (byteAt thn 0) (s.size - 1) = false := by simpa using h
      rw [h']
      by_cases hx : 0 < s.size ∧ byteAt s (s.size - 1) = byteAt letter 0
      · simp [hx]
      · simp [hx]
  · rw [to_3 h0 s hw s.size (Nat.le_refl _)]
    have hb := cntEq_bd s.data.toList (byteAt letter 0) s.size
    simp only [Ru.holds, Ru.endAt, endR]
    by_cases h : cntEq s.data.toList (byteAt letter 0) s.size ≤ many
    · rw [if_pos h, if_neg (by omega)]; simp [h]
    · rw [if_neg h, if_pos rfl]; simp [h]
  · rw [to_4 h0 s hw s.size (Nat.le_refl _)]
    have hb := cntEq_bd s.data.toList (byteAt letter 0) s.size
    simp only [Ru.holds, Ru.endAt, endR]
    generalize cntEq s.data.toList (byteAt letter 0) s.size = N at *
    rw [if_neg (by rw [Int.min_def]; split <;> omega)]
    by_cases h : many ≤ N
    · have : min N many = many := by rw [Int.min_def]; split <;> omega
      simp [this, h]
    · have : min N many = N := by rw [Int.min_def]; split <;> omega
      simp [this, h]
      omega

/-- the rule with both letters exchanged, if it is of RuleNever -/
def Ru.turned (r : Ru) : Ru := if r.kind = 2 then ⟨2, r.thn, r.letter, 0⟩ else r
theorem Ru.turned_ok {r : Ru} (h : r.ok = true) : r.turned.ok = true := by
  obtain ⟨kind, letter, thn, many⟩ := r
  unfold Ru.turned
  simp only
  by_cases hk : kind = 2
  · rw [if_pos hk]
    subst hk
    obtain ⟨hl, hr⟩ := Ru.ok_iff.1 h
    simp only at hl hr
    rcases hr with ⟨h, _⟩ | ⟨h, _⟩ | ⟨_, ht, _⟩ | ⟨h, _⟩ | ⟨h, _⟩
    · omega
    · omega
    · exact Ru.ok_iff.2 ⟨ht, .inr (.inr (.inl ⟨rfl, hl, rfl⟩))⟩
    · omega
    · omega
  · rw [if_neg hk]; exact h
theorem pairTo_iff (l : List UInt8) (c d : UInt8) (k : Nat) : pairTo l c d k = true ↔ ∃ i, i < k ∧ l.getD i 0 = c ∧ l.getD (i + 1) 0 = d := by
  simp [pairTo]
theorem pairTo_rev (l : List UInt8) (c d : UInt8) : pairTo l.reverse d c (l.length - 1) = pairTo l c d (l.length - 1) := by
  have key : ∀ (l : List UInt8) (c d : UInt8), pairTo l c d (l.length - 1) = true → pairTo l.reverse d c (l.length - 1) = true := by
    intro l c d h
    obtain ⟨i, hi, h1, h2⟩ := (pairTo_iff _ _ _ _).1 h
    refine (pairTo_iff _ _ _ _).2 ⟨l.length - 2 - i, by omega, ?_, ?_⟩
    · rw [List.getD_eq_getElem?_getD, List.getElem?_reverse (by omega), show l.length - 1 - (l.length - 2 - i) = i + 1 from by omega, ← List.getD_eq_getElem?_getD]; exact h2
    · rw [List.getD_eq_getElem?_getD, List.getElem?_reverse (by omega), show l.length - 1 - (l.length - 2 - i + 1) = i from by omega, ← List.getD_eq_getElem?_getD]; exact h1
  rw [Bool.eq_iff_iff]
  refine ⟨fun h => ?_, key l c d⟩
  have := key l.reverse d c (by rw [List.length_reverse]; exact h)
  rwa [List.reverse_reverse, List.length_reverse] at this
theorem turned_back {r : Ru} (hok : r.ok = true) {s : ByteArray} (hw : wordOk s = true) : r.turned.holds (backStr s) = r.holds s := by
  obtain ⟨kind, letter, thn, many⟩ := r
  obtain ⟨hl, hr⟩ := Ru.ok_iff.1 hok
  have hd : (backStr s).data.toList = s.data.toList.reverse := by rw [backStr_yes hw, back0_list]
  have hsz : (backStr s).size = s.size := back_size hw
  have hcnt : cntEq s.data.toList.reverse (byteAt letter 0) s.size = cntEq s.data.toList (byteAt letter 0) s.size := by
    have h := countOf_back hw hl
    simp only at h
    rw [countOf_yes (wordOk_back hw) hl, countOf_yes hw hl, hd, hsz] at h
    exact h
  simp only at hr
  rcases hr with ⟨rfl, rfl, h0, h4⟩ | ⟨rfl, rfl, h0, h4⟩ | ⟨rfl, ht2, rfl⟩ | ⟨rfl, rfl, h0, h4⟩ | ⟨rfl, rfl, h0, h4⟩
  · simp [Ru.turned, Ru.holds, hd, runsL_reverse, longestIn_reverse]
  · simp [Ru.turned, Ru.holds, hd, runsL_reverse, longAll]
  · have := pairTo_rev s.data.toList (byteAt letter 0) (byteAt thn 0)
    rw [len_data] at this
    simp [Ru.turned, Ru.holds, hd, hsz, this]
  · simp [Ru.turned, Ru.holds, hd, hsz, hcnt]
  · simp [Ru.turned, Ru.holds, hd, hsz, hcnt]
/-- what FnKeepsRule asks of the word back -/
theorem turned_keeps {r : Ru} (hok : r.ok = true) {s : ByteArray} (hw : wordOk s = true) : r.turned.keeps (backStr s) = r.keeps s := by
  simp [Ru.keeps, Ru.turned_ok hok, hok, wordOk_back hw, hw, turned_back hok hw]

theorem lets_mono (r : Ru) (s : ByteArray) (k j : Nat) : r.lets s k ≤ r.lets s (k + j) := by
  induction j with
  | zero => exact Int.le_refl _
  | succ j ih =>
    show _ ≤ r.lets s (k + j + 1)
    rw [Ru.lets]; split <;> omega
theorem lets_bd2 (r : Ru) (s : ByteArray) (k : Nat) : 0 ≤ r.lets s k ∧ r.lets s k ≤ k := by
  induction k with
  | zero => exact ⟨Int.le_refl _, Int.le_refl _⟩
  | succ k ih => rw [Ru.lets]; split <;> omega
/-- the first letters break the rule just from the told number on -/
theorem broken_from {r : Ru} (hok : r.ok = true) {s : ByteArray} (hw : wordOk s = true) (k : Nat) (hk : k ≤ s.size) : (r.to s k = -1) ↔ (0 ≤ r.broken s ∧ r.broken s ≤ k) := by
  have hb : r.broken s = if r.to s s.size < 0 then r.lets s s.size else -1 := by simp [Ru.broken, hok, hw]
  have hle := lets_bd2 r s
  rw [hb]
  by_cases h : r.to s k < 0
  · have hst := Ru.stuck s k (s.size - k) h
    rw [show k + (s.size - k) = s.size from by omega] at hst
    rw [if_pos hst.1, hst.2]
    have := hle k
    have h2 := (Ru.to_bd hok s k).resolve_right (fun e => by have := e.1; omega)
    exact ⟨fun _ => this, fun _ => h2⟩
  · have hne : ¬ r.to s k = -1 := by omega
    refine ⟨fun e => absurd e hne, fun ⟨a, b⟩ => ?_⟩
    exfalso
    by_cases hx : r.to s s.size < 0
    · rw [if_pos hx] at b
      have hlt : k < s.size := by
        rcases Nat.lt_or_ge k s.size with h2 | h2
        · exact h2
        · have : k = s.size := by omega
          rw [this] at h; omega
      have h1 : r.lets s (k + 1) = k + 1 := by rw [Ru.lets, if_neg h, Ru.lets_of s k (by omega)]
      have h2 := lets_mono r s (k + 1) (s.size - (k + 1))
      rw [show k + 1 + (s.size - (k + 1)) = s.size from by omega] at h2
      omega
    · rw [if_neg hx] at a; omega
theorem broken_one {r : Ru} (hok : r.ok = true) {s : ByteArray} (hw : wordOk s = true) : r.broken s < 0 ∨ (1 ≤ r.broken s ∧ r.keeps s = false) := by
  by_cases h : r.broken s < 0
  · exact .inl h
  · right
    have h0 := broken_from hok hw 0 (Nat.zero_le _)
    have h1 : 1 ≤ r.broken s := by
      rcases Int.lt_or_le (r.broken s) 1 with h2 | h2
      · have : r.to s 0 = -1 := h0.2 ⟨by omega, by omega⟩
        simp [Ru.to] at this
      · exact h2
    refine ⟨h1, ?_⟩
    have hb : r.broken s = if r.to s s.size < 0 then r.lets s s.size else -1 := by simp [Ru.broken, hok, hw]
    have hneg : r.to s s.size = -1 := by
      by_cases hx : r.to s s.size < 0
      · exact (Ru.to_bd hok s s.size).resolve_right (fun e => by have := e.1; omega)
      · rw [if_neg hx] at hb; omega
    have ht := takes_holds hok hw
    rw [M.takes, after_to hok hw, endAt_to hok, if_pos hneg] at ht
    simp [Ru.keeps, hok, hw, ← ht]
end Go.Proofs.Ytlfjecaffmfgcab

namespace Go.Proofs.Ytlfjecaffmfgcab

def sameSt (r : Ru) : Bool := decide ((tmz (mfT r)).st = (mfT r).st)
def threeL : List ByteArray := [⟨#[114]⟩, ⟨#[100]⟩, ⟨#[110]⟩]
theorem three_of {t : ByteArray} (h : letterOk t = true) : t ∈ threeL := by
  rcases letterOk_cases h with rfl | rfl | rfl <;> simp [threeL]
set_option maxRecDepth 100000 in
theorem st_0 : (threeL.all fun t => (List.range 5).all fun m => sameSt ⟨0, t, ⟨#[]⟩, (m : Int)⟩) = true := by decide +kernel
set_option maxRecDepth 100000 in
theorem st_1 : (threeL.all fun t => (List.range 5).all fun m => decide (m < 2) || sameSt ⟨1, t, ⟨#[]⟩, (m : Int)⟩) = true := by decide +kernel
set_option maxRecDepth 100000 in
theorem st_2 : (threeL.all fun t => threeL.all fun u => sameSt ⟨2, t, u, 0⟩) = true := by decide +kernel
set_option maxRecDepth 100000 in
theorem st_3 : (threeL.all fun t => (List.range 6).all fun m => sameSt ⟨3, t, ⟨#[]⟩, (m : Int)⟩) = true := by decide +kernel
set_option maxRecDepth 100000 in
theorem st_4 : (threeL.all fun t => (List.range 6).all fun m => decide (m < 1) || sameSt ⟨4, t, ⟨#[]⟩, (m : Int)⟩) = true := by decide +kernel
theorem st_same {r : Ru} (hok : r.ok = true) : (tmz (mfT r)).st = (mfT r).st := by
  suffices h : sameSt r = true by simpa [sameSt] using h
  obtain ⟨kind, letter, thn, many⟩ := r
  obtain ⟨hl, hr⟩ := Ru.ok_iff.1 hok
  simp only at hl hr
  have h3 := three_of hl
  rcases hr with ⟨rfl, rfl, h0, h4⟩ | ⟨rfl, rfl, h0, h4⟩ | ⟨rfl, ht2, rfl⟩ | ⟨rfl, rfl, h0, h4⟩ | ⟨rfl, rfl, h0, h4⟩
  · have := List.all_eq_true.1 (List.all_eq_true.1 st_0 _ h3) many.toNat (by simp; omega)
    rwa [Int.toNat_of_nonneg h0] at this
  · have := List.all_eq_true.1 (List.all_eq_true.1 st_1 _ h3) many.toNat (by simp; omega)
    rw [Int.toNat_of_nonneg (by omega), Bool.or_eq_true] at this
    exact this.resolve_left (by simp; omega)
  · exact List.all_eq_true.1 (List.all_eq_true.1 st_2 _ h3) _ (three_of ht2)
  · have := List.all_eq_true.1 (List.all_eq_true.1 st_3 _ h3) many.toNat (by simp; omega)
    rwa [Int.toNat_of_nonneg h0] at this
  · have := List.all_eq_true.1 (List.all_eq_true.1 st_4 _ h3) many.toNat (by simp; omega)
    rw [Int.toNat_of_nonneg (by omega), Bool.or_eq_true] at this
    exact this.resolve_left (by simp; omega)
end Go.Proofs.Ytlfjecaffmfgcab

namespace Go.Proofs.Ytlfjecaffmfgcab
open Go.RowKit

theorem ints_nil (w : World) : IsInts w (.slice none 0 0) [] := ⟨none, 0, rfl, Nat.le_refl _, Nat.zero_le _, .inl rfl⟩
theorem bools_nil (w : World) : IsBools w (.slice none 0 0) [] := ⟨none, 0, rfl, Nat.le_refl _, Nat.zero_le _, .inl rfl⟩

set_option maxHeartbeats 30000000 in
set_option maxRecDepth 100000 in
theorem lawFor_walk {w : World} (a : Option Addr) (len cap : Nat) (zs : List Int) (h : IsRow .u8 w a len cap zs) (b : Option Addr) (lenb capb : Nat) (ys : List Int) (h2 : IsRow .u8 w b lenb capb ys) (hglob : ∃ m, w.cell? ⟨0, 0, none⟩ = some (.int .i64 m)) :
    Calls Try.prog 5 #[.slice a len cap, .slice b lenb capb] w fun e w' => e = .returned (.bool true) ∧ Below w.heap.size w w' := by
  obtain ⟨mx, hmx⟩ := hglob
  have hg0 : (⟨0, 0, none⟩ : Addr).block < w.heap.size := World.block_lt_of_cell? w _ hmx
  have HMX : Hid (∀ w', Below w.heap.size w w' → w'.cell? ⟨0, 0, none⟩ = some (.int .i64 mx)) := Lib.hid (fun w' hb => (hb.cell hg0).trans hmx)
  clear hmx hg0
  have HD := Lib.hid (drawMachineFor_any a len cap zs w h)
  have HD2 := Lib.hid (fun w' hb => drawKeepsRule_any b lenb capb ys w' (h2.below2 (w' := w') hb))
  have hl : len ≤ maxLen := by
    rcases h with ⟨_, rfl, _⟩ | ⟨x, _, h1, h2, _⟩
    · exact Nat.zero_le _
    · exact Nat.le_trans h1 h2
  have hlb : lenb ≤ maxLen := by
    rcases h2 with ⟨_, rfl, _⟩ | ⟨x, _, h1, h2, _⟩
    · exact Nat.zero_le _
    · exact Nat.le_trans h1 h2
  unfold maxLen at hl hlb
  clear h h2
  by_cases hbig : 1048576 < len
  · go_enter Try.func5, Try.ntmps5
    go_wp2_with fail
    go_ret
    exact ⟨rfl, Below.refl _ _⟩
  by_cases hbigb : 1048576 < lenb
  · go_enter Try.func5, Try.ntmps5
    go_wp2_with fail
    go_ret
    exact ⟨rfl, Below.refl _ _⟩
  go_enter Try.func5, Try.ntmps5
  go_wp2_with fail
  refine HD.out.mono ?_
  clear HD
  rintro e w1 ⟨kind, letter, thn, many, rfl, p1, p2, p3, p4, p5, p6, hb⟩
  have hlm : letter.size ≤ maxLen := by rw [p3]; decide
  have htm : thn.size ≤ maxLen := Nat.le_trans p4 (by decide)
  have b0 := Lib.hid (Below.refl (w1.heap.size + 1) (w1.alloc (.cells #[.int .i64 kind, .string letter, .string thn, .int .i64 many] 27)))
  have QB := Lib.hid hb
  clear hb
  obtain ⟨y0, y1, y2, y3, -, -⟩ := ru_cells kind letter thn many b0.out
  go_wp2_with fail
  clear y0 y1 y2 y3
  refine (implMachineFor_any kind letter thn many _ hlm htm).mono ?_
  have HSP := Lib.hid (fun W => specMachineFor_any kind letter thn many W)
  have HNO := Lib.hid (fun h => mf_no (r := Ru.mk kind letter thn many) h)
  have HYES := Lib.hid (fun h => mf_yes (r := Ru.mk kind letter thn many) h)
  generalize hTT : mf (Ru.mk kind letter thn many) = T at *
  have HTT := Lib.hid hTT
  clear hTT
  rintro e w2 ⟨a1, a2, c1, c2, rfl, hA, hb2⟩
  simp only [World.size_alloc] at hb2
  have hI := IsInts.of_owns hA.head
  have hE := IsBools.of_owns hA.tail.head
  have B2 := Lib.hid hb2
  have s2 := (ru_cells kind letter thn many B2.out).2.2.2.2.2
  have hal : Below w2.heap.size w2 (w2.alloc (.cells #[.int .i64 T.st, .slice a1 T.next.length c1, .slice a2 T.ends.length c2] 37)) := (Below.refl _ _).alloc (Nat.le_refl _) _
  have M2 := Lib.hid (MachBox.new (st := T.st) 37 hI hE)
  have B3 := Lib.hid (B2.out.trans (hal.mono s2))
  clear hA hb2 hI hE hal s2
  obtain ⟨y0, y1, y2, y3, -, s3⟩ := ru_cells kind letter thn many B3.out
  go_wp2_with fail
  clear y0 y1 y2 y3
  refine (HSP.out _).mono ?_
  rintro e w3 ⟨a3, a4, c3, c4, rfl, hA, hb3⟩
  have hI := IsInts.of_owns hA.head
  have hE := IsBools.of_owns hA.tail.head
  have hal : Below w3.heap.size w3 (w3.alloc (.cells #[.int .i64 T.st, .slice a3 T.next.length c3, .slice a4 T.ends.length c4] 37)) := (Below.refl _ _).alloc (Nat.le_refl _) _
  have X3 := Lib.hid (MachBox.new (st := T.st) 37 hI hE)
  have M3 := Lib.hid (M2.out.below (hb3.trans (hal.mono hb3.size)))
  have B4 := Lib.hid (B3.out.trans ((hb3.trans (hal.mono hb3.size)).mono s3))
  clear hA hb3 hI hE hal s3
  obtain ⟨y0, y1, y2, y3, -, s4⟩ := ru_cells kind letter thn many B4.out
  have m0 := M3.out.c0
  have m1 := M3.out.c1
  have m2 := M3.out.c2
  have k0 := X3.out.c0
  have k1 := X3.out.c1
  have k2 := X3.out.c2
  go_wp2_with fail
  clear m0 m1 m2 k0 k1 k2 y0 y1 y2 y3
  refine (sameMachine_same T _ _ _ _ _ M3.out.ints M3.out.bools X3.out.ints X3.out.bools).mono ?_
  rintro e w5 ⟨rfl, hb5⟩
  have M5 := Lib.hid (M3.out.below hb5)
  have B5 := Lib.hid (B4.out.trans (hb5.mono s4))
  clear hb5 s4
  have hne : ((Ru.mk kind letter thn many).ok != (Ru.mk kind letter thn many).ok) = false := by simp
  obtain ⟨y0, y1, y2, y3, -, s5⟩ := ru_cells kind letter thn many B5.out
  have Q5 := Lib.hid (QB.out.trans ((ru_cells kind letter thn many B5.out).2.2.2.2.1.mono QB.out.size))
  have m0 := M5.out.c0
  have m1 := M5.out.c1
  have m2 := M5.out.c2
  by_cases hok : (Ru.mk kind letter thn many).ok = true
  · have HOK := Lib.hid hok
    have hT := HYES.out hok
    have HTT2 := Lib.hid hT
    clear hT
    rw [hok]
    rw [hok] at hne
    clear hok
    go_wp2_with fail
    clear m0 m1 m2 y0 y1 y2 y3
    refine (HD2.out _ Q5.out).mono ?_
    rintro e w6 ⟨kind', letter', thn', many', s, rfl, -, -, -, -, -, -, p7, hb6⟩
    have hsm : s.size ≤ maxLen := Nat.le_trans p7 (by decide)
    have hb6' : Below w5.heap.size w5 (w6.alloc (.cells #[.int .i64 kind', .string letter', .string thn', .int .i64 many'] 27)) := hb6.trans (((Below.refl w6.heap.size w6).alloc (Nat.le_refl _) _).mono hb6.size)
    have M6 := Lib.hid (M5.out.below hb6')
    have B6 := Lib.hid (B5.out.trans (hb6'.mono s5))
    have Q6 := Lib.hid (Q5.out.trans (hb6'.mono Q5.out.size))
    clear hb6 hb6' s5 p7
    obtain ⟨y0, y1, y2, y3, -, s6⟩ := ru_cells kind letter thn many B6.out
    have m0 := M6.out.c0
    have m1 := M6.out.c1
    have m2 := M6.out.c2
    have hstw : (Lit.int .i64 T.st).wf = true := by
      have hb := Ru.st_bd HOK.out
      rw [HTT2.out]
      exact WalkArith.wf_i64 (by show _ ∧ _; have : (mfT (Ru.mk kind letter thn many)).st = ((Ru.mk kind letter thn many).st : Int) := rfl; omega)
    have hokm : ∀ W nv ev, IsInts W nv T.next → IsBools W ev T.ends → Calls Try.prog 24 #[.agg #[.int .i64 T.st, nv, ev]] W fun e w' => e = .returned (.bool true) ∧ Below W.heap.size W w' := fun W nv ev h1 h2 => by
      have := implMachineOk_any T nv ev W h1 h2 hstw
      have h3 : T.ok = true := by rw [HTT2.out]; exact mfT_ok HOK.out
      rwa [h3] at this
    have HOKM := Lib.hid hokm
    have htr : ∀ W nv ev, IsInts W nv T.next → IsBools W ev T.ends → Calls Try.prog 28 #[.agg #[.int .i64 T.st, nv, ev]] W fun e w' => ∃ a5 n5 c5 a6 n6 c6, e = .returned (.agg #[.int .i64 T.st, .slice a5 n5 c5, .slice a6 n6 c6]) ∧ Below W.heap.size W w' := fun W nv ev h1 h2 => by
      refine (implTrimmed_any T nv ev W h1 h2 hstw).mono ?_
      rintro e w' ⟨a5, a6, c5, c6, he, -, hb⟩
      have h3 : (tmz T).st = T.st := by rw [HTT2.out]; exact st_same HOK.out
      rw [h3] at he
      exact ⟨_, _, _, _, _, _, he, hb⟩
    have HTR := Lib.hid htr
    have hfd : ∀ (a5 : Option Addr) (n5 c5 : Nat) (a6 : Option Addr) (n6 c6 : Nat) (W : World), (Instr.field 37 (.agg #[.int .i64 T.st, .slice a5 n5 c5, .slice a6 n6 c6]) 0).run Try.prog W = .ok (.int .i64 T.st) W := fun _ _ _ _ _ _ _ => by kernel_rfl
    clear hokm htr
    by_cases hw : wordOk s = true
    · have hwd : ∀ W, Calls Try.prog 25 #[.string s] W fun e w' => e = .returned (.bool true) ∧ W = w' := fun W => by
        have := specWordOk_any s W hsm
        rwa [hw] at this
      have HWD := Lib.hid hwd
      have htk : ∀ W nv ev, IsInts W nv T.next → IsBools W ev T.ends → Calls Try.prog 26 #[.agg #[.int .i64 T.st, nv, ev], .string s] W fun e w' => e = .returned (.bool ((Ru.mk kind letter thn many).keeps s)) ∧ Below W.heap.size W w' := fun W nv ev h1 h2 => by
        have := implTakesOk_any T s nv ev W h1 h2 hstw hsm
        have h3 : T.takes s = (Ru.mk kind letter thn many).keeps s := by rw [HTT2.out, takes_holds HOK.out hw]; simp [Ru.keeps, HOK.out, hw]
        rwa [h3] at this
      have HTK := Lib.hid htk
      have HKP := Lib.hid (fun W hW => implKeeps_any kind letter thn many s mx W hlm htm hsm (HMX.out W hW))
      clear hwd htk hw
      generalize (Ru.mk kind letter thn many).keeps s = kb at *
      have hkk : (kb == kb) = true := by simp
      go_wp2_with fail
      first | go_region_with (first
        | (go_at_call 24; refine (HOKM.out _ _ _ (M6.out.ints.below (Below.refl _ _).drew) (M6.out.bools.below (Below.refl _ _).drew)).mono ?_; rintro e w7 ⟨rfl, hb7x⟩; have hb7 := (Below.refl (w6.alloc (.cells #[.int .i64 kind', .string letter', .string thn', .int .i64 many'] 27)).heap.size (w6.alloc (.cells #[.int .i64 kind', .string letter', .string thn', .int .i64 many'] 27))).drew.trans hb7x; have M7 := Lib.hid (M6.out.below hb7); have B7 := Lib.hid (B6.out.trans (hb7.mono (ru_cells kind letter thn many B6.out).2.2.2.2.2)); have Q7 := Lib.hid (Q6.out.trans (hb7.mono Q6.out.size)); have m0 := M7.out.c0; have m1 := M7.out.c1; have m2 := M7.out.c2; obtain ⟨y0, y1, y2, y3, -, -⟩ := ru_cells kind letter thn many B7.out)
        | (go_at_call 25; refine (HWD.out _).mono ?_; rintro e w' ⟨rfl, rfl⟩)
        | (go_at_call 26; refine (HTK.out _ _ _ M7.out.ints M7.out.bools).mono ?_; rintro e w8 ⟨rfl, hb8⟩; have M8 := Lib.hid (M7.out.below hb8); have B8 := Lib.hid (B7.out.trans (hb8.mono (ru_cells kind letter thn many B7.out).2.2.2.2.2)); have Q8 := Lib.hid (Q7.out.trans (hb8.mono Q7.out.size)); have m0 := M8.out.c0; have m1 := M8.out.c1; have m2 := M8.out.c2; obtain ⟨y0, y1, y2, y3, -, -⟩ := ru_cells kind letter thn many B8.out)
        | (go_at_call 27; refine (HKP.out _ Q8.out).mono ?_; rintro e w9 ⟨rfl, hb9⟩; have M9 := Lib.hid (M8.out.below hb9); have B9 := Lib.hid (B8.out.trans (hb9.mono (ru_cells kind letter thn many B8.out).2.2.2.2.2)); have Q9 := Lib.hid (Q8.out.trans (hb9.mono Q8.out.size)); have m0 := M9.out.c0; have m1 := M9.out.c1; have m2 := M9.out.c2; obtain ⟨y0, y1, y2, y3, -, -⟩ := ru_cells kind letter thn many B9.out)
        | (go_at_call 28; refine (HTR.out _ _ _ M9.out.ints M9.out.bools).mono ?_; rintro e w10 ⟨a5, n5, c5, a6, n6, c6, rfl, hb10⟩; have M10 := Lib.hid (M9.out.below hb10); have B10 := Lib.hid (B9.out.trans (hb10.mono (ru_cells kind letter thn many B9.out).2.2.2.2.2)); have Q10 := Lib.hid (Q9.out.trans (hb10.mono Q9.out.size)); have m0 := M10.out.c0; have m1 := M10.out.c1; have m2 := M10.out.c2; obtain ⟨y0, y1, y2, y3, -, -⟩ := ru_cells kind letter thn many B10.out)) | fail
      all_goals
        clear m0 m1 m2 y0 y1 y2 y3
        go_simp
        go_wp2_with fail
        go_ret
        exact ⟨rfl, Q10.out⟩
    · have hw' : wordOk s = false := by simpa using hw
      have hwd : ∀ W, Calls Try.prog 25 #[.string s] W fun e w' => e = .returned (.bool false) ∧ W = w' := fun W => by
        have := specWordOk_any s W hsm
        rwa [hw'] at this
      have HWD := Lib.hid hwd
      clear hw hwd
      go_wp2_with fail
      first | go_region_with (first
        | (go_at_call 24; refine (HOKM.out _ _ _ (M6.out.ints.below (Below.refl _ _).drew) (M6.out.bools.below (Below.refl _ _).drew)).mono ?_; rintro e w7 ⟨rfl, hb7x⟩; have hb7 := (Below.refl (w6.alloc (.cells #[.int .i64 kind', .string letter', .string thn', .int .i64 many'] 27)).heap.size (w6.alloc (.cells #[.int .i64 kind', .string letter', .string thn', .int .i64 many'] 27))).drew.trans hb7x; have M7 := Lib.hid (M6.out.below hb7); have B7 := Lib.hid (B6.out.trans (hb7.mono (ru_cells kind letter thn many B6.out).2.2.2.2.2)); have Q7 := Lib.hid (Q6.out.trans (hb7.mono Q6.out.size)); have m0 := M7.out.c0; have m1 := M7.out.c1; have m2 := M7.out.c2; obtain ⟨y0, y1, y2, y3, -, -⟩ := ru_cells kind letter thn many B7.out)
        | (go_at_call 25; refine (HWD.out _).mono ?_; rintro e w' ⟨rfl, rfl⟩; have hsweep : True := trivial)
        | (clear hsweep
           guard_target = wpAny _ _ _ _ _ _ _ _
           refine wpAny_take (i := 5) (oi := ⟨some 64, _, _, _, _, _⟩) (v := .bool true) rfl (by kernel_rfl) (by kernel_rfl) (by kernel_rfl) (fun _ _ _ h => h) (Or.inl ⟨by rfl, by intro w; go_simp⟩) ?_
           simp only [Act.put, List.setIfInBounds_toArray, List.set_cons_zero, List.set_cons_succ]
           refine wpAny_take (i := 6) (oi := ⟨some 65, _, _, _, _, _⟩) (v := .bool true) rfl (by kernel_rfl) (by kernel_rfl) (by kernel_rfl) (fun _ _ _ h => h) (Or.inl ⟨by rfl, by intro w; go_simp⟩) ?_
           simp only [Act.put, List.setIfInBounds_toArray, List.set_cons_zero, List.set_cons_succ]
           refine wpAny_take (i := 7) (oi := ⟨some 66, _, _, _, _, _⟩) (v := undef) rfl (by kernel_rfl) (by kernel_rfl) (by kernel_rfl) (fun _ _ _ h => h) (Or.inr ⟨by rfl, rfl⟩) ?_
           simp only [Act.put, List.setIfInBounds_toArray, List.set_cons_zero, List.set_cons_succ]
           refine wpAny_take (i := 8) (oi := ⟨some 67, _, _, _, _, _⟩) (v := undef) rfl (by kernel_rfl) (by kernel_rfl) (by kernel_rfl) (fun _ _ _ h => h) (Or.inr ⟨by rfl, rfl⟩) ?_
           simp only [Act.put, List.setIfInBounds_toArray, List.set_cons_zero, List.set_cons_succ]
           refine wpAny_take (i := 10) (oi := ⟨some 69, _, _, _, _, _⟩) (v := undef) rfl (by kernel_rfl) (by kernel_rfl) (by kernel_rfl) (fun _ _ _ h => h) (Or.inr ⟨by rfl, rfl⟩) ?_
           simp only [Act.put, List.setIfInBounds_toArray, List.set_cons_zero, List.set_cons_succ]
           refine wpAny_take (i := 11) (oi := ⟨some 70, _, _, _, _, _⟩) (v := undef) rfl (by kernel_rfl) (by kernel_rfl) (by kernel_rfl) (fun _ _ _ h => h) (Or.inr ⟨by rfl, rfl⟩) ?_
           simp only [Act.put, List.setIfInBounds_toArray, List.set_cons_zero, List.set_cons_succ]
           refine wpAny_take (i := 9) (oi := ⟨some 68, _, _, _, _, _⟩) (v := undef) rfl (by kernel_rfl) (by kernel_rfl) (by kernel_rfl) (fun _ _ _ h => h) (Or.inr ⟨by rfl, rfl⟩) ?_
           simp only [Act.put, List.setIfInBounds_toArray, List.set_cons_zero, List.set_cons_succ]
           refine wpAny_take (i := 12) (oi := ⟨some 71, _, _, _, _, _⟩) (v := undef) rfl (by kernel_rfl) (by kernel_rfl) (by kernel_rfl) (fun _ _ _ h => h) (Or.inr ⟨by rfl, rfl⟩) ?_
           simp only [Act.put, List.setIfInBounds_toArray, List.set_cons_zero, List.set_cons_succ]
           refine wpAny_take (i := 13) (oi := ⟨some 72, _, _, _, _, _⟩) (v := undef) rfl (by kernel_rfl) (by kernel_rfl) (by kernel_rfl) (fun _ _ _ h => h) (Or.inr ⟨by rfl, rfl⟩) ?_
           simp only [Act.put, List.setIfInBounds_toArray, List.set_cons_zero, List.set_cons_succ])
        | (go_at_call 28; refine (HTR.out _ _ _ M7.out.ints M7.out.bools).mono ?_; rintro e w8 ⟨a5, n5, c5, a6, n6, c6, rfl, hb8⟩; have M8 := Lib.hid (M7.out.below hb8); have B8 := Lib.hid (B7.out.trans (hb8.mono (ru_cells kind letter thn many B7.out).2.2.2.2.2)); have Q8 := Lib.hid (Q7.out.trans (hb8.mono Q7.out.size)); have m0 := M8.out.c0; have m1 := M8.out.c1; have m2 := M8.out.c2; obtain ⟨y0, y1, y2, y3, -, -⟩ := ru_cells kind letter thn many B8.out)) | fail
      all_goals
        clear m0 m1 m2 y0 y1 y2 y3
        go_simp
        go_wp2_with fail
        go_ret
        exact ⟨rfl, Q8.out⟩
  · have hok' : (Ru.mk kind letter thn many).ok = false := by simpa using hok
    have HT := Lib.hid (HNO.out hok')
    clear hok
    rw [hok']
    rw [hok'] at hne
    have hcall : Calls Try.prog 21 #[.agg #[.int .i64 T.st, .slice a1 T.next.length c1, .slice a2 T.ends.length c2], .agg #[.int .i64 0, .slice none 0 0, .slice none 0 0]] w5 fun e w' => e = .returned (.bool true) ∧ Below w5.heap.size w5 w' := by
      have h0 : T.st = 0 := by rw [HT.out]
      have := sameMachine_same T _ _ (.slice none 0 0) (.slice none 0 0) w5 M5.out.ints M5.out.bools (by rw [HT.out]; exact ints_nil _) (by rw [HT.out]; exact bools_nil _)
      rw [h0] at this ⊢
      exact this
    have HCALL := Lib.hid hcall
    clear hcall
    go_wp2_with fail
    refine HCALL.out.mono ?_
    rintro e w6 ⟨rfl, hb6⟩
    have B6 := Lib.hid (B5.out.trans (hb6.mono s5))
    clear m0 m1 m2 y0 y1 y2 y3
    obtain ⟨y0, y1, y2, y3, -, s6⟩ := ru_cells kind letter thn many B6.out
    have Q6 := Lib.hid (Q5.out.trans (hb6.mono Q5.out.size))
    go_wp2_with fail
    refine (implRuleOk_any kind letter thn many _ hlm htm).mono ?_
    rintro e w7 ⟨rfl, hb7⟩
    rw [hok']
    have Q7 := Lib.hid (Q6.out.trans (hb7.mono Q6.out.size))
    go_wp2_with (go_at_call 14; refine (alive_any _).mono ?_; rintro e w' ⟨rfl, rfl⟩)
    go_ret
    exact ⟨rfl, Q7.out⟩
end Go.Proofs.Ytlfjecaffmfgcab
