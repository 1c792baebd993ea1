/- spec.l4Starts tells where a part begins. No condition. -/
import Derived.Test.YtlbblfbiiceofaaTermSem
import Derived.Test.YtlbblfbiiceofaaReadsM
import Derived.Deep.CutBlock
namespace Go.Proofs.Ytlbblfbiiceofaa
open Go.RowKit

theorem IsMarks.take {w : World} {a : Option Addr} {n cap : Nat} {ms : List Mk} (h : IsMarks w (.slice a n cap) ms) (k : Nat) (hk : k ≤ n) : IsMarks w (.slice a k cap) (ms.take k) := by
  obtain ⟨a', cap', he, h1, h2, h3⟩ := h
  simp only [Value.slice.injEq] at he
  obtain ⟨rfl, rfl, rfl⟩ := he
  have hl : (ms.take k).length = k := by rw [List.length_take]; omega
  refine ⟨a, cap, by rw [hl], by omega, h2, ?_⟩
  rcases h3 with rfl | ⟨g, off, rfl, hg, hc⟩
  · exact .inl (by simp)
  · by_cases h0 : k = 0
    · exact .inl (by rw [h0]; rfl)
    · refine .inr ⟨g, off, rfl, hg, fun i hi => ?_⟩
      rw [List.getElem_take]
      exact hc i (by omega)
theorem IsMarks.cut {w : World} {g off n cap : Nat} {ms : List Mk} (h : IsMarks w (.slice (some ⟨g, off, none⟩) n cap) ms) (j k : Nat) (hj : j ≤ k) (hk : k ≤ n) : IsMarks w (.slice (some ⟨g, off + j * 5, none⟩) (k - j) (cap - j)) ((ms.take k).drop j) := by
  obtain ⟨a', cap', he, h1, h2, h3⟩ := h
  simp only [Value.slice.injEq] at he
  obtain ⟨rfl, rfl, rfl⟩ := he
  have hl : ((ms.take k).drop j).length = k - j := by rw [List.length_drop, List.length_take]; omega
  refine ⟨some ⟨g, off + j * 5, none⟩, cap - j, by rw [hl], by omega, by omega, ?_⟩
  rcases h3 with rfl | ⟨g', off', he, hg, hc⟩
  · exact .inl (by simp)
  · simp only [Option.some.injEq, Addr.mk.injEq, and_true] at he
    obtain ⟨rfl, rfl⟩ := he
    refine .inr ⟨g, off + j * 5, rfl, hg, fun i hi => ?_⟩
    have := hc (j + i) (by omega)
    rw [show off + j * 5 + i * 5 = off + (j + i) * 5 by omega]
    simp only [List.getElem_drop, List.getElem_take]
    exact this

theorem postL_len (ts : List Tm) : ts.length ≤ (postL ts).length := by
  induction ts with
  | nil => exact Nat.le_refl _
  | cons T ts ih =>
    have e : postL (T :: ts) = T.post ++ postL ts := by simp [postL]
    have := T.post_pos
    rw [e, List.length_append, List.length_cons]; omega

set_option maxHeartbeats 1600000 in
theorem l4Starts_any (pre rest : List Mk) (T : Tm) (v : Value) (en : Int) (w : World) (h : IsMarks w v (pre ++ T.post ++ rest)) (hl : (pre ++ T.post ++ rest).length ≤ 9) (he : en = ((pre.length + T.post.length : Nat) : Int) - 1) :
    Calls Try.prog 104 #[v, .int .i64 en] w fun e w' => e = .returned (.int .i64 (pre.length : Int)) ∧ w = w' := by
  have hpos := T.post_pos
  obtain ⟨a, cap, rfl, ha1, ha2, ha⟩ := h
  have hne : pre ++ T.post ++ rest ≠ [] := fun e => by
    have := congrArg List.length e
    simp only [List.length_append, List.length_nil] at this
    omega
  obtain ⟨g, off, rfl, hg, hc⟩ := ha.resolve_left hne
  unfold maxLen at ha2
  have HC := Lib.hid hc
  have HL := Lib.hid hl
  have hl9 : (pre ++ T.post ++ rest).length ≤ 9 := hl
  have HE : Hid (en = ((pre.length : Int) + (postL [T]).length) - 1) := Lib.hid (by rw [he, postL_one]; omega)
  have HST : Hid (pre ++ T.post ++ rest = pre ++ postL [T] ++ rest) := Lib.hid (by rw [postL_one])
  have hen : 0 ≤ en ∧ en ≤ 8 := by
    simp only [List.length_append] at hl
    omega
  clear hc hl he hne hpos
  generalize pre ++ T.post ++ rest = ms at *
  go_enter Try.func104, Try.ntmps104
  go_wp2_with fail
  go_loopw [5, 6] (fun nv av wr => ∃ (ts : List Tm) (rest' : List Mk) (need a1 : Int), nv = .int .i64 need ∧ av = .int .i64 a1 ∧ need = (ts.length : Int) ∧ a1 = (pre.length : Int) + (postL ts).length - 1 ∧ ms = pre ++ postL ts ++ rest' ∧ wr = w) (fun _ av _ => (intOf av + 1 - (pre.length : Int)).toNat)
  case atStart => exact ⟨[T], rest, 1, en, rfl, rfl, rfl, HE.out, HST.out, rfl⟩
  case round =>
    obtain ⟨ts, rest', need, a1, rfl, rfl, hnd, hat, hms, rfl⟩ := hrel
    have hplen := postL_len ts
    have HND := Lib.hid hnd
    have HAT := Lib.hid hat
    have HMS := Lib.hid hms
    have hmsl : pre.length + (postL ts).length + rest'.length = ms.length := by rw [hms, List.length_append, List.length_append]
    clear HST HE
    by_cases hpos : 0 < need
    · rcases List.eq_nil_or_concat ts with rfl | ⟨ts', T', rfl⟩
      · simp at hnd; omega
      · rw [List.concat_eq_append] at *
        obtain ⟨m, hpe, hcase⟩ := back_one ts' T'
        have HPE := Lib.hid hpe
        have hpl : (postL (ts' ++ [T'])).length = (postL (ts' ++ [T'])).dropLast.length + 1 := by rw [List.length_dropLast]; have := postL_len (ts' ++ [T']); simp at this; omega
        have HPL := Lib.hid hpl
        have hnl : need = (ts'.length : Int) + 1 := by rw [hnd, List.length_append]; simp
        generalize (postL (ts' ++ [T'])).dropLast = q at *
        have hix : pre.length + q.length < ms.length := by omega
        have hgm : ms[pre.length + q.length]? = some m := by
          rw [hms, hpe, List.append_assoc, List.getElem?_append_right (by omega), Nat.add_sub_cancel_left, List.append_assoc, List.getElem?_append_right (by omega), Nat.sub_self]; rfl
        have hgm2 : ms[pre.length + q.length] = m := by rw [List.getElem?_eq_getElem hix] at hgm; exact Option.some.inj hgm
        have hcell := (HC.out (pre.length + q.length) hix).1
        rw [hgm2] at hcell
        have hai : a1 = ((pre.length + q.length : Nat) : Int) := by omega
        have ha0 : 0 ≤ a1 := by omega
        have ham : a1 < (ms.length : Int) := by omega
        have hat2 : a1.toNat = pre.length + q.length := by omega
        have hq1 : IntKind.i64.wrap (a1 - 1) = a1 - 1 := IntWalk.i64_in _ (by omega)
        have hq2 : IntKind.i64.wrap (need - 1) = need - 1 := IntWalk.i64_in _ (by omega)
        have hq3 : IntKind.i64.wrap (need + 1) = need + 1 := IntWalk.i64_in _ (by omega)
        have hMM : ∀ t2 : List Tm, q = postL t2 → (pre.length : Int) + (postL t2).length - 1 = a1 - 1 ∧ ms = pre ++ postL t2 ++ (m :: rest') := fun t2 h => ⟨by rw [← h]; omega, by rw [← h, hms, hpe]; simp⟩
        have HMM := Lib.hid hMM
        have HNL := Lib.hid hnl
        clear hpe hpl hnl hgm hgm2 hMM hnd hat hms hmsl hplen ha0 ham hat2 HPL HPE HAT HMS HND
        have hpx : pre.length ≤ pre.length + q.length := Nat.le_add_right _ _
        generalize hix2 : pre.length + q.length = ix at *
        clear hix2
        subst hai
        rcases hcase with ⟨hk, hq⟩ | ⟨hk, x, hq⟩ | ⟨hk, x, y, hq⟩
        · rw [hk] at hcell
          go_wp2_with fail
          go_roundw
          case rel => exact ⟨ts', m :: rest', need - 1, (ix : Int) - 1, by first | rfl | rw [hq2], by first | rfl | rw [hq1], by have := HNL.out; omega, (HMM.out ts' hq).1.symm, (HMM.out ts' hq).2, by trivial⟩
          case measure => simp [intOf]; omega
        · rw [hk] at hcell
          go_wp2_with fail
          go_roundw
          case rel => exact ⟨ts' ++ [x], m :: rest', need, (ix : Int) - 1, by first | rfl | rw [hq2], by first | rfl | rw [hq1], by have := HNL.out; simp; omega, (HMM.out _ hq).1.symm, (HMM.out _ hq).2, by trivial⟩
          case measure => simp [intOf]; omega
        · have e0 : (m.kind == 0) = false := by rcases hk with h | h <;> rw [h] <;> rfl
          have e3 : (m.kind == 3) = false := by rcases hk with h | h <;> rw [h] <;> rfl
          clear hk
          generalize m.kind = mk at *
          go_wp2_with fail
          go_roundw
          case rel => exact ⟨ts' ++ [x, y], m :: rest', need + 1, (ix : Int) - 1, by first | rfl | rw [hq3], by first | rfl | rw [hq1], by have := HNL.out; simp; omega, (HMM.out _ hq).1.symm, (HMM.out _ hq).2, by trivial⟩
          case measure => simp [intOf]; omega
    · obtain rfl : ts = [] := List.eq_nil_of_length_eq_zero (by omega)
      have ha1 : a1 = (pre.length : Int) - 1 := by rw [hat, postL_nil]; simp
      have hp9 : pre.length ≤ 9 := by omega
      have hq1 : IntKind.i64.wrap (a1 + 1) = (pre.length : Int) := by rw [IntWalk.i64_in _ (by omega)]; omega
      clear hat hms hnd hmsl hplen ha1
      go_wp2_with fail
      go_ret
      exact ⟨rfl, rfl⟩

theorem IsMarks.cells {w : World} {a : Option Addr} {n cap : Nat} {ms : List Mk} (h : IsMarks w (.slice a n cap) ms) (h0 : 0 < ms.length) : ∃ g off : Nat, a = some ⟨g, off, none⟩ ∧ n = ms.length ∧ n ≤ cap ∧ cap ≤ maxLen ∧ g < w.heap.size ∧ ∀ k (h : k < ms.length), markAt w g (off + k * 5) ms[k] := by
  obtain ⟨a', cap', he, h1, h2, h3⟩ := h
  simp only [Value.slice.injEq] at he
  obtain ⟨rfl, rfl, rfl⟩ := he
  obtain ⟨g, off, rfl, hg, hc⟩ := h3.resolve_left (fun e => by rw [e] at h0; exact absurd h0 (Nat.lt_irrefl 0))
  exact ⟨g, off, rfl, rfl, h1, h2, hg, hc⟩
theorem IsMarks.slice {w : World} {v : Value} {ms : List Mk} (h : IsMarks w v ms) : ∃ a n c, v = .slice a n c := by
  obtain ⟨a, cap, rfl, _⟩ := h
  exact ⟨_, _, _, rfl⟩
end Go.Proofs.Ytlbblfbiiceofaa
