/-
  FnExactRightOk: for every argument that the row lets in, the law of the landed program answers true and leaves its arguments as they were. No further condition.
-/
import Derived.Test.YtlbblfbiiceofaaFrame
import Derived.Test.YtlbblfbiiceofaaHeads
import Derived.HandedShaped
import Derived.Test.YtlbblfbiiceofaaReadsM
import Derived.Test.YtlbblfbiiceofaaCkKeep
import Derived.Test.YtlbblfbiiceofaaReads
import Derived.Test.YtlbblfbiiceofaaCkKeep
namespace Go.Proofs.Ytlbblfbiiceofaa.fnExactRightOk
open Go.ChangeShapes Go.WideShapes Go.ChangeAt Go.RowKit
open Go.ChangeMaps (open_string shut_string)
set_option linter.unusedVariables false

set_option maxRecDepth 100000 in
theorem lifted (os : Os) (started : os.Started) (H : Type) (enc : TypeId × Value → H) :
    ReturnsInHanded {} Try.checked os 15 .any (Rows.fnExactRightOkSpec.pre6 enc Try.prog Try.f15 Rows.fnExactRightOkRow.domain false) (Rows.fnExactRightOkSpec.post enc Try.prog Try.f15 false true false false) := by
  refine returnsInHanded_of_change_shaped (C := Try.checked) own started (by kernel_rfl) Try.func15
    (ChangeSpec.witness6 (enc := enc) (C := Try.checked) false ⟨#[], #[.slice none 0 0, .slice none 0 0, .agg #[.int .i64 0, .int .i64 0]], []⟩ 8 (by kernel_rfl) (by kernel_rfl) (by kernel_rfl) (by kernel_rfl)) ?_
  intro W base args ds gs before hval0 hW hcnd _ hsh _
  have hval : ∀ (j : Nat) t v, Try.f15.params[j]? = some t → args[j]? = some v → Value.okWide Try.prog W .any base t v := hval0
  have hW' := hW
  obtain ⟨p, q, hA0, hV, rfl, hfz, hnd⟩ := hW
  have hA : DataW.TrodAll enc Try.prog W 0 (fun _ => true) true Try.f15.params.toList args.toList ds p := hA0
  rw [Try.params15] at hA hval
  obtain ⟨v0, vs0, d0, ds0, p0, q0, hargs, rfl, rfl, h0, r0⟩ := trodAll_cons hA
  obtain ⟨v1, vs1, d1, ds1, p1, q1, rfl, rfl, rfl, h1, r1⟩ := trodAll_cons r0
  obtain ⟨v2, vs2, d2, ds2, p2, q2, rfl, rfl, rfl, h2, r2⟩ := trodAll_cons r1
  obtain ⟨rfl, rfl, rfl⟩ := trodAll_nil r2
  obtain rfl : args = #[v0, v1, v2] := by cases args; simp_all
  obtain ⟨rfl, rfl⟩ := trodVars_none hV
  have k0 := h0
  have lt0 : ∀ x ∈ p0, x.block < W.heap.size := by obtain ⟨m, hm⟩ := k0; exact DataW.trod_lt m _ _ _ hm
  obtain ⟨fuel0, hf0⟩ := h0
  obtain ⟨a0, len0, cap0, rfl⟩ := okWide_slice Try.underlying60 (hval 0 60 v0 rfl rfl)
  obtain ⟨x0, w0, u0⟩ := marks_read Try.underlying60 Try.underlying90 Try.underlying88 Try.underlying3 Try.underlying9 ⟨rfl, rfl, rfl, rfl⟩ ⟨rfl, rfl, rfl, rfl, rfl, rfl, rfl, rfl⟩ (by kernel_rfl) (by kernel_rfl) (by kernel_rfl) (by kernel_rfl) (by simpa [Value.cells] using hf0)
  have k1 := h1
  have lt1 : ∀ x ∈ p1, x.block < W.heap.size := by obtain ⟨m, hm⟩ := k1; exact DataW.trod_lt m _ _ _ hm
  obtain ⟨fuel1, hf1⟩ := h1
  obtain ⟨a1, len1, cap1, rfl⟩ := okWide_slice Try.underlying23 (hval 1 23 v1 rfl rfl)
  obtain ⟨x1, w1, u1⟩ := strs_read Try.underlying23 Try.underlying9 (by kernel_rfl) (by simpa [Value.cells] using hf1)
  have k2 := h2
  have lt2 : ∀ x ∈ p2, x.block < W.heap.size := by obtain ⟨m, hm⟩ := k2; exact DataW.trod_lt m _ _ _ hm
  obtain ⟨c2_0, c2_1, y2_0, y2_1, m2, rfl, rfl, pp2, e2_0, e2_1⟩ := Joins.open_agg2 Try.underlying55 (by kernel_rfl) (by kernel_rfl : Try.prog.cellsOf 55 = 2) (hval 2 55 v2 rfl rfl) h2
  obtain ⟨n2_0, z2_0, _, f2_0⟩ := DataW.trod_int Try.underlying3 e2_0
  simp only [List.cons.injEq, and_true] at z2_0
  subst z2_0
  obtain ⟨n2_1, z2_1, _, f2_1⟩ := DataW.trod_int Try.underlying3 e2_1
  simp only [List.cons.injEq, and_true] at z2_1
  subst z2_1
  clear hA0 hval0
  refine (exactRightOk_walk _ x0 w0 u0 _ x1 w1 u1 n2_0 f2_0 n2_1 f2_1 (maxLen_shaped W hsh) (w := W)).mono fun e W' ⟨he, bel⟩ => ?_
  subst he
  exact ⟨_, rfl, _, _, _, [], _, [], hW', trodAll_mk1 (shut_bool Try.underlying4 _), (trodAll_cons_mk (Below.trod laidOut (by kernel_rfl) (of_decide_eq_true (by kernel_rfl)) k0 bel lt0) (trodAll_cons_mk (Below.trod laidOut (by kernel_rfl) (of_decide_eq_true (by kernel_rfl)) k1 bel lt1) (trodAll_cons_mk (Below.trod laidOut (by kernel_rfl) (of_decide_eq_true (by kernel_rfl)) k2 bel lt2) trodAll_mk0))), rfl, bel.frame _, fun h => by cases h⟩

theorem named : Try.pinned.checked.prog.funcNamed Rows.fnExactRightOkRow.func = some 15 := by kernel_rfl
theorem inst : Try.f15.isInstance Try.pinned.checked.prog Rows.fnExactRightOkRow.origin Rows.fnExactRightOkRow.targs := of_decide_eq_true (by kernel_rfl)
theorem wrap : Try.f15.isWrapper Try.pinned.checked.prog Rows.fnExactRightOkRow.wrapper Rows.fnExactRightOkRow.mainSum := by unfold Func.isWrapper; first | (rw [if_pos (by decide +kernel)]; kernel_rfl) | (rw [if_neg (by decide +kernel)]; exact ⟨rfl, rfl⟩)
set_option maxHeartbeats 4000000 in
theorem closed : joinedFacts Try.pinned.checked.prog 15 Try.f15 Rows.fnExactRightOkSpec Rows.fnExactRightOkRow = true := by
  unfold joinedFacts
  repeat' (with_reducible refine Bool.and_eq_true_iff.2 ⟨?_, ?_⟩)
  rotate_left 25
  exact hdE
  exact hdL _ rfl
  exact hdM _ rfl
  all_goals (as_aux_lemma => kernel_rfl)
theorem over : Rows.fnExactRightOkRow.holds Try.pinned (OpenSpec.ofChange Rows.fnExactRightOkSpec) :=
  OpenClaim.holds_of_wide 15 Try.f15 rfl rfl rfl rfl rfl rfl rfl ⟨rfl, rfl, rfl, rfl, rfl⟩ rfl rfl rfl rfl rfl named Try.func15 closed inst wrap
    (fun os started H enc _ => lifted os started H enc)

theorem proved : Rows.FnExactRightOkSaid := over
#print axioms proved
end Go.Proofs.Ytlbblfbiiceofaa.fnExactRightOk
