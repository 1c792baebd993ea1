/-
  FnExactMachineFor: for every argument that the row lets in, the law of the landed program answers true and leaves its arguments as they were. No further condition.
-/
import Derived.Test.YtgpjckmmleagbaaFrame
import Derived.Test.YtgpjckmmleagbaaReads
import Derived.Test.YtgpjckmmleagbaaForAll
namespace Go.Proofs.Ytgpjckmmleagbaa.fnExactMachineFor
open Go.ChangeShapes Go.WideShapes Go.ChangeAt Go.RowKit
open Go.ChangeMaps (open_string shut_string)
set_option linter.unusedVariables false

set_option maxRecDepth 100000 in
theorem lifted (os : Os) (started : os.Started) (H : Type) (enc : TypeId × Value → H) :
    ReturnsInHanded {} Try.checked os 13 .any (Rows.fnExactMachineForSpec.pre6 enc Try.prog Try.f13 Rows.fnExactMachineForRow.domain false) (Rows.fnExactMachineForSpec.post enc Try.prog Try.f13 false true false false) := by
  refine returnsInHanded_of_change (C := Try.checked) own started (by kernel_rfl) Try.func13
    (ChangeSpec.witness6 (enc := enc) (C := Try.checked) false ⟨#[], #[.agg #[.int .i64 0, .string ByteArray.empty, .string ByteArray.empty, .int .i64 0]], []⟩ 8 (by kernel_rfl) (by kernel_rfl) (by kernel_rfl) (by kernel_rfl)) ?_
  intro W base args ds gs before hval0 hW hcnd _
  have hval : ∀ (j : Nat) t v, Try.f13.params[j]? = some t → args[j]? = some v → Value.okWide Try.prog W .any base t v := hval0
  have hW' := hW
  obtain ⟨p, q, hA0, hV, rfl, hfz, hnd⟩ := hW
  have hA : DataW.TrodAll enc Try.prog W 0 (fun _ => true) true Try.f13.params.toList args.toList ds p := hA0
  rw [Try.params13] at hA hval
  obtain ⟨v0, vs0, d0, ds0, p0, q0, hargs, rfl, rfl, h0, r0⟩ := trodAll_cons hA
  obtain ⟨rfl, rfl, rfl⟩ := trodAll_nil r0
  obtain rfl : args = #[v0] := by cases args; simp_all
  obtain ⟨rfl, rfl⟩ := trodVars_none hV
  have k0 := h0
  have lt0 : ∀ x ∈ p0, x.block < W.heap.size := by obtain ⟨m, hm⟩ := k0; exact DataW.trod_lt m _ _ _ hm
  obtain ⟨c0_0, c0_1, c0_2, c0_3, y0_0, y0_1, y0_2, y0_3, m0, rfl, rfl, pp0, e0_0, e0_1, e0_2, e0_3⟩ := Joins.open_agg4 Try.underlying42 (by kernel_rfl) (by kernel_rfl : Try.prog.cellsOf 42 = 4) (hval 0 42 v0 rfl rfl) h0
  obtain ⟨n0_0, z0_0, _, f0_0⟩ := DataW.trod_int Try.underlying3 e0_0
  simp only [List.cons.injEq, and_true] at z0_0
  subst z0_0
  obtain ⟨n0_1, z0_1, _, f0_1⟩ := DataW.trod_string Try.underlying9 e0_1
  simp only [List.cons.injEq, and_true] at z0_1
  subst z0_1
  obtain ⟨n0_2, z0_2, _, f0_2⟩ := DataW.trod_string Try.underlying9 e0_2
  simp only [List.cons.injEq, and_true] at z0_2
  subst z0_2
  obtain ⟨n0_3, z0_3, _, f0_3⟩ := DataW.trod_int Try.underlying3 e0_3
  simp only [List.cons.injEq, and_true] at z0_3
  subst z0_3
  clear hA0 hval0
  refine (exactMachineFor_walk n0_0 f0_0 n0_1 f0_1 n0_2 f0_2 n0_3 f0_3 (w := W)).mono fun e W' ⟨he, bel⟩ => ?_
  subst he
  exact ⟨_, rfl, _, _, _, [], _, [], hW', trodAll_mk1 (shut_bool Try.underlying4 _), (trodAll_cons_mk (Below.trod laidOut (by kernel_rfl) (of_decide_eq_true (by kernel_rfl)) k0 bel lt0) trodAll_mk0), rfl, bel.frame _, fun h => by cases h⟩

theorem over : Rows.fnExactMachineForRow.holds Try.pinned (OpenSpec.ofChange Rows.fnExactMachineForSpec) :=
  OpenClaim.holds_of_wide 13 Try.f13 rfl rfl rfl rfl rfl rfl rfl ⟨rfl, rfl, rfl, rfl, rfl⟩ rfl rfl rfl rfl rfl (by kernel_rfl) Try.func13 (by kernel_rfl)
    (of_decide_eq_true (by kernel_rfl)) (by unfold Func.isWrapper; first | (rw [if_pos (by decide +kernel)]; kernel_rfl) | (rw [if_neg (by decide +kernel)]; exact ⟨rfl, rfl⟩))
    (fun os started H enc _ => lifted os started H enc)

theorem proved : Rows.FnExactMachineForSaid := over
#print axioms proved
end Go.Proofs.Ytgpjckmmleagbaa.fnExactMachineFor
