/- impl.RunsOf: what it returns, for every text. -/
import Derived.Test.YtdlabljipjfgjaaLongest
namespace Go.Proofs.Ytdlabljipjfgjaa
open Go.RowKit Go.Shelf
attribute [local go_sem] Oper.semAt_some

theorem infoInt : (Try.prog.info? 3).map (fun i => (i.zero, i.size, i.bytes)) = some (some (.int .i64 0), 1, 8) := by kernel_rfl
theorem runsOf_yes {s : ByteArray} (h : wordOk s = true) : runsOf s = (runsL s.data.toList).map (fun p => (p.2 : Int)) := by simp [runsOf, h]
theorem runsOf_no {s : ByteArray} (h : wordOk s = false) : runsOf s = [] := by simp [runsOf, h]
/-- the numbers of runs -/
def nums (xs : List (UInt8 × Nat)) : List Int := xs.map (fun p => (p.2 : Int))
theorem nums_snoc (xs : List (UInt8 × Nat)) (p : UInt8 × Nat) : nums (xs ++ [p]) = nums xs ++ [(p.2 : Int)] := by simp [nums]
theorem nums_length (xs : List (UInt8 × Nat)) : (nums xs).length = xs.length := by simp [nums]

/-- a slice of the call's own, that holds a list of numbers -/
def IntsPost (xs : List Int) (w : World) (e : Ending) (w' : World) : Prop :=
  ∃ v, e = .returned v ∧ w'.ownsRow w.heap.size 3 1 v xs.length (xs.map (Value.int .i64)) ∧ Below w.heap.size w w'

set_option maxRecDepth 100000 in
set_option maxHeartbeats 2000000 in
theorem implRunsOf_yes (s : ByteArray) (w : World) (hs : s.size ≤ 14) (hw : wordOk s = true) :
    Calls Try.prog 24 #[.string s] w (IntsPost (nums (runsL s.data.toList)) w) := by
  have hsm : s.size ≤ maxLen := by unfold maxLen; omega
  obtain ⟨i0, hi, hz0, hz1, hz2⟩ := info_parts infoInt
  refine (callsIn_wide (n := 3)).1 ?_
  refine callsIn_of_wp_marks Try.func24 rfl trivial ?_ rfl
  simp only [Try.ntmps24, List.size_toArray, List.length_cons, List.length_nil, Nat.reduceAdd, Nat.reduceSub, Array.replicate_succ, Array.replicate_zero, List.push_toArray, List.append_toArray, List.nil_append, List.cons_append]
  have HI := Lib.hid hi
  have HZ0 := Lib.hid hz0
  have HZ1 := Lib.hid hz1
  have HZ2 := Lib.hid hz2
  clear hi hz0 hz1 hz2
  gi_wp2_with (first | (refine ⟨trivial, ?_⟩; gi_at_call 12; refine (callsIn_wide.2 (implWordOk_any _ _ hsm)).mono ?_; rintro e w' ⟨rfl, rfl⟩) | (refine ⟨trivial, ?_⟩; gi_at_call 46; refine (callsIn_wide.2 (runsIn_any _ _)).mono ?_; rintro e w' ⟨rfl, rfl⟩))
  have c0 := Boxed.new w 33 (.slice none 0 0)
  have c2 := new_cell (w.alloc (.cells #[.slice none 0 0] 33)) (.string s) 9
  have c2b := Boxed.new (w.alloc (.cells #[.slice none 0 0] 33)) 9 (.string s)
  simp only [World.size_alloc] at c2 c2b
  have hB0 : Below w.heap.size w ((w.alloc (.cells #[.slice none 0 0] 33)).alloc (.cells #[.string s] 9)) := ((Below.refl _ w).alloc (Nat.le_refl _) _).alloc (by simp) _
  refine wpIn_rangeFunc_ownF rfl (by omega) (gf := 52) (lb := #[.pointer (some ⟨w.heap.size + 1, 0, none⟩)]) rfl trivial (enters_of Try.func52 (by kernel_rfl) rfl)
    (runsIn_stops (3 - 1) (by omega) (w.heap.size + 1) s hs _ (by simp) c2.1) (fun h k => BoxKept.trans h k) (boxKept_b (by simp)) (Below.refl _ _) (fun _ => rfl)
    (fun pre W => ((∃ v, Boxed W w.heap.size 33 v ∧ W.ownsRow w.heap.size 3 1 v (nums pre).length ((nums pre).map (Value.int .i64)) ∧ True) ∧ Boxed W (w.heap.size + 1) 9 (.string s)) ∧ Below w.heap.size w W)
    (fun _ _ _ => False)
    (OwnFrom.and (OwnFrom.and (Own.from (holdsRow_own w.heap.size w.heap.size 33 3 1 (fun pre => (nums pre).length) (fun pre => (nums pre).map (Value.int .i64)) (fun _ _ => True)) _) (Own.from (boxed_own _ _ _) _)) (ownFrom_below (Nat.le_refl _) (by simp; omega)))
    (fun _ _ _ _ _ hs _ _ => hs)
    ⟨⟨⟨_, c0.alloc _, World.ownsRow_nil _ _ _ _, trivial⟩, c2b⟩, hB0⟩
    (fun x => { tmps := #[.string s, undef, .slice none 0 0, .pointer (some ⟨w.heap.size, 0, none⟩), undef, .int .i64 (x.2 : Int), .string s, .bool true, .bool false, .string s, .func (.func 52) #[] #[.pointer (some ⟨w.heap.size + 1, 0, none⟩)], .int .u8 (x.1.toNat : Int), .int .i64 (x.2 : Int), undef, undef, undef, undef, undef], defers := [] }) ?assign ?body ?done ?stop
  case assign =>
    intro l x W K hK
    gi_wp2
    exact hK
  case body =>
    rintro l pre x W ⟨⟨⟨v, hv, hrow, _⟩, hx⟩, hB⟩ hlt
    have HX := Lib.hid hx
    clear hx
    have hv1 := hv.cell
    have hle : w.heap.size ≤ W.heap.size := hB.size
    gi_wp2_with (gi_at_builtin; refine wpListIn_append_own _ rfl _ _ 33 rfl w.heap.size 3 i0 (.int .i64 0) 1 8 Try.underlying33 HI.out HZ0.out HZ1.out HZ2.out rfl (by decide) _ _ _ rfl (hrow.alloc _) ⟨W.heap.size, 0, none⟩ 1 1 [.int .i64 (x.2 : Int)] rfl rfl (cell_one_new _ _ _) (by simp [Value.oneCell']) (by rw [nums_length]; unfold maxLen; omega) (by rw [nums_length]; omega) (by simp; omega) ?_; intro v' w1 hown' hgrow _; obtain ⟨g', cap', rfl⟩ := ownsRow_succ hown'; obtain ⟨hvv1, hvv2, hr2, hk2, hb2⟩ := hv.appended (by decide) hrow hB.size (Nat.le_refl _) hown' hgrow; have hc1 := hvv1.cell; have hf1 := hvv1.frozen)
    have hx2 := ((HX.out.alloc (.cells #[.int .i64 (x.2 : Int)] 3)).kept hgrow (HX.out.not_row (by decide) hrow)).kept (grownBy_setCell' w1 w.heap.size (.slice (some ⟨g', 0, none⟩) ((nums pre).length + 1) cap')) (by simp)
    refine ⟨hk2, ?_, ⟨⟨_, hvv2, ?_, trivial⟩, hx2⟩, hB.trans hb2⟩
    · show _ = _
      rw [hx2.cell, HX.out.cell]
    · rw [nums_snoc, List.length_append, List.map_append]
      exact hr2
  case done =>
    rintro D ys W hD rfl ⟨⟨⟨v, hv, hrow, _⟩, hx⟩, hB⟩ hK
    clear hx
    have hv1 := hv.cell
    gi_wp2
    refine ⟨by simp, .inl ⟨_, _, rfl, run_takeDeferred hK, ?_⟩⟩
    exact ⟨_, results_tmp rfl _ _ _, v, rfl, ownsRow_putObj hrow _ hK rfl, hB.trans (belowK_b (w := w) (Nat.le_refl _) W D _ _ (by simp at hD; omega) hK rfl rfl)⟩
  case stop =>
    rintro D c pre W _ _ h _
    exact h.elim
end Go.Proofs.Ytdlabljipjfgjaa
