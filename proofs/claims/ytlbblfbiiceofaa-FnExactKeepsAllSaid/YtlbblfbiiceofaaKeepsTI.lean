/- impl.KeepsTerm: its closure, and itself. No condition. -/
import Derived.Test.YtlbblfbiiceofaaSpecKeepsT
import Derived.Test.YtlbblfbiiceofaaFoldT
namespace Go.Proofs.Ytlbblfbiiceofaa
open Go.RowKit

set_option maxHeartbeats 1600000 in
theorem keepsClos_any (m : Mk) (subs : List Tm) (T : Tm) (hp : Puts m subs T) (hwf : m.wf) (s : ByteArray) (hs : wordOk s = true) (B : Nat) (M : Int) (uv : Value) (W : World) (hu : IsBools W uv (subs.map (Tm.keeps s))) (hB : W.cell? ⟨B, 0, none⟩ = some (.string s)) (hM : W.cell? ⟨0, 0, none⟩ = some (.int .i64 M)) :
    Calls Try.prog 72 #[m.val, uv, .pointer (some ⟨B, 0, none⟩)] W fun e W' => e = .returned (.bool (T.keeps s)) ∧ Below W.heap.size W W' := by
  have h14 := wordOk_size hs
  have hmx : s.size ≤ maxLen := by unfold maxLen; omega
  have hal : ∀ o, Below W.heap.size W (W.alloc o) := fun o => (Below.refl _ _).alloc (Nat.le_refl _) o
  have hBl : B < W.heap.size := World.block_lt_of_cell? W ⟨B, 0, none⟩ hB
  have hMl : 0 < W.heap.size := World.block_lt_of_cell? W ⟨0, 0, none⟩ hM
  have HAL := Lib.hid hal
  cases hp with
  | rule r =>
    obtain ⟨kd, lt, th, mn⟩ := r
    obtain ⟨-, -, w1, w2, -⟩ := hwf
    have hB2 : ∀ o, (W.alloc o).cell? ⟨B, 0, none⟩ = some (.string s) := fun o => (HAL.out o).cell (p := ⟨B, 0, none⟩) hBl |>.trans hB
    have HC := Lib.hid (fun o => implKeeps_any kd lt th mn s M (W.alloc o) w1 w2 hmx ((HAL.out o).cell (p := ⟨0, 0, none⟩) hMl |>.trans hM))
    have HE : Hid (Tm.keeps s (.rule ⟨kd, lt, th, mn⟩) = (Ru.mk kd lt th mn).keeps s) := Lib.hid rfl
    clear hal hmx hu
    show Calls Try.prog _ #[.agg #[.int .i64 0, .int .i64 kd, .string lt, .string th, .int .i64 mn], uv, .pointer (some ⟨B, 0, none⟩)] W _
    go_enter Try.func72, Try.ntmps72
    go_wp2_with fail
    refine (HC.out _).mono ?_
    rintro e w3 ⟨rfl, hb3⟩
    go_wp2_with fail
    go_ret
    exact ⟨ret_bool HE.out.symm, (HAL.out _).trans (hb3.mono (by simp))⟩
  | not a =>
    obtain ⟨ua, un, uc, rfl⟩ := hu.slice
    obtain ⟨g, off, rfl, rfl, hg, hc⟩ := bools_cells3 hu (by simp)
    have hcell := hc 0 (by simp)
    simp only [List.map_cons, List.map_nil, List.getElem_cons_zero, Nat.add_zero] at hcell
    have HE : Hid (Tm.keeps s (.not a) = !a.keeps s) := Lib.hid rfl
    generalize a.keeps s = x at *
    clear hal hmx hu hc hwf hB hM
    show Calls Try.prog _ #[.agg #[.int .i64 3, .int .i64 0, .string ⟨#[]⟩, .string ⟨#[]⟩, .int .i64 0], .slice (some ⟨g, off, none⟩) 1 uc, .pointer (some ⟨B, 0, none⟩)] W _
    go_enter Try.func72, Try.ntmps72
    go_wp2_with fail
    go_ret
    exact ⟨ret_bool HE.out.symm, HAL.out _⟩
  | two o a b =>
    obtain ⟨ua, un, uc, rfl⟩ := hu.slice
    obtain ⟨g, off, rfl, rfl, hg, hc⟩ := bools_cells3 hu (by simp)
    have hcell := hc 0 (by simp)
    have hcell1 := hc 1 (by simp)
    simp only [List.map_cons, List.map_nil, List.getElem_cons_zero, List.getElem_cons_succ, Nat.add_zero] at hcell hcell1
    cases o with
    | true =>
      have HE : Hid (Tm.keeps s (.two true a b) = (a.keeps s || b.keeps s)) := Lib.hid rfl
      generalize a.keeps s = x at *
      generalize b.keeps s = y at *
      clear hal hmx hu hc hwf hB hM
      show Calls Try.prog _ #[.agg #[.int .i64 2, .int .i64 0, .string ⟨#[]⟩, .string ⟨#[]⟩, .int .i64 0], .slice (some ⟨g, off, none⟩) 2 uc, .pointer (some ⟨B, 0, none⟩)] W _
      cases x with
      | true =>
        go_enter Try.func72, Try.ntmps72
        go_wp2_with fail
        go_ret
        exact ⟨ret_bool HE.out.symm, HAL.out _⟩
      | false =>
        go_enter Try.func72, Try.ntmps72
        go_wp2_with fail
        go_ret
        exact ⟨ret_bool (by rw [HE.out]; rfl), HAL.out _⟩
    | false =>
      have HE : Hid (Tm.keeps s (.two false a b) = (a.keeps s && b.keeps s)) := Lib.hid rfl
      generalize a.keeps s = x at *
      generalize b.keeps s = y at *
      clear hal hmx hu hc hwf hB hM
      show Calls Try.prog _ #[.agg #[.int .i64 1, .int .i64 0, .string ⟨#[]⟩, .string ⟨#[]⟩, .int .i64 0], .slice (some ⟨g, off, none⟩) 2 uc, .pointer (some ⟨B, 0, none⟩)] W _
      cases x with
      | true =>
        go_enter Try.func72, Try.ntmps72
        go_wp2_with fail
        go_ret
        exact ⟨ret_bool (by rw [HE.out]; rfl), HAL.out _⟩
      | false =>
        go_enter Try.func72, Try.ntmps72
        go_wp2_with fail
        go_ret
        exact ⟨ret_bool HE.out.symm, HAL.out _⟩

theorem implKeepsTerm_any (ms : List Mk) (hwf : ∀ m ∈ ms, m.wf) (v : Value) (s : ByteArray) (M : Int) (w : World) (h : IsMarks w v ms) (hs : s.size ≤ maxLen) (hM : w.cell? ⟨0, 0, none⟩ = some (.int .i64 M)) :
    Calls Try.prog 36 #[v, .string s] w fun e w' => (∃ b, IsKept ms s b ∧ e = .returned (.bool b)) ∧ Below w.heap.size w w' := by
  have hal : Below w.heap.size w (w.alloc (.cells #[.string s] 9)) := (Below.refl _ _).alloc (Nat.le_refl _) _
  have hMl : 0 < w.heap.size := World.block_lt_of_cell? w ⟨0, 0, none⟩ hM
  have H1 := Lib.hid (implTermOk_any ms hwf v _ (h.below hal))
  have H2 := Lib.hid (fun W => implWordOk_any s W hs)
  have HM := Lib.hid (h.below hal)
  have B1 := Lib.hid hal
  have hc := World.cell?_alloc_new w #[.string s] 9 0
  simp only [List.getElem?_toArray, List.getElem?_cons_zero] at hc
  have hbl : w.heap.size < (w.alloc (.cells #[.string s] 9)).heap.size := by simp
  have HMX := Lib.hid ((hal.cell (p := ⟨0, 0, none⟩) hMl).trans hM)
  have HML := Lib.hid (show 0 < (w.alloc (.cells #[.string s] 9)).heap.size from Nat.lt_trans hMl hbl)
  have HWF := Lib.hid hwf
  clear h hal hM hMl hwf
  obtain ⟨a, n, c, rfl⟩ := HM.out.slice
  go_enter Try.func36, Try.ntmps36
  go_upto_region 1 with fail
  generalize (w.alloc (.cells #[.string s] 9)) = W1 at *
  generalize hR : w.heap.size = R at *
  have HR := Lib.hid hR
  clear hR
  go_wp2_with fail
  refine H1.out.mono ?_
  rintro e w2 ⟨rfl, hb2⟩
  have B2 := Lib.hid (B1.out.trans (hb2.mono (by rw [← HR.out]; exact B1.out.size)))
  have hc2 := (hb2.cell (p := ⟨R, 0, none⟩) hbl).trans hc
  have HM2 := Lib.hid (HM.out.below hb2)
  have HMX2 := Lib.hid ((hb2.cell (p := ⟨0, 0, none⟩) HML.out).trans HMX.out)
  clear hb2 hc hbl
  cases hk : termOk ms with
  | false =>
    go_wp2_with fail
    go_ret
    exact ⟨⟨false, .inr ⟨.inl hk, rfl⟩, rfl⟩, by rw [HR.out]; exact B2.out⟩
  | true =>
    go_wp2_with fail
    refine (H2.out _).mono ?_
    rintro e w3 ⟨rfl, rfl⟩
    cases hw : wordOk s with
    | false =>
      go_wp2_with fail
      go_ret
      exact ⟨⟨false, .inr ⟨.inr hw, rfl⟩, rfl⟩, by rw [HR.out]; exact B2.out⟩
    | true =>
      have hRl : R < w2.heap.size := World.block_lt_of_cell? w2 ⟨R, 0, none⟩ hc2
      have HF := Lib.hid (foldedBool_any ms HWF.out hk s R (.slice a n c) w2 HM2.out (fun m subs T uv W e1 e2 e3 e4 => keepsClos_any m subs T e1 e2 s hw R M uv W e4 ((e3.cell (p := ⟨R, 0, none⟩) hRl).trans hc2) ((e3.cell (p := ⟨0, 0, none⟩) (World.block_lt_of_cell? w2 ⟨0, 0, none⟩ HMX2.out)).trans HMX2.out)))
      have HK := Lib.hid hk
      have HW := Lib.hid hw
      clear hk hw hRl hc2
      go_wp2_with fail
      refine HF.out.mono ?_
      rintro e w4 ⟨⟨T, hg, hp, rfl⟩, hb4⟩
      have HT := Lib.hid (show IsKept ms s (T.keeps s) from .inl ⟨HK.out, HW.out, T, hg, hp, rfl⟩)
      generalize T.keeps s = b at *
      go_wp2_with fail
      go_ret
      exact ⟨⟨b, HT.out, rfl⟩, by rw [HR.out]; exact B2.out.trans (hb4.mono (by rw [← HR.out]; exact B2.out.size))⟩
end Go.Proofs.Ytlbblfbiiceofaa
