/- spec.l5Keeps and spec.KeepsTerm. No condition. -/
import Derived.Test.YtlbblfbiiceofaaStarts
import Derived.Test.YtlbblfbiiceofaaKeepsAny
import Derived.Test.YtlbblfbiiceofaaTermI
namespace Go.Proofs.Ytlbblfbiiceofaa
open Go.RowKit

set_option maxHeartbeats 3200000 in
theorem l5Keeps_any (s : ByteArray) (hs : wordOk s = true) (T : Tm) : ∀ (v : Value) (w : World), IsMarks w v T.post → T.post.length ≤ 9 →
    Calls Try.prog 86 #[v, .string s] w fun e w' => e = .returned (.bool (T.keeps s)) ∧ Below w.heap.size w w' := by
  have h14 := wordOk_size hs
  have hmx : s.size ≤ maxLen := by unfold maxLen; omega
  induction T with
  | rule r =>
    intro v w h hl
    obtain ⟨a, n, c, rfl⟩ := h.slice
    obtain ⟨g, off, rfl, rfl, h1, h2, hg, hc⟩ := h.cells (by simp [Tm.post])
    obtain ⟨c0, c1, c2, c3, c4⟩ := hc 0 (by simp [Tm.post])
    obtain ⟨kd, lt, th, mn⟩ := r
    have HC := Lib.hid (fun W => specKeeps_any kd lt th mn s W hmx)
    have HE : Hid (Tm.keeps s (.rule ⟨kd, lt, th, mn⟩) = (Ru.mk kd lt th mn).keeps s) := Lib.hid rfl
    simp only [Tm.post, List.length_singleton, List.getElem_cons_zero, Nat.zero_mul, Nat.add_zero] at c0 c1 c2 c3 c4 h1 h2
    unfold maxLen at h2
    clear h hc hl
    show Calls Try.prog _ #[.slice (some ⟨g, off, none⟩) 1 c, .string s] w _
    go_enter Try.func86, Try.ntmps86
    go_wp2_with fail
    refine (HC.out _).mono ?_
    rintro e w2 ⟨rfl, hb2⟩
    go_wp2_with fail
    go_ret
    exact ⟨ret_bool HE.out.symm, hb2⟩
  | not a ih =>
    intro v w h hl
    have hpos := a.post_pos
    have hlen : (Tm.not a).post.length = a.post.length + 1 := by simp [Tm.post]
    obtain ⟨va, n, c, rfl⟩ := h.slice
    have HTK := Lib.hid (fun (k : Nat) (hk : k ≤ n) => h.take k hk)
    obtain ⟨g, off, rfl, rfl, h1, h2, hg, hc⟩ := h.cells (by omega)
    have hcell := (hc a.post.length (by omega)).1
    have hm : (Tm.not a).post[a.post.length]'(by omega) = markOf 3 := by simp [Tm.post]
    rw [hm] at hcell
    have htk : (Tm.not a).post.take a.post.length = a.post := by simp [Tm.post]
    have HI := Lib.hid (ih (.slice (some ⟨g, off, none⟩) a.post.length c) w (by have := HTK.out a.post.length (by omega); rwa [htk] at this) (by omega))
    have HE : Hid (Tm.keeps s (.not a) = !a.keeps s) := Lib.hid rfl
    unfold maxLen at h2
    rw [hlen] at *
    have hl8 : a.post.length ≤ 8 := by omega
    clear h hc hm htk HTK ih hlen hl
    simp only [markOf] at hcell
    generalize a.post.length = la at *
    generalize a.keeps s = x at *
    have hq : IntKind.i64.wrap (((la + 1 : Nat) : Int) - 1) = (la : Int) := by rw [IntWalk.i64_in _ (by omega)]; omega
    have hq2 : IntKind.i64.wrap ((la : Int) + 1 - 1) = (la : Int) := by rw [IntWalk.i64_in _ (by omega)]; omega
    go_enter Try.func86, Try.ntmps86
    go_wp2_with fail
    refine HI.out.mono ?_
    rintro e w2 ⟨rfl, hb2⟩
    go_wp2_with fail
    go_ret
    exact ⟨ret_bool HE.out.symm, hb2⟩
  | two o a b iha ihb =>
    intro v w h hl
    have hposa := a.post_pos
    have hposb := b.post_pos
    have hlen : (Tm.two o a b).post.length = a.post.length + b.post.length + 1 := by simp [Tm.post]; omega
    obtain ⟨va, n, c, rfl⟩ := h.slice
    have HTK := Lib.hid (fun (k : Nat) (hk : k ≤ n) => h.take k hk)
    have HH := Lib.hid h
    obtain ⟨g, off, rfl, rfl, h1, h2, hg, hc⟩ := h.cells (by omega)
    have hcell := (hc (a.post.length + b.post.length) (by omega)).1
    have hm : (Tm.two o a b).post[a.post.length + b.post.length]'(by omega) = markOf (if o = true then 2 else 1) := by
      have : (Tm.two o a b).post[a.post.length + b.post.length]? = some (markOf (if o = true then 2 else 1)) := by
        rw [Tm.post, List.getElem?_append_right (by simp)]; simp
      rw [List.getElem?_eq_getElem (by omega)] at this
      exact Option.some.inj this
    rw [hm] at hcell
    have hta : (Tm.two o a b).post.take a.post.length = a.post := by rw [Tm.post, List.append_assoc, List.take_left]
    have htb : ((Tm.two o a b).post.take (a.post.length + b.post.length)).drop a.post.length = b.post := by
      rw [Tm.post, List.take_left' (by simp), List.drop_left]
    have HST := Lib.hid (l4Starts_any a.post [markOf (if o = true then 2 else 1)] b (.slice (some ⟨g, off, none⟩) (Tm.two o a b).post.length c) ((a.post.length : Int) + b.post.length - 1) w HH.out hl (by omega))
    have HIA := Lib.hid (iha (.slice (some ⟨g, off, none⟩) a.post.length c) w (by have := HTK.out a.post.length (by omega); rwa [hta] at this) (by omega))
    have HIB := Lib.hid (fun W (hb : Below w.heap.size w W) => ihb (.slice (some ⟨g, off + a.post.length * 5, none⟩) b.post.length (c - a.post.length)) W (by
      have := (HH.out.cut a.post.length (a.post.length + b.post.length) (by omega) (by omega)).below hb
      rw [htb, Nat.add_sub_cancel_left] at this; exact this) (by omega))
    have HEO : Hid (Tm.keeps s (.two true a b) = (a.keeps s || b.keeps s) ∧ Tm.keeps s (.two false a b) = (a.keeps s && b.keeps s)) := Lib.hid ⟨rfl, rfl⟩
    unfold maxLen at h2
    rw [hlen] at *
    clear HH h hc hm hta htb HTK iha ihb hlen hmx h14
    generalize a.post.length = la at *
    generalize b.post.length = lb at *
    generalize a.keeps s = x at *
    generalize b.keeps s = y at *
    have hq2 : IntKind.i64.wrap ((la : Int) + lb + 1 - 1) = ((la + lb : Nat) : Int) := by rw [IntWalk.i64_in _ (by omega)]; omega
    have hq3 : IntKind.i64.wrap (((la + lb : Nat) : Int) - 1) = (la : Int) + lb - 1 := by rw [IntWalk.i64_in _ (by omega)]; omega
    have hcla : ¬ c = la := by omega
    have hsub : la + lb - la = lb := by omega
    cases o with
    | true =>
      simp only [markOf, if_true] at hcell
      cases x with
      | true =>
        go_enter Try.func86, Try.ntmps86
        go_wp2_with fail
        refine HST.out.mono ?_
        rintro e w2 ⟨rfl, rfl⟩
        go_wp2_with fail
        refine HIA.out.mono ?_
        rintro e w3 ⟨rfl, hb3⟩
        go_wp2_with fail
        go_ret
        exact ⟨ret_bool HEO.out.1.symm, hb3⟩
      | false =>
        go_enter Try.func86, Try.ntmps86
        go_wp2_with fail
        refine HST.out.mono ?_
        rintro e w2 ⟨rfl, rfl⟩
        go_wp2_with fail
        refine HIA.out.mono ?_
        rintro e w3 ⟨rfl, hb3⟩
        go_wp2_with fail
        refine (HIB.out _ hb3).mono ?_
        rintro e w4 ⟨rfl, hb4⟩
        go_wp2_with fail
        go_ret
        exact ⟨ret_bool (by rw [HEO.out.1]; rfl), hb3.trans (hb4.mono hb3.size)⟩
    | false =>
      have hcell : w.cell? ⟨g, off + (la + lb) * 5, none⟩ = some (.int .i64 1) := hcell
      cases x with
      | true =>
        go_enter Try.func86, Try.ntmps86
        go_wp2_with fail
        refine HST.out.mono ?_
        rintro e w2 ⟨rfl, rfl⟩
        go_wp2_with fail
        refine HIA.out.mono ?_
        rintro e w3 ⟨rfl, hb3⟩
        go_wp2_with fail
        refine (HIB.out _ hb3).mono ?_
        rintro e w4 ⟨rfl, hb4⟩
        go_wp2_with fail
        go_ret
        exact ⟨ret_bool (by rw [HEO.out.2]; rfl), hb3.trans (hb4.mono hb3.size)⟩
      | false =>
        go_enter Try.func86, Try.ntmps86
        go_wp2_with fail
        refine HST.out.mono ?_
        rintro e w2 ⟨rfl, rfl⟩
        go_wp2_with fail
        refine HIA.out.mono ?_
        rintro e w3 ⟨rfl, hb3⟩
        go_wp2_with fail
        go_ret
        exact ⟨ret_bool HEO.out.2.symm, hb3⟩

theorem specKeepsTerm_any (ms : List Mk) (v : Value) (s : ByteArray) (w : World) (h : IsMarks w v ms) (hl : ms.length ≤ 1048576) (hs : s.size ≤ maxLen) :
    Calls Try.prog 68 #[v, .string s] w fun e w' => (∃ b, IsKept ms s b ∧ e = .returned (.bool b)) ∧ Below w.heap.size w w' := by
  have H1 := Lib.hid (specTermOk_any ms v w h hl)
  have H2 := Lib.hid (fun W => specWordOk_any s W hs)
  have HM := Lib.hid h
  obtain ⟨a, n, c, rfl⟩ := h.slice
  clear h
  go_enter Try.func68, Try.ntmps68
  go_wp2_with fail
  refine H1.out.mono ?_
  rintro e w2 ⟨rfl, hb2⟩
  have B2 := Lib.hid hb2
  clear hb2
  cases hk : termOk ms with
  | false =>
    go_wp2_with fail
    go_ret
    exact ⟨⟨false, .inr ⟨.inl hk, rfl⟩, rfl⟩, B2.out⟩
  | true =>
    obtain ⟨T, hg, hp, h9⟩ := tree_of hk
    go_wp2_with fail
    refine (H2.out _).mono ?_
    rintro e w3 ⟨rfl, rfl⟩
    cases hw : wordOk s with
    | false =>
      go_wp2_with fail
      go_ret
      exact ⟨⟨false, .inr ⟨.inr hw, rfl⟩, rfl⟩, B2.out⟩
    | true =>
      have HL := Lib.hid (l5Keeps_any s hw T (.slice a n c) w2 (by rw [hp]; exact HM.out.below B2.out) (by rw [hp]; exact h9))
      have HK : Hid (IsKept ms s (T.keeps s)) := Lib.hid (.inl ⟨hk, hw, T, hg, hp, rfl⟩)
      generalize T.keeps s = b at *
      go_wp2_with fail
      refine HL.out.mono ?_
      rintro e w4 ⟨rfl, hb4⟩
      go_wp2_with fail
      go_ret
      exact ⟨⟨b, HK.out, rfl⟩, B2.out.trans (hb4.mono B2.out.size)⟩
end Go.Proofs.Ytlbblfbiiceofaa
