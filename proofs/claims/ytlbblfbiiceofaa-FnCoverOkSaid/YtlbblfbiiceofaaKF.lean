/- spec.l5Machine. No condition. spec.MachineOf. No condition. -/
import Derived.Test.YtlbblfbiiceofaaKE
import Derived.Test.YtlbblfbiiceofaaKC
import Derived.Test.YtlbblfbiiceofaaJJ
import Derived.Deep.CutBlock

namespace Go.Proofs.Ytlbblfbiiceofaa
open Go.RowKit

set_option maxHeartbeats 3200000 in
theorem l5Machine_any (T : Tm) (hg : T.good = true) : ∀ (v : Value) (w : World), IsMarks w v T.post → T.post.length ≤ 9 → Calls Try.prog 109 #[v] w (TmNew T w) := by
  induction T with
  | rule r =>
    intro v w h hl
    obtain ⟨a, n, c, rfl⟩ := h.slice
    obtain ⟨g, off, rfl, rfl, h1, h2, hgl, hc⟩ := h.cells (by simp [Tm.post])
    obtain ⟨c0, c1, c2, c3, c4⟩ := hc 0 (by simp [Tm.post])
    obtain ⟨kd, lt, th, mn⟩ := r
    have hrok : (Ru.mk kd lt th mn).ok = true := hg
    have HC := Lib.hid (fun W => specMachineFor_any kd lt th mn W)
    have HMF := Lib.hid (mf_ok hrok)
    rw [hrok] at HC
    have HTM : Hid (∀ k, IsLmZ (mf ⟨kd, lt, th, mn⟩) k → TmM (.rule ⟨kd, lt, th, mn⟩) k ∧ k.ok = true) := Lib.hid (fun k h => ⟨h, IsLmZ.ok (mf_ok hrok) h⟩)
    generalize mf ⟨kd, lt, th, mn⟩ = mm at *
    simp only [Tm.post, List.length_singleton, List.getElem_cons_zero, Nat.zero_mul, Nat.add_zero] at c0 c1 c2 c3 c4 h1 h2
    unfold maxLen at h2
    have O0 := Lib.hid ((Own.nil w).box #[.int .i64 0, .slice none 0 0, .slice none 0 0] 115)
    have hal : ∀ i, (w.alloc (.cells #[.int .i64 0, .slice none 0 0, .slice none 0 0] 115)).cell? ⟨g, i, none⟩ = w.cell? ⟨g, i, none⟩ := fun i => ((Below.refl w.heap.size w).alloc (Nat.le_refl _) _).cell (p := ⟨g, i, none⟩) hgl
    rw [← hal] at c0 c1 c2 c3 c4
    clear h hc hl hrok hg hal
    show Calls Try.prog _ #[.slice (some ⟨g, off, none⟩) 1 c] w _
    go_enter Try.func109, Try.ntmps109
    go_upto_region 1 with fail
    generalize hW0 : (w.alloc (.cells #[.int .i64 0, .slice none 0 0, .slice none 0 0] 115)) = W0 at *
    clear hW0
    generalize hR : w.heap.size = R at *
    have HR := Lib.hid hR
    clear hR
    go_wp2_with fail
    refine (HC.out _).mono ?_
    rintro e w2 ⟨a1, a2, d1, d2, rfl, hA2, hb2⟩
    have O2 := Lib.hid (O0.out.join hA2 hb2)
    have O3 := Lib.hid (O2.out.box #[.int .i64 mm.st, .slice a1 mm.next.length d1, .slice a2 mm.ends.length d2] 115)
    clear hA2 hb2 c0 c1 c2 c3 c4
    go_upto_region 5 with fail
    generalize hW3 : (w2.alloc (.cells #[.int .i64 mm.st, .slice a1 mm.next.length d1, .slice a2 mm.ends.length d2] 115)) = W3 at *
    clear hW3
    generalize w2.heap.size = B3 at *
    have b0 := cellsT_cell (O3.out.cells 0 (by simp) rfl) 0
    have b1 := cellsT_cell (O3.out.cells 0 (by simp) rfl) 1
    have b2 := cellsT_cell (O3.out.cells 0 (by simp) rfl) 2
    simp only [List.getElem?_toArray, List.getElem?_cons_succ, List.getElem?_cons_zero] at b0 b1 b2
    go_wp2_with fail
    refine (specLeastZ mm _ _ _ (O3.out.ints 1 (by simp) rfl) (O3.out.bools 2 (by simp) rfl) (M.ok_wf HMF.out)).mono ?_
    rintro e w4 ⟨k, hk, a3, a4, d3, d4, rfl, hA4, hb4⟩
    have O4 := Lib.hid (O3.out.join hA4 hb4)
    have HK := Lib.hid (HTM.out k hk)
    have z0 := cellsT_cell (O4.out.cells 5 (by simp) rfl) 0
    have z1 := cellsT_cell (O4.out.cells 5 (by simp) rfl) 1
    have z2 := cellsT_cell (O4.out.cells 5 (by simp) rfl) 2
    have zf := cellsT_frozen (O4.out.cells 5 (by simp) rfl)
    simp only [List.getElem?_toArray, List.getElem?_cons_succ, List.getElem?_cons_zero] at z0 z1 z2
    clear hA4 hb4 b0 b1 b2 hk
    go_wp2_with fail
    obtain ⟨f1, f2, r0, r1, r2⟩ := O4.out.fin (us := rowsM k (.slice a3 k.next.length d3) (.slice a4 k.ends.length d4)) 5 (by simp) rfl (List.Sublist.cons_cons _ (List.Sublist.cons_cons _ (List.nil_sublist _))) (x := .int .i64 k.st) (y := .slice a3 k.next.length d3) (z := .slice a4 k.ends.length d4) rfl
    have HF := Lib.hid (And.intro f1 f2)
    clear f1 f2 z0 z1 z2 zf
    generalize (((w4.setCell ⟨R, 0, none⟩ (.int .i64 k.st)).setCell ⟨R, 1, none⟩ (.slice a3 k.next.length d3)).setCell ⟨R, 2, none⟩ (.slice a4 k.ends.length d4)) = WE at *
    refine bodyPost_ret (v := .tuple #[.agg #[.int .i64 k.st, .slice a3 k.next.length d3, .slice a4 k.ends.length d4], .bool true]) ?_ rfl ⟨k, a3, a4, d3, d4, HK.out.1, by rw [HK.out.2], HF.out.1, HF.out.2⟩
    simp [results, Try.results109, go_sem, r0, r1, r2]
  | not a ih =>
    intro v w h hl
    have hga : a.good = true := hg
    have hpos := a.post_pos
    have hlen : (Tm.not a).post.length = a.post.length + 1 := by simp [Tm.post]
    obtain ⟨va, n, c, rfl⟩ := h.slice
    have HTK := Lib.hid (fun (k : Nat) (hk : k ≤ n) => h.take k hk)
    obtain ⟨g, off, rfl, rfl, h1, h2, hgl, hc⟩ := h.cells (by omega)
    have hcell := (hc a.post.length (by omega)).1
    have hm : (Tm.not a).post[a.post.length]'(by omega) = markOf 3 := by simp [Tm.post]
    rw [hm] at hcell
    have htk : (Tm.not a).post.take a.post.length = a.post := by simp [Tm.post]
    have HI := Lib.hid (fun W (hb : Below w.heap.size w W) => ih hga (.slice (some ⟨g, off, none⟩) a.post.length c) W (by have := (HTK.out a.post.length (by omega)).below hb; rwa [htk] at this) (by omega))
    have HTM : Hid (∀ m k b, TmM a m → IsJoin m.ok (fun u => !m.lang 0 u) k b → TmM (.not a) k ∧ k.ok = b ∧ (m.ok = false → b = false)) := Lib.hid (fun m k b h1 h2 => ⟨⟨m, b, h1, h2⟩, h2.ok_eq, fun ho => (h2.no ho).1⟩)
    have HWF := Lib.hid (fun m (h : TmM a m) => h.wf hga)
    unfold maxLen at h2
    rw [hlen] at *
    have hl8 : a.post.length ≤ 8 := by omega
    have O0 := Lib.hid ((Own.nil w).box #[.int .i64 0, .slice none 0 0, .slice none 0 0] 115)
    have hal : (w.alloc (.cells #[.int .i64 0, .slice none 0 0, .slice none 0 0] 115)).cell? ⟨g, off + a.post.length * 5, none⟩ = w.cell? ⟨g, off + a.post.length * 5, none⟩ := ((Below.refl w.heap.size w).alloc (Nat.le_refl _) _).cell (p := ⟨g, off + a.post.length * 5, none⟩) hgl
    simp only [markOf] at hcell
    rw [← hal] at hcell
    clear h hc hm htk HTK ih hlen hl hal hg hga
    generalize a.post.length = la at *
    have hq : IntKind.i64.wrap (((la + 1 : Nat) : Int) - 1) = (la : Int) := by rw [IntWalk.i64_in _ (by omega)]; omega
    have hq2 : IntKind.i64.wrap ((la : Int) + 1 - 1) = (la : Int) := by rw [IntWalk.i64_in _ (by omega)]; omega
    go_enter Try.func109, Try.ntmps109
    go_upto_region 1 with fail
    generalize hW0 : (w.alloc (.cells #[.int .i64 0, .slice none 0 0, .slice none 0 0] 115)) = W0 at *
    clear hW0
    generalize hR : w.heap.size = R at *
    have HR := Lib.hid hR
    go_wp2_with fail
    refine (HI.out _ (by rw [← hR]; exact O0.out.keep)).mono ?_
    rintro e w2 ⟨m, a1, a2, d1, d2, hm, rfl, hA2, hb2⟩
    have O2 := Lib.hid (O0.out.join hA2 hb2)
    have O3 := Lib.hid (O2.out.box #[.int .i64 m.st, .slice a1 m.next.length d1, .slice a2 m.ends.length d2] 115)
    have HM := Lib.hid hm
    clear hA2 hb2 hcell hR hm
    go_upto_region 8 with fail
    generalize hW3 : (w2.alloc (.cells #[.int .i64 m.st, .slice a1 m.next.length d1, .slice a2 m.ends.length d2] 115)) = W3 at *
    clear hW3
    generalize w2.heap.size = B3 at *
    have b0 := cellsT_cell (O3.out.cells 0 (by simp) rfl) 0
    have b1 := cellsT_cell (O3.out.cells 0 (by simp) rfl) 1
    have b2 := cellsT_cell (O3.out.cells 0 (by simp) rfl) 2
    simp only [List.getElem?_toArray, List.getElem?_cons_succ, List.getElem?_cons_zero] at b0 b1 b2
    go_wp2_with fail
    refine (specNot_any m _ _ _ (O3.out.ints 1 (by simp) rfl) (O3.out.bools 2 (by simp) rfl) (HWF.out m HM.out)).mono ?_
    rintro e w4 ⟨k, r, a3, a4, d3, d4, hj, rfl, hA4, hb4⟩
    have O4 := Lib.hid (O3.out.join hA4 hb4)
    have HK := Lib.hid (HTM.out m k r HM.out hj)
    have O5 := Lib.hid (O4.out.box #[.int .i64 k.st, .slice a3 k.next.length d3, .slice a4 k.ends.length d4] 115)
    clear hA4 hb4 b0 b1 b2 hj
    go_upto_region 9 with fail
    generalize hW5 : (w4.alloc (.cells #[.int .i64 k.st, .slice a3 k.next.length d3, .slice a4 k.ends.length d4] 115)) = W5 at *
    clear hW5
    generalize w4.heap.size = B5 at *
    have b0 := cellsT_cell (O5.out.cells 0 (by simp) rfl) 0
    have b1 := cellsT_cell (O5.out.cells 0 (by simp) rfl) 1
    have b2 := cellsT_cell (O5.out.cells 0 (by simp) rfl) 2
    have z0 := cellsT_cell (O5.out.cells 6 (by simp) rfl) 0
    have z1 := cellsT_cell (O5.out.cells 6 (by simp) rfl) 1
    have z2 := cellsT_cell (O5.out.cells 6 (by simp) rfl) 2
    have zf := cellsT_frozen (O5.out.cells 6 (by simp) rfl)
    simp only [List.getElem?_toArray, List.getElem?_cons_succ, List.getElem?_cons_zero] at z0 z1 z2 b0 b1 b2
    obtain ⟨f1, f2, r0, r1, r2⟩ := O5.out.fin (us := rowsM k (.slice a3 k.next.length d3) (.slice a4 k.ends.length d4)) 6 (by simp) rfl (List.Sublist.cons _ (List.Sublist.cons_cons _ (List.Sublist.cons_cons _ (List.nil_sublist _)))) (x := .int .i64 k.st) (y := .slice a3 k.next.length d3) (z := .slice a4 k.ends.length d4) rfl
    have HF := Lib.hid (And.intro f1 f2)
    clear f1 f2
    have HKO := Lib.hid HK.out.2.1
    cases hmo : m.ok with
    | true =>
      rw [hmo] at *
      go_wp2_with fail
      generalize (((W5.setCell ⟨R, 0, none⟩ (.int .i64 k.st)).setCell ⟨R, 1, none⟩ (.slice a3 k.next.length d3)).setCell ⟨R, 2, none⟩ (.slice a4 k.ends.length d4)) = WE at *
      refine bodyPost_ret (v := .tuple #[.agg #[.int .i64 k.st, .slice a3 k.next.length d3, .slice a4 k.ends.length d4], .bool r]) ?_ rfl ⟨k, a3, a4, d3, d4, HK.out.1, by rw [HKO.out], HF.out.1, HF.out.2⟩
      simp [results, Try.results109, go_sem, r0, r1, r2]
    | false =>
      have hrf := HK.out.2.2 hmo
      subst hrf
      rw [hmo] at *
      go_wp2_with fail
      generalize (((W5.setCell ⟨R, 0, none⟩ (.int .i64 k.st)).setCell ⟨R, 1, none⟩ (.slice a3 k.next.length d3)).setCell ⟨R, 2, none⟩ (.slice a4 k.ends.length d4)) = WE at *
      refine bodyPost_ret (v := .tuple #[.agg #[.int .i64 k.st, .slice a3 k.next.length d3, .slice a4 k.ends.length d4], .bool false]) ?_ rfl ⟨k, a3, a4, d3, d4, HK.out.1, by rw [HKO.out], HF.out.1, HF.out.2⟩
      simp [results, Try.results109, go_sem, r0, r1, r2]
  | two o a b iha ihb =>
    intro v w h hl
    have hgab : a.good = true ∧ b.good = true := by simpa [Tm.good] using hg
    have hposa := a.post_pos
    have hposb := b.post_pos
    have hlen : (Tm.two o a b).post.length = a.post.length + b.post.length + 1 := by simp [Tm.post]; omega
    obtain ⟨va, n, c, rfl⟩ := h.slice
    have HTK := Lib.hid (fun (k : Nat) (hk : k ≤ n) => h.take k hk)
    have HH := Lib.hid h
    obtain ⟨g, off, rfl, rfl, h1, h2, hgl, hc⟩ := h.cells (by omega)
    have hcell := (hc (a.post.length + b.post.length) (by omega)).1
    have hm : (Tm.two o a b).post[a.post.length + b.post.length]'(by omega) = markOf (if o = true then 2 else 1) := by
      have : (Tm.two o a b).post[a.post.length + b.post.length]? = some (markOf (if o = true then 2 else 1)) := by
        rw [Tm.post, List.getElem?_append_right (by simp)]; simp
      rw [List.getElem?_eq_getElem (by omega)] at this
      exact Option.some.inj this
    rw [hm] at hcell
    have hta : (Tm.two o a b).post.take a.post.length = a.post := by rw [Tm.post, List.append_assoc, List.take_left]
    have htb : ((Tm.two o a b).post.take (a.post.length + b.post.length)).drop a.post.length = b.post := by
      rw [Tm.post, List.take_left' (by simp), List.drop_left]
    have HST := Lib.hid (fun W (hb : Below w.heap.size w W) => l4Starts_any a.post [markOf (if o = true then 2 else 1)] b (.slice (some ⟨g, off, none⟩) (Tm.two o a b).post.length c) ((a.post.length : Int) + b.post.length - 1) W (HH.out.below hb) hl (by omega))
    have HIA := Lib.hid (fun W (hb : Below w.heap.size w W) => iha hgab.1 (.slice (some ⟨g, off, none⟩) a.post.length c) W (by have := (HTK.out a.post.length (by omega)).below hb; rwa [hta] at this) (by omega))
    have HIB := Lib.hid (fun W (hb : Below w.heap.size w W) => ihb hgab.2 (.slice (some ⟨g, off + a.post.length * 5, none⟩) b.post.length (c - a.post.length)) W (by
      have := (HH.out.cut a.post.length (a.post.length + b.post.length) (by omega) (by omega)).below hb
      rw [htb, Nat.add_sub_cancel_left] at this; exact this) (by omega))
    have HCE := Lib.hid (fun W (hb : Below w.heap.size w W) => (hb.cell (p := ⟨g, off + (a.post.length + b.post.length) * 5, none⟩) hgl).trans hcell)
    have HTT : Hid (∀ k l m r, TmM a k → TmM b l → IsJoin (k.ok && l.ok) (fun u => k.lang 0 u || l.lang 0 u) m r → TmM (.two true a b) m ∧ m.ok = r) := Lib.hid (fun k l m r h1 h2 h3 => ⟨⟨k, l, r, h1, h2, h3⟩, h3.ok_eq⟩)
    have HTF : Hid (∀ k l m r, TmM a k → TmM b l → IsJoin (k.ok && l.ok) (fun u => k.lang 0 u && l.lang 0 u) m r → TmM (.two false a b) m ∧ m.ok = r) := Lib.hid (fun k l m r h1 h2 h3 => ⟨⟨k, l, r, h1, h2, h3⟩, h3.ok_eq⟩)
    have HWA := Lib.hid (fun m (h : TmM a m) => h.wf hgab.1)
    have HWB := Lib.hid (fun m (h : TmM b m) => h.wf hgab.2)
    unfold maxLen at h2
    rw [hlen] at *
    have O0 := Lib.hid ((Own.nil w).box #[.int .i64 0, .slice none 0 0, .slice none 0 0] 115)
    clear HH h hc hm hta htb HTK iha ihb hlen hcell hg hgab
    generalize a.post.length = la at *
    generalize b.post.length = lb at *
    have hq2 : IntKind.i64.wrap ((la : Int) + lb + 1 - 1) = ((la + lb : Nat) : Int) := by rw [IntWalk.i64_in _ (by omega)]; omega
    have hq3 : IntKind.i64.wrap (((la + lb : Nat) : Int) - 1) = (la : Int) + lb - 1 := by rw [IntWalk.i64_in _ (by omega)]; omega
    have hcla : ¬ c = la := by omega
    have hsub : la + lb - la = lb := by omega
    cases o with
    | true =>
      have HCK : Hid (∀ W, Below w.heap.size w W → W.cell? ⟨g, off + (la + lb) * 5, none⟩ = some (.int .i64 2)) := Lib.hid (fun W hb => HCE.out W hb)
      go_enter Try.func109, Try.ntmps109
      go_upto_region 1 with fail
      generalize hW0 : (w.alloc (.cells #[.int .i64 0, .slice none 0 0, .slice none 0 0] 115)) = W0 at *
      clear hW0
      have BW := Lib.hid O0.out.keep
      have hcell := HCK.out _ BW.out
      have HSTW := Lib.hid (HST.out _ BW.out)
      have HIAW := Lib.hid (HIA.out _ BW.out)
      generalize hR : w.heap.size = R at *
      go_wp2_with fail
      refine HSTW.out.mono ?_
      rintro e w1 ⟨rfl, rfl⟩
      go_wp2_with fail
      refine HIAW.out.mono ?_
      rintro e w2 ⟨m, a1, a2, d1, d2, hm, rfl, hA2, hb2⟩
      have O2 := Lib.hid (O0.out.join hA2 hb2)
      have O3 := Lib.hid (O2.out.box #[.int .i64 m.st, .slice a1 m.next.length d1, .slice a2 m.ends.length d2] 115)
      have HM := Lib.hid hm
      clear hA2 hb2 hcell hm
      go_upto_region 12 with fail
      generalize hW3 : (w2.alloc (.cells #[.int .i64 m.st, .slice a1 m.next.length d1, .slice a2 m.ends.length d2] 115)) = W3 at *
      clear hW3
      generalize w2.heap.size = B3 at *
      have HIBW := Lib.hid (HIB.out _ (by rw [← hR]; exact O3.out.keep))
      go_wp2_with fail
      refine HIBW.out.mono ?_
      rintro e w4 ⟨k, a3, a4, d3, d4, hk, rfl, hA4, hb4⟩
      have O4 := Lib.hid (O3.out.join hA4 hb4)
      have O5 := Lib.hid (O4.out.box #[.int .i64 k.st, .slice a3 k.next.length d3, .slice a4 k.ends.length d4] 115)
      have HK := Lib.hid hk
      clear hA4 hb4 hk
      go_upto_region 13 with fail
      generalize hW5 : (w4.alloc (.cells #[.int .i64 k.st, .slice a3 k.next.length d3, .slice a4 k.ends.length d4] 115)) = W5 at *
      clear hW5
      generalize w4.heap.size = B5 at *
      have hcell := HCK.out _ (by rw [← hR]; exact O5.out.keep)
      have HR := Lib.hid hR
      clear hR
      have b0 := cellsT_cell (O5.out.cells 0 (by simp) rfl) 0
      have b1 := cellsT_cell (O5.out.cells 0 (by simp) rfl) 1
      have b2 := cellsT_cell (O5.out.cells 0 (by simp) rfl) 2
      have e0 := cellsT_cell (O5.out.cells 3 (by simp) rfl) 0
      have e1 := cellsT_cell (O5.out.cells 3 (by simp) rfl) 1
      have e2 := cellsT_cell (O5.out.cells 3 (by simp) rfl) 2
      have z0 := cellsT_cell (O5.out.cells 6 (by simp) rfl) 0
      have z1 := cellsT_cell (O5.out.cells 6 (by simp) rfl) 1
      have z2 := cellsT_cell (O5.out.cells 6 (by simp) rfl) 2
      have zf := cellsT_frozen (O5.out.cells 6 (by simp) rfl)
      simp only [List.getElem?_toArray, List.getElem?_cons_succ, List.getElem?_cons_zero] at z0 z1 z2 b0 b1 b2 e0 e1 e2
      cases hmk : (m.ok && k.ok) with
      | false =>
        have HZ := Lib.hid (HTT.out m k ⟨0, [], []⟩ false HM.out HK.out (by rw [hmk]; exact zero_join))
        obtain ⟨f1, f2, r0, r1, r2⟩ := O5.out.fin (us := []) 6 (by simp) rfl (List.nil_sublist _) (x := .int .i64 0) (y := .slice none 0 0) (z := .slice none 0 0) rfl
        have HF := Lib.hid (And.intro ((f1.idle (rowT 4 1 (.slice none 0 0) 0 []) (World.ownsRow_nil _ _ _ _) rfl).idle (rowT 3 1 (.slice none 0 0) 0 []) (World.ownsRow_nil _ _ _ _) rfl) f2)
        clear f1 f2
        cases hmo : m.ok with
        | false =>
          clear hmk
          rw [hmo] at *
          go_wp2_with fail
          generalize (((W5.setCell ⟨R, 0, none⟩ (.int .i64 0)).setCell ⟨R, 1, none⟩ (.slice none 0 0)).setCell ⟨R, 2, none⟩ (.slice none 0 0)) = WE at *
          refine bodyPost_ret (v := .tuple #[.agg #[.int .i64 0, .slice none 0 0, .slice none 0 0], .bool false]) ?_ rfl ⟨⟨0, [], []⟩, none, none, 0, 0, HZ.out.1, rfl, HF.out.1, HF.out.2⟩
          simp [results, Try.results109, go_sem, r0, r1, r2]
        | true =>
          have hko : k.ok = false := by rw [hmo, Bool.true_and] at hmk; exact hmk
          clear hmk
          rw [hmo, hko] at *
          go_wp2_with fail
          generalize (((W5.setCell ⟨R, 0, none⟩ (.int .i64 0)).setCell ⟨R, 1, none⟩ (.slice none 0 0)).setCell ⟨R, 2, none⟩ (.slice none 0 0)) = WE at *
          refine bodyPost_ret (v := .tuple #[.agg #[.int .i64 0, .slice none 0 0, .slice none 0 0], .bool false]) ?_ rfl ⟨⟨0, [], []⟩, none, none, 0, 0, HZ.out.1, rfl, HF.out.1, HF.out.2⟩
          simp [results, Try.results109, go_sem, r0, r1, r2]
      | true =>
        have hmko : m.ok = true ∧ k.ok = true := by simpa using hmk
        obtain ⟨hmo, hko⟩ := hmko
        have HMK := Lib.hid hmk
        have HJN := Lib.hid (specEither_any m k (.slice a1 m.next.length d1) (.slice a2 m.ends.length d2) (.slice a3 k.next.length d3) (.slice a4 k.ends.length d4) W5 (O5.out.ints 4 (by simp) rfl) (O5.out.bools 5 (by simp) rfl) (O5.out.ints 1 (by simp) rfl) (O5.out.bools 2 (by simp) rfl) (HWA.out m HM.out) (HWB.out k HK.out))
        have HTN := Lib.hid (fun x r h => HTT.out m k x r HM.out HK.out h)
        clear hmk
        rw [hmo, hko] at *
        go_wp2_with fail
        refine HJN.out.mono ?_
        rintro e w6 ⟨x, r, a5, a6, d5, d6, hj, rfl, hA6, hb6⟩
        have O6 := Lib.hid (O5.out.join hA6 hb6)
        have HX := Lib.hid (HTN.out x r hj)
        have HXO := Lib.hid HX.out.2
        clear z0 z1 z2 zf b0 b1 b2 e0 e1 e2 hcell hA6 hb6 hj
        have z0 := cellsT_cell (O6.out.cells 8 (by simp) rfl) 0
        have z1 := cellsT_cell (O6.out.cells 8 (by simp) rfl) 1
        have z2 := cellsT_cell (O6.out.cells 8 (by simp) rfl) 2
        have zf := cellsT_frozen (O6.out.cells 8 (by simp) rfl)
        simp only [List.getElem?_toArray, List.getElem?_cons_succ, List.getElem?_cons_zero] at z0 z1 z2
        obtain ⟨f1, f2, r0, r1, r2⟩ := O6.out.fin (us := rowsM x (.slice a5 x.next.length d5) (.slice a6 x.ends.length d6)) 8 (by simp) rfl (List.Sublist.cons_cons _ (List.Sublist.cons_cons _ (List.nil_sublist _))) (x := .int .i64 x.st) (y := .slice a5 x.next.length d5) (z := .slice a6 x.ends.length d6) rfl
        have HF := Lib.hid (And.intro f1 f2)
        clear f1 f2
        go_wp2_with fail
        generalize (((w6.setCell ⟨R, 0, none⟩ (.int .i64 x.st)).setCell ⟨R, 1, none⟩ (.slice a5 x.next.length d5)).setCell ⟨R, 2, none⟩ (.slice a6 x.ends.length d6)) = WE at *
        refine bodyPost_ret (v := .tuple #[.agg #[.int .i64 x.st, .slice a5 x.next.length d5, .slice a6 x.ends.length d6], .bool r]) ?_ rfl ⟨x, a5, a6, d5, d6, HX.out.1, by rw [HXO.out], HF.out.1, HF.out.2⟩
        simp [results, Try.results109, go_sem, r0, r1, r2]
    | false =>
      have HCK : Hid (∀ W, Below w.heap.size w W → W.cell? ⟨g, off + (la + lb) * 5, none⟩ = some (.int .i64 1)) := Lib.hid (fun W hb => HCE.out W hb)
      go_enter Try.func109, Try.ntmps109
      go_upto_region 1 with fail
      generalize hW0 : (w.alloc (.cells #[.int .i64 0, .slice none 0 0, .slice none 0 0] 115)) = W0 at *
      clear hW0
      have BW := Lib.hid O0.out.keep
      have hcell := HCK.out _ BW.out
      have HSTW := Lib.hid (HST.out _ BW.out)
      have HIAW := Lib.hid (HIA.out _ BW.out)
      generalize hR : w.heap.size = R at *
      go_wp2_with fail
      refine HSTW.out.mono ?_
      rintro e w1 ⟨rfl, rfl⟩
      go_wp2_with fail
      refine HIAW.out.mono ?_
      rintro e w2 ⟨m, a1, a2, d1, d2, hm, rfl, hA2, hb2⟩
      have O2 := Lib.hid (O0.out.join hA2 hb2)
      have O3 := Lib.hid (O2.out.box #[.int .i64 m.st, .slice a1 m.next.length d1, .slice a2 m.ends.length d2] 115)
      have HM := Lib.hid hm
      clear hA2 hb2 hcell hm
      go_upto_region 12 with fail
      generalize hW3 : (w2.alloc (.cells #[.int .i64 m.st, .slice a1 m.next.length d1, .slice a2 m.ends.length d2] 115)) = W3 at *
      clear hW3
      generalize w2.heap.size = B3 at *
      have HIBW := Lib.hid (HIB.out _ (by rw [← hR]; exact O3.out.keep))
      go_wp2_with fail
      refine HIBW.out.mono ?_
      rintro e w4 ⟨k, a3, a4, d3, d4, hk, rfl, hA4, hb4⟩
      have O4 := Lib.hid (O3.out.join hA4 hb4)
      have O5 := Lib.hid (O4.out.box #[.int .i64 k.st, .slice a3 k.next.length d3, .slice a4 k.ends.length d4] 115)
      have HK := Lib.hid hk
      clear hA4 hb4 hk
      go_upto_region 13 with fail
      generalize hW5 : (w4.alloc (.cells #[.int .i64 k.st, .slice a3 k.next.length d3, .slice a4 k.ends.length d4] 115)) = W5 at *
      clear hW5
      generalize w4.heap.size = B5 at *
      have hcell := HCK.out _ (by rw [← hR]; exact O5.out.keep)
      have HR := Lib.hid hR
      clear hR
      have b0 := cellsT_cell (O5.out.cells 0 (by simp) rfl) 0
      have b1 := cellsT_cell (O5.out.cells 0 (by simp) rfl) 1
      have b2 := cellsT_cell (O5.out.cells 0 (by simp) rfl) 2
      have e0 := cellsT_cell (O5.out.cells 3 (by simp) rfl) 0
      have e1 := cellsT_cell (O5.out.cells 3 (by simp) rfl) 1
      have e2 := cellsT_cell (O5.out.cells 3 (by simp) rfl) 2
      have z0 := cellsT_cell (O5.out.cells 6 (by simp) rfl) 0
      have z1 := cellsT_cell (O5.out.cells 6 (by simp) rfl) 1
      have z2 := cellsT_cell (O5.out.cells 6 (by simp) rfl) 2
      have zf := cellsT_frozen (O5.out.cells 6 (by simp) rfl)
      simp only [List.getElem?_toArray, List.getElem?_cons_succ, List.getElem?_cons_zero] at z0 z1 z2 b0 b1 b2 e0 e1 e2
      cases hmk : (m.ok && k.ok) with
      | false =>
        have HZ := Lib.hid (HTF.out m k ⟨0, [], []⟩ false HM.out HK.out (by rw [hmk]; exact zero_join))
        obtain ⟨f1, f2, r0, r1, r2⟩ := O5.out.fin (us := []) 6 (by simp) rfl (List.nil_sublist _) (x := .int .i64 0) (y := .slice none 0 0) (z := .slice none 0 0) rfl
        have HF := Lib.hid (And.intro ((f1.idle (rowT 4 1 (.slice none 0 0) 0 []) (World.ownsRow_nil _ _ _ _) rfl).idle (rowT 3 1 (.slice none 0 0) 0 []) (World.ownsRow_nil _ _ _ _) rfl) f2)
        clear f1 f2
        cases hmo : m.ok with
        | false =>
          clear hmk
          rw [hmo] at *
          go_wp2_with fail
          generalize (((W5.setCell ⟨R, 0, none⟩ (.int .i64 0)).setCell ⟨R, 1, none⟩ (.slice none 0 0)).setCell ⟨R, 2, none⟩ (.slice none 0 0)) = WE at *
          refine bodyPost_ret (v := .tuple #[.agg #[.int .i64 0, .slice none 0 0, .slice none 0 0], .bool false]) ?_ rfl ⟨⟨0, [], []⟩, none, none, 0, 0, HZ.out.1, rfl, HF.out.1, HF.out.2⟩
          simp [results, Try.results109, go_sem, r0, r1, r2]
        | true =>
          have hko : k.ok = false := by rw [hmo, Bool.true_and] at hmk; exact hmk
          clear hmk
          rw [hmo, hko] at *
          go_wp2_with fail
          generalize (((W5.setCell ⟨R, 0, none⟩ (.int .i64 0)).setCell ⟨R, 1, none⟩ (.slice none 0 0)).setCell ⟨R, 2, none⟩ (.slice none 0 0)) = WE at *
          refine bodyPost_ret (v := .tuple #[.agg #[.int .i64 0, .slice none 0 0, .slice none 0 0], .bool false]) ?_ rfl ⟨⟨0, [], []⟩, none, none, 0, 0, HZ.out.1, rfl, HF.out.1, HF.out.2⟩
          simp [results, Try.results109, go_sem, r0, r1, r2]
      | true =>
        have hmko : m.ok = true ∧ k.ok = true := by simpa using hmk
        obtain ⟨hmo, hko⟩ := hmko
        have HMK := Lib.hid hmk
        have HJN := Lib.hid (specBoth_any m k (.slice a1 m.next.length d1) (.slice a2 m.ends.length d2) (.slice a3 k.next.length d3) (.slice a4 k.ends.length d4) W5 (O5.out.ints 4 (by simp) rfl) (O5.out.bools 5 (by simp) rfl) (O5.out.ints 1 (by simp) rfl) (O5.out.bools 2 (by simp) rfl) (HWA.out m HM.out) (HWB.out k HK.out))
        have HTN := Lib.hid (fun x r h => HTF.out m k x r HM.out HK.out h)
        clear hmk
        rw [hmo, hko] at *
        go_wp2_with fail
        refine HJN.out.mono ?_
        rintro e w6 ⟨x, r, a5, a6, d5, d6, hj, rfl, hA6, hb6⟩
        have O6 := Lib.hid (O5.out.join hA6 hb6)
        have HX := Lib.hid (HTN.out x r hj)
        have HXO := Lib.hid HX.out.2
        clear z0 z1 z2 zf b0 b1 b2 e0 e1 e2 hcell hA6 hb6 hj
        have z0 := cellsT_cell (O6.out.cells 8 (by simp) rfl) 0
        have z1 := cellsT_cell (O6.out.cells 8 (by simp) rfl) 1
        have z2 := cellsT_cell (O6.out.cells 8 (by simp) rfl) 2
        have zf := cellsT_frozen (O6.out.cells 8 (by simp) rfl)
        simp only [List.getElem?_toArray, List.getElem?_cons_succ, List.getElem?_cons_zero] at z0 z1 z2
        obtain ⟨f1, f2, r0, r1, r2⟩ := O6.out.fin (us := rowsM x (.slice a5 x.next.length d5) (.slice a6 x.ends.length d6)) 8 (by simp) rfl (List.Sublist.cons_cons _ (List.Sublist.cons_cons _ (List.nil_sublist _))) (x := .int .i64 x.st) (y := .slice a5 x.next.length d5) (z := .slice a6 x.ends.length d6) rfl
        have HF := Lib.hid (And.intro f1 f2)
        clear f1 f2
        go_wp2_with fail
        generalize (((w6.setCell ⟨R, 0, none⟩ (.int .i64 x.st)).setCell ⟨R, 1, none⟩ (.slice a5 x.next.length d5)).setCell ⟨R, 2, none⟩ (.slice a6 x.ends.length d6)) = WE at *
        refine bodyPost_ret (v := .tuple #[.agg #[.int .i64 x.st, .slice a5 x.next.length d5, .slice a6 x.ends.length d6], .bool r]) ?_ rfl ⟨x, a5, a6, d5, d6, HX.out.1, by rw [HXO.out], HF.out.1, HF.out.2⟩
        simp [results, Try.results109, go_sem, r0, r1, r2]
end Go.Proofs.Ytlbblfbiiceofaa

namespace Go.Proofs.Ytlbblfbiiceofaa
open Go.RowKit

/-- MachineOf's answer -/
def OfNew (ms : List Mk) (w : World) (e : Ending) (w' : World) : Prop :=
  ∃ (m : M) (b : Bool) (a1 a2 : Option Addr) (c1 c2 : Nat), IsOf ms m b ∧ e = .returned (.tuple #[.agg #[.int .i64 m.st, .slice a1 m.next.length c1, .slice a2 m.ends.length c2], .bool b]) ∧
    Apart w.heap.size [rowT 3 1 (.slice a1 m.next.length c1) m.next.length (m.next.map (Value.int .i64)), rowT 4 1 (.slice a2 m.ends.length c2) m.ends.length (m.ends.map Value.bool)] w' ∧ Below w.heap.size w w'
theorem OfNew.reads {ms : List Mk} {w w' : World} {e : Ending} (h : OfNew ms w e w') : ∃ (m : M) (b : Bool) (a1 a2 : Option Addr) (c1 c2 : Nat), IsOf ms m b ∧ e = .returned (.tuple #[.agg #[.int .i64 m.st, .slice a1 m.next.length c1, .slice a2 m.ends.length c2], .bool b]) ∧
    IsInts w' (.slice a1 m.next.length c1) m.next ∧ IsBools w' (.slice a2 m.ends.length c2) m.ends ∧ Below w.heap.size w w' := by
  obtain ⟨m, b, a1, a2, c1, c2, h1, rfl, hA, hb⟩ := h
  exact ⟨m, b, a1, a2, c1, c2, h1, rfl, IsInts.of_owns hA.head, IsBools.of_owns hA.tail.head, hb⟩
theorem IsOf.no {ms : List Mk} (h : termOk ms = false) : IsOf ms ⟨0, [], []⟩ false := ⟨fun h' => (by rw [h] at h'; cases h'), fun _ => ⟨rfl, rfl⟩⟩
theorem IsOf.yes {ms : List Mk} {T : Tm} {m : M} (hg : T.good = true) (hp : T.post = ms) (h : TmM T m) (hok : termOk ms = true) : IsOf ms m m.ok := ⟨fun _ => ⟨T, hg, hp, h, rfl⟩, fun h' => (by rw [hok] at h'; cases h')⟩
theorem IsOf.len {ms : List Mk} {m : M} {b : Bool} (h : IsOf ms m b) : m.next.length ≤ 144 ∧ m.ends.length ≤ 48 ∧ (Lit.int .i64 m.st).wf = true ∧ (b = true → m.ok = true) ∧ (b = false → m = ⟨0, [], []⟩) := by
  cases ht : termOk ms with
  | true =>
    obtain ⟨T, h1, h2, h3, rfl⟩ := h.1 ht
    have := h3.len h1
    exact ⟨this.1, this.2, h3.wf h1, fun h => h, fun h => h3.zero h1 h⟩
  | false =>
    obtain ⟨rfl, rfl⟩ := h.2 ht
    exact ⟨Nat.zero_le _, Nat.zero_le _, rfl, fun h => by (cases h), fun _ => rfl⟩

set_option maxHeartbeats 3200000 in
theorem specMachineOf_any (ms : List Mk) (v : Value) (w : World) (h : IsMarks w v ms) (hl : ms.length ≤ 1048576) :
    Calls Try.prog 99 #[v] w (OfNew ms w) := by
  have O0 := Lib.hid ((Own.nil w).box #[.int .i64 0, .slice none 0 0, .slice none 0 0] 115)
  have H1 := Lib.hid (fun W (hb : Below w.heap.size w W) => specTermOk_any ms v W (h.below hb) hl)
  have HLM := Lib.hid (fun W (hb : Below w.heap.size w W) (T : Tm) (hg : T.good = true) (hp : T.post = ms) (h9 : ms.length ≤ 9) => l5Machine_any T hg v W (by rw [hp]; exact h.below hb) (by rw [hp]; exact h9))
  obtain ⟨a, n, c, rfl⟩ := h.slice
  clear h hl
  go_enter Try.func99, Try.ntmps99
  go_upto_region 1 with fail
  generalize hW0 : (w.alloc (.cells #[.int .i64 0, .slice none 0 0, .slice none 0 0] 115)) = W0 at *
  clear hW0
  have H1W := Lib.hid (H1.out _ O0.out.keep)
  go_wp2_with fail
  refine H1W.out.mono ?_
  rintro e w1 ⟨rfl, hb1⟩
  have O1 := Lib.hid (O0.out.below hb1)
  have HLW := Lib.hid (HLM.out _ O1.out.keep)
  have z0 := cellsT_cell (O1.out.cells 0 (by simp) rfl) 0
  have z1 := cellsT_cell (O1.out.cells 0 (by simp) rfl) 1
  have z2 := cellsT_cell (O1.out.cells 0 (by simp) rfl) 2
  have zf := cellsT_frozen (O1.out.cells 0 (by simp) rfl)
  simp only [List.getElem?_toArray, List.getElem?_cons_succ, List.getElem?_cons_zero] at z0 z1 z2
  clear hb1
  cases hk : termOk ms with
  | false =>
    have HI := Lib.hid (IsOf.no hk)
    obtain ⟨f1, f2, r0, r1, r2⟩ := O1.out.fin (us := []) 0 (by simp) rfl (List.nil_sublist _) (x := .int .i64 0) (y := .slice none 0 0) (z := .slice none 0 0) rfl
    have HF := Lib.hid (And.intro ((f1.idle (rowT 4 1 (.slice none 0 0) 0 []) (World.ownsRow_nil _ _ _ _) rfl).idle (rowT 3 1 (.slice none 0 0) 0 []) (World.ownsRow_nil _ _ _ _) rfl) f2)
    clear f1 f2
    generalize hR : w.heap.size = R at *
    go_wp2_with fail
    generalize (((w1.setCell ⟨R, 0, none⟩ (.int .i64 0)).setCell ⟨R, 1, none⟩ (.slice none 0 0)).setCell ⟨R, 2, none⟩ (.slice none 0 0)) = WE at *
    refine bodyPost_ret (v := .tuple #[.agg #[.int .i64 0, .slice none 0 0, .slice none 0 0], .bool false]) ?_ rfl ⟨⟨0, [], []⟩, false, none, none, 0, 0, HI.out, rfl, by rw [hR]; exact HF.out.1, by rw [hR]; exact HF.out.2⟩
    simp [results, Try.results99, go_sem, r0, r1, r2]
  | true =>
    obtain ⟨T, hg, hp, h9⟩ := tree_of hk
    have HLX := Lib.hid (HLW.out T hg hp h9)
    have HIY : Hid (∀ m, TmM T m → IsOf ms m m.ok ∧ (m.ok = false → m = ⟨0, [], []⟩)) := Lib.hid (fun m h => ⟨IsOf.yes hg hp h hk, fun ho => h.zero hg ho⟩)
    clear hg hp h9
    generalize hR : w.heap.size = R at *
    have HR := Lib.hid hR
    clear hR
    go_wp2_with fail
    refine HLX.out.mono ?_
    rintro e w2 ⟨m, a1, a2, d1, d2, hm, rfl, hA2, hb2⟩
    have HI := Lib.hid (HIY.out m hm).1
    have HIZ := Lib.hid (HIY.out m hm).2
    have O2 := Lib.hid (O1.out.join hA2 hb2)
    have O3 := Lib.hid (O2.out.box #[.int .i64 m.st, .slice a1 m.next.length d1, .slice a2 m.ends.length d2] 115)
    clear hm hA2 hb2 z0 z1 z2 zf
    go_upto_region 4 with fail
    generalize hW3 : (w2.alloc (.cells #[.int .i64 m.st, .slice a1 m.next.length d1, .slice a2 m.ends.length d2] 115)) = W3 at *
    clear hW3
    generalize w2.heap.size = B3 at *
    have b0 := cellsT_cell (O3.out.cells 0 (by simp) rfl) 0
    have b1 := cellsT_cell (O3.out.cells 0 (by simp) rfl) 1
    have b2 := cellsT_cell (O3.out.cells 0 (by simp) rfl) 2
    have z0 := cellsT_cell (O3.out.cells 3 (by simp) rfl) 0
    have z1 := cellsT_cell (O3.out.cells 3 (by simp) rfl) 1
    have z2 := cellsT_cell (O3.out.cells 3 (by simp) rfl) 2
    have zf := cellsT_frozen (O3.out.cells 3 (by simp) rfl)
    simp only [List.getElem?_toArray, List.getElem?_cons_succ, List.getElem?_cons_zero] at b0 b1 b2 z0 z1 z2
    cases hmo : m.ok with
    | false =>
      have hmz := HIZ.out hmo
      have HI2 : Hid (IsOf ms ⟨0, [], []⟩ false) := Lib.hid (by have h := HI.out; rw [hmo, hmz] at h; exact h)
      obtain ⟨f1, f2, r0, r1, r2⟩ := O3.out.fin (us := []) 3 (by simp) rfl (List.nil_sublist _) (x := .int .i64 0) (y := .slice none 0 0) (z := .slice none 0 0) rfl
      have HF := Lib.hid (And.intro ((f1.idle (rowT 4 1 (.slice none 0 0) 0 []) (World.ownsRow_nil _ _ _ _) rfl).idle (rowT 3 1 (.slice none 0 0) 0 []) (World.ownsRow_nil _ _ _ _) rfl) f2)
      clear f1 f2 hmz HIZ HI
      rw [hmo] at *
      go_wp2_with fail
      generalize (((W3.setCell ⟨R, 0, none⟩ (.int .i64 0)).setCell ⟨R, 1, none⟩ (.slice none 0 0)).setCell ⟨R, 2, none⟩ (.slice none 0 0)) = WE at *
      refine bodyPost_ret (v := .tuple #[.agg #[.int .i64 0, .slice none 0 0, .slice none 0 0], .bool false]) ?_ rfl ⟨⟨0, [], []⟩, false, none, none, 0, 0, HI2.out, rfl, HF.out.1, HF.out.2⟩
      simp [results, Try.results99, go_sem, r0, r1, r2]
    | true =>
      have HI2 : Hid (IsOf ms m true) := Lib.hid (by have h := HI.out; rwa [hmo] at h)
      obtain ⟨f1, f2, r0, r1, r2⟩ := O3.out.fin (us := [_, _]) 3 (by simp) rfl (List.Sublist.cons _ (List.Sublist.cons_cons _ (List.Sublist.cons_cons _ (List.nil_sublist _)))) (x := .int .i64 m.st) (y := .slice a1 m.next.length d1) (z := .slice a2 m.ends.length d2) rfl
      have HF := Lib.hid (And.intro f1 f2)
      clear f1 f2
      rw [hmo] at *
      go_wp2_with fail
      generalize (((W3.setCell ⟨R, 0, none⟩ (.int .i64 m.st)).setCell ⟨R, 1, none⟩ (.slice a1 m.next.length d1)).setCell ⟨R, 2, none⟩ (.slice a2 m.ends.length d2)) = WE at *
      refine bodyPost_ret (v := .tuple #[.agg #[.int .i64 m.st, .slice a1 m.next.length d1, .slice a2 m.ends.length d2], .bool true]) ?_ rfl ⟨m, true, a1, a2, d1, d2, HI2.out, rfl, HF.out.1, HF.out.2⟩
      simp [results, Try.results99, go_sem, r0, r1, r2]
end Go.Proofs.Ytlbblfbiiceofaa
