/- The walk of FnTakesOk: true at every code. No condition. -/
import Derived.Test.YtdgpemjbaciiaaaDrawn3
import Derived.Test.YtdgpemjbaciiaaaLawWordOk
import Derived.Test.YtdgpemjbaciiaaaLawMachOk
import Derived.Test.YtdgpemjbaciiaaaLangWord
import Derived.Deep.RegionHeld3
namespace Go.Proofs.Ytdgpemjbaciiaaa
open Go.RowKit

theorem M.takes_nil {m : M} (h : m.ok = true) : m.takes ⟨#[]⟩ = m.endAt 0 := by
  rw [M.takes, M.after_yes h (by decide +kernel)]; rfl
/-- what LeastMachine hands back, to be read -/
theorem LeastNew.reads {m : M} {w w' : World} {e : Ending} (h : LeastNew m w e w') : ∃ k nv ev, IsLmZ m k ∧ e = .returned (.agg #[.int .i64 k.st, nv, ev]) ∧ IsInts w' nv k.next ∧ IsBools w' ev k.ends ∧ Below w.heap.size w w' := by
  obtain ⟨k, hk, h⟩ := h
  obtain ⟨nv, ev, h1, h2, h3, h4⟩ := h.reads
  exact ⟨k, nv, ev, hk, h1, h2, h3, h4⟩
theorem IsLmZ.wf {m k : M} (h : IsLmZ m k) : (Lit.int .i64 k.st).wf = true := by
  cases hm : m.ok with
  | true =>
    have h1 := (M.ok_shape (h.ok hm)).1
    have h2 := (h.1 hm).2
    exact WalkArith.wf_i64 (by show _ ∧ _; omega)
  | false => rw [h.2 hm]; rfl

set_option maxHeartbeats 1600000 in
set_option maxRecDepth 100000 in
theorem lawTakesOk_walk {w : World} (a : Option Addr) (len cap : Nat) (zs : List Int) (h : IsRow .u8 w a len cap zs) :
    Calls Try.prog 9 #[.slice a len cap] w fun e w' => e = .returned (.bool true) ∧ Below w.heap.size w w' := by
  have HD := Lib.hid (drawTakesOk_any a len cap zs w h)
  have hl := h.len_le
  unfold maxLen at hl
  clear h
  by_cases hbig : 1048576 < len
  · go_enter Try.func9, Try.ntmps9
    go_wp2_with fail
    go_ret
    exact ⟨rfl, Below.refl _ _⟩
  · go_enter Try.func9, Try.ntmps9
    go_wp2_with fail
    refine HD.out.mono ?_
    clear HD
    rintro e w1 ⟨m, nv, ev, s, rfl, hs, hd, hb1⟩
    obtain ⟨a1, n1, c1, rfl⟩ := hd.ints.slice
    obtain ⟨a2, n2, c2, rfl⟩ := hd.bools.slice
    have hwf := hd.wf
    have M1 := Lib.hid (MachBox.new (st := m.st) 27 hd.ints hd.bools)
    have q1 := Lib.hid (hb1.alloc hb1.size (.cells #[.int .i64 m.st, .slice a1 n1 c1, .slice a2 n2 c2] 27))
    have hsm : s.size ≤ maxLen := by unfold maxLen; omega
    clear hb1 hd
    go_wp2_with fail
    generalize hW2 : w1.alloc (.cells #[.int .i64 m.st, .slice a1 n1 c1, .slice a2 n2 c2] 27) = w2 at *
    generalize hB2 : w1.heap.size = b2 at *
    clear hW2 hB2
    refine (implTakesOk_any m s _ _ _ M1.out.ints M1.out.bools hwf hsm).mono ?_
    rintro e w3 ⟨rfl, hb3⟩
    have M3 := Lib.hid (M1.out.below hb3)
    have q3 := Lib.hid (q1.out.trans (hb3.mono q1.out.size))
    clear hb3
    have y0 := M3.out.c0
    have y1 := M3.out.c1
    have y2 := M3.out.c2
    go_wp2_with fail
    clear y0 y1 y2
    refine (specTakesOk_any m s _ _ _ M3.out.ints M3.out.bools hwf hsm).mono ?_
    rintro e w4 ⟨rfl, hb4⟩
    have M4 := Lib.hid (M3.out.below hb4)
    have q4 := Lib.hid (q3.out.trans (hb4.mono q3.out.size))
    clear hb4 M1 M3 q1 q3
    have y0 := M4.out.c0
    have y1 := M4.out.c1
    have y2 := M4.out.c2
    have hbb : (m.takes s != m.takes s) = false := by simp
    go_wp2_with fail
    clear y0 y1 y2 hbb
    refine (specMachineOk_any m _ _ _ M4.out.ints M4.out.bools hwf).mono ?_
    rintro e w5 ⟨rfl, hb5⟩
    have M5 := Lib.hid (M4.out.below hb5)
    have q5 := Lib.hid (q4.out.trans (hb5.mono q4.out.size))
    clear hb5 M4 q4
    cases hk : m.ok with
    | false =>
      have HT := Lib.hid (M.takes_not (m := m) (s := s) (.inl hk))
      rw [HT.out]
      go_wp2_with fail
      refine (alive_any _).mono ?_
      rintro e w6 ⟨rfl, rfl⟩
      go_wp2_with fail
      go_ret
      exact ⟨rfl, q5.out⟩
    | true =>
      have HK := Lib.hid hk
      clear hk
      go_wp2_with fail
      refine (specWordOk_any s _ hsm).mono ?_
      rintro e w6 ⟨rfl, rfl⟩
      cases hw : wordOk s with
      | false =>
        have HT := Lib.hid (M.takes_not (m := m) (s := s) (.inr hw))
        rw [HT.out]
        go_wp2_with fail
        refine (alive_any _).mono ?_
        rintro e w6 ⟨rfl, rfl⟩
        go_wp2_with fail
        go_ret
        exact ⟨rfl, q5.out⟩
      | true =>
        have HG := Lib.hid (M.ok_good HK.out)
        have HTM := Lib.hid (tm_takes HK.out s)
        have HTO := Lib.hid (tm_ok HK.out)
        have HNIL := Lib.hid (M.takes_nil HK.out)
        have hsh := M.ok_shape HK.out
        obtain ⟨ge, oe, rfl, rfl, hge, hce⟩ := bools_cells3 M5.out.bools (by omega)
        have hc0 := hce 0 (by omega)
        rw [Nat.add_zero] at hc0
        have HE0 : Hid (m.takes ⟨#[]⟩ = m.ends[0]'(by omega)) := Lib.hid (by
          rw [HNIL.out, M.endAt, if_neg (by omega)]
          show m.ends.getD 0 false = _
          rw [List.getD_eq_getElem?_getD, List.getElem?_eq_getElem (by omega)]; rfl)
        generalize m.ends[0]'(by omega) = e0 at *
        generalize hok : m.takes s = ok at *
        have HOKV := Lib.hid hok
        have hbb : (ok == ok) = true := by simp
        have hee : (e0 == e0) = true := by simp
        have hel : (0 : Int) < (m.ends.length : Int) := by omega
        have hel1 : 0 < m.ends.length := by omega
        have hel2 : ¬ m.ends = [] := by intro e; rw [e] at hel1; exact absurd hel1 (Nat.lt_irrefl 0)
        have MD := Lib.hid (M5.out.below (Below.refl _ w5).drew)
        have HC0 := Lib.hid hc0
        have HGE := Lib.hid hge
        have y0 := M5.out.c0
        have y1 := M5.out.c1
        have y2 := M5.out.c2
        clear hok hsh hce
        have HWT : Hid ((Lit.int .i64 (tm m).st).wf = true) := Lib.hid (WalkArith.wf_i64 (by have h1 := M.ok_shape HTO.out; show _ ∧ _; omega))
        have HTM2 : Hid ((tm m).takes s = ok) := Lib.hid HTM.out
        have HKT : Hid (∀ K, IsLmZ m K → K.takes s = ok) := Lib.hid (fun K h => (h.takes HK.out s).trans HOKV.out)
        have BD := Lib.hid ((Below.refl w5.heap.size w5).drew)
        have HTZ := Lib.hid (tmz_ok HK.out)
        have HCE : Hid (∀ W, Below w5.heap.size w5 W → W.cell? ⟨ge, oe, none⟩ = some (.bool e0)) := Lib.hid (fun W h => (h.cell (p := ⟨ge, oe, none⟩) HGE.out).trans HC0.out)
        clear hc0 hge y0 y1 y2 HTO HTM HNIL
        generalize tm m = T at *
        have hs0m : (⟨#[]⟩ : ByteArray).size ≤ maxLen := Nat.zero_le _
        have HS0M := Lib.hid hs0m
        clear hs0m
        go_upto_region 9 with fail
        go_region_held3 (fun w' => w'.cell? ⟨b2, 0, none⟩ = some (.int .i64 m.st) ∧ w'.cell? ⟨b2, 1, none⟩ = some (.slice a1 n1 c1) ∧ w'.cell? ⟨b2, 2, none⟩ = some (.slice (some ⟨ge, oe, none⟩) m.ends.length c2) ∧ w'.cell? ⟨ge, oe, none⟩ = some (.bool e0))
          (first | exact ⟨MD.out.c0, MD.out.c1, MD.out.c2, HCE.out _ BD.out⟩ | exact ⟨M6.out.c0, M6.out.c1, M6.out.c2, HCE.out _ B6.out⟩ | exact ⟨M7.out.c0, M7.out.c1, M7.out.c2, HCE.out _ B7.out⟩ | exact ⟨M8.out.c0, M8.out.c1, M8.out.c2, HCE.out _ B8.out⟩ | exact ⟨M9.out.c0, M9.out.c1, M9.out.c2, HCE.out _ B9.out⟩ | exact ⟨M10.out.c0, M10.out.c1, M10.out.c2, HCE.out _ B10.out⟩)
          (first | (go_at_call 40; refine (implTrimmed_any m _ _ w5.drew MD.out.ints MD.out.bools hwf).mono ?_; rintro e w6 h6; rw [HTZ.out] at h6; obtain ⟨nv6, ev6, rfl, hi6, hbo6, hb6⟩ := h6.reads; have I6 := Lib.hid (And.intro hi6 hbo6); have M6 := Lib.hid (MD.out.below hb6); have B6 := Lib.hid (BD.out.trans (hb6.mono BD.out.size)); clear hi6 hbo6 hb6 h6) | (go_at_call 35; with_reducible refine (implTakesOk_any T s _ _ w6 I6.out.1 I6.out.2 HWT.out hsm).mono ?_; rintro e w7 ⟨rfl, hb7⟩; rw [HTM2.out]; have M7 := Lib.hid (M6.out.below hb7); have B7 := Lib.hid (B6.out.trans (hb7.mono B6.out.size)); clear hb7) | (go_at_call 20; refine (implLeastZ m _ _ w7 M7.out.ints M7.out.bools hwf).mono ?_; rintro e w8 h8; obtain ⟨K, nv8, ev8, hK8, rfl, hi8, hbo8, hb8⟩ := h8.reads; have I8 := Lib.hid (And.intro hi8 hbo8); have HK8 := Lib.hid hK8; have M8 := Lib.hid (M7.out.below hb8); have B8 := Lib.hid (B7.out.trans (hb8.mono B7.out.size)); clear hi8 hbo8 hb8 h8 hK8) | (go_at_call 35; with_reducible refine (implTakesOk_any K s _ _ w8 I8.out.1 I8.out.2 HK8.out.wf hsm).mono ?_; rintro e w9 ⟨rfl, hb9⟩; rw [HKT.out K HK8.out]; have M9 := Lib.hid (M8.out.below hb9); have B9 := Lib.hid (B8.out.trans (hb9.mono B8.out.size)); clear hb9) | (go_at_call 35; with_reducible refine (implTakesOk_any m ⟨#[]⟩ _ _ w9 M9.out.ints M9.out.bools hwf HS0M.out).mono ?_; rintro e w10 ⟨rfl, hb10⟩; rw [HE0.out]; have M10 := Lib.hid (M9.out.below hb10); have B10 := Lib.hid (B9.out.trans (hb10.mono B9.out.size)); clear hb10))
        all_goals
          go_wp2_with fail
          go_ret
          exact ⟨rfl, q5.out.trans (B10.out.mono q5.out.size)⟩
end Go.Proofs.Ytdgpemjbaciiaaa
