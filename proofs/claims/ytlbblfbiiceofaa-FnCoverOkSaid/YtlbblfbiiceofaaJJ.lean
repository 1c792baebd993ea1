/- The model's l2Least: the least machine of any one, and whether it is small enough. No condition. The model's BothMachines, EitherMachine and NotMachine. No condition. The model's BothMachines, EitherMachine and NotMachine: their answers. No condition. -/
import Derived.Test.YtlbblfbiiceofaaKP
import Derived.Deep.RegionHeld3
import Derived.Deep.CutRange
import Derived.Deep.CutBlock
import Derived.Test.YtlbblfbiiceofaaJA
import Derived.Test.YtlbblfbiiceofaaJB
import Derived.Test.YtlbblfbiiceofaaJC

namespace Go.Proofs.Ytlbblfbiiceofaa
open Go.RowKit

/-- the least machine of any one, and whether it is small enough -/
def LeastS (m : M) (w : World) (e : Ending) (w' : World) : Prop :=
  ∃ (L : M) (a1 a2 : Option Addr) (c1 c2 : Nat), IsLm (m.lang 0) L ∧ L.st ≤ 4000 ∧ e = .returned (.tuple #[.agg #[.int .i64 L.st, .slice a1 L.next.length c1, .slice a2 L.ends.length c2], .bool (decide (L.st ≤ 48))]) ∧
    Apart w.heap.size [rowT 3 1 (.slice a1 L.next.length c1) L.next.length (L.next.map (Value.int .i64)), rowT 4 1 (.slice a2 L.ends.length c2) L.ends.length (L.ends.map Value.bool)] w' ∧ Below w.heap.size w w'

set_option maxHeartbeats 2000000 in
set_option maxRecDepth 100000 in
theorem specLeastOf_any (m : M) (nv ev : Value) (w : World) (h1 : IsInts w nv m.next) (h2 : IsBools w ev m.ends) (hg : m.good) :
    Calls Try.prog 134 #[.agg #[.int .i64 m.st, nv, ev]] w (LeastS m w) := by
  obtain ⟨i0, hi, hz0, hz1, hz2⟩ := info_parts infoIntF
  have HI := Lib.hid (And.intro hi (And.intro hz0 (And.intro hz1 hz2)))
  clear hi hz0 hz1 hz2
  have hM : MachBox w.heap.size m.st nv m.next ev m.ends (w.alloc (.cells #[.int .i64 m.st, nv, ev] 115)) := MachBox.new _ h1 h2
  have hb2 := (Below.refl _ (w.alloc (.cells #[.int .i64 m.st, nv, ev] 115))).alloc (Nat.le_refl _) (.cells #[.int .i64 0, .slice none 0 0, .slice none 0 0] 115)
  have M2 := Lib.hid (hM.below hb2)
  have q2 := Lib.hid (((Below.refl w.heap.size w).alloc (Nat.le_refl _) (.cells #[.int .i64 m.st, nv, ev] 115)).trans (hb2.mono (by simp)))
  have hz := Z0.new (w.alloc (.cells #[.int .i64 m.st, nv, ev] 115))
  rw [World.size_alloc] at hz
  have Z2 := Lib.hid hz
  have hs2 : ((w.alloc (.cells #[.int .i64 m.st, nv, ev] 115)).alloc (.cells #[.int .i64 0, .slice none 0 0, .slice none 0 0] 115)).heap.size = w.heap.size + 1 + 1 := by simp
  have HG := Lib.hid hg
  clear hz hM hb2 h1 h2 hg
  have hcls : Apart (w.heap.size + 1 + 1) [rowT 3 1 (.slice (some ⟨w.heap.size + 1 + 1, 0, none⟩) 0 0) (idc 0).length ((idc 0).map (Value.int .i64))] (((w.alloc (.cells #[.int .i64 m.st, nv, ev] 115)).alloc (.cells #[.int .i64 0, .slice none 0 0, .slice none 0 0] 115)).alloc (.cells #[] 3)) := by
    generalize (w.alloc (.cells #[.int .i64 m.st, nv, ev] 115)).alloc (.cells #[.int .i64 0, .slice none 0 0, .slice none 0 0] 115) = w3 at *
    rw [← hs2]
    exact (Apart.nil w3.heap.size w3).more (World.grownBy_alloc w3 _ none) (rowT 3 1 (.slice (some ⟨w3.heap.size, 0, none⟩) 0 0) 0 []) (World.ownsRow_lit (base := 0) (e := 3) (size := 1) w3 #[] 0 (Nat.zero_le _) (Nat.zero_le _) rfl) (Nat.le_refl _) (fun k e => by cases e; simp)
  have HCLS := Lib.hid hcls
  have hbc := Lib.hid ((Below.refl _ ((w.alloc (.cells #[.int .i64 m.st, nv, ev] 115)).alloc (.cells #[.int .i64 0, .slice none 0 0, .slice none 0 0] 115))).alloc (Nat.le_refl _) (.cells #[] 3))
  have HS2 := Lib.hid hs2
  clear hcls hs2
  go_enter Try.func134, Try.ntmps134
  go_wp2_with fail
  generalize hW3 : (w.alloc (.cells #[.int .i64 m.st, nv, ev] 115)).alloc (.cells #[.int .i64 0, .slice none 0 0, .slice none 0 0] 115) = w3 at *
  clear hW3
  go_loopw [4, 5] (fun cv i wr => ∃ k : Nat, k ≤ m.ends.length ∧ i = .int .i64 k ∧ Apart w3.heap.size [rowT 3 1 cv (idc k).length ((idc k).map (Value.int .i64))] wr ∧ Below w3.heap.size w3 wr) (fun _ i _ => m.ends.length - (intOf i).toNat)
  case atStart => exact ⟨0, Nat.zero_le _, rfl, by rw [HS2.out]; exact HCLS.out, hbc.out⟩
  case round =>
    obtain ⟨k, hkk, rfl, hA, hB⟩ := hrel
    obtain ⟨ac, cc, rfl⟩ := ownsRow_slice hA.head
    have A1 := Lib.hid hA
    have B1 := Lib.hid hB
    clear hA hB
    have M4 := Lib.hid (M2.out.below B1.out)
    have y0 := M4.out.c0
    have hsh := M.good_shape HG.out
    by_cases hlt : k < m.ends.length
    · have hlt' : (k : Int) < m.st := by omega
      have hkl : (idc k).length ≤ 4000 := by rw [idc_length]; omega
      have hk4 : k ≤ 4000 := by omega
      have HSU := Lib.hid (idc_succ k)
      generalize idc k = Q at *
      clear hsh
      go_wp2_with (at_builtin; refine wpList_append_lies _ rfl _ _ 113 rfl 0 3 i0 (.int .i64 0) 1 8 Try.underlying113 HI.out.1 HI.out.2.1 HI.out.2.2.1 HI.out.2.2.2 rfl (by decide) (.slice ac Q.length cc) Q.length (Q.map (Value.int .i64)) rfl (World.ownsRow.alloc A1.out.head _) ⟨wr.heap.size, 0, none⟩ 1 1 [.int .i64 (k : Int)] rfl rfl (cell_one_new _ _ _) (by simp [Value.oneCell']) (by omega) (by unfold maxLen; omega) (by omega) (Nat.zero_le _) _ rfl ?_; intro g9 cp w4 hown hgrow hat hlt3)
      go_roundw
      case rel =>
        have a1 := A1.out.same (World.grownBy_alloc wr (.cells #[.int .i64 (k : Int)] 3) none)
        have hsz : w3.heap.size ≤ (wr.alloc (.cells #[.int .i64 (k : Int)] 3)).heap.size := by have := B1.out.size; simp; omega
        refine ⟨k + 1, by omega, by go_num, ?_, (B1.out.alloc B1.out.size _).grown hgrow hsz (fun j e => (a1.lt j e).1)⟩
        rw [HSU.out]
        exact a1.turn hgrow (rowT 3 1 (.slice (some ⟨g9, 0, none⟩) (Q.length + 1) cp) (Q ++ [(k : Int)]).length ((Q ++ [(k : Int)]).map (Value.int .i64))) (by show World.ownsRow _ _ _ _ _ _ _; rw [List.length_append, List.map_append]; exact hown) hsz
          (fun j e => ⟨by cases e; exact hat.imp id (fun e => Nat.le_of_eq e.symm), (World.ownsRow.lt hown j e).2⟩)
      case measure => simp [intOf]; omega
    · obtain rfl : k = m.ends.length := by omega
      have hlt' : ¬ ((m.ends.length : Int) < m.st) := by omega
      clear hsh
      have hn0 : 0 < (idc m.ends.length).length := by rw [idc_length]; have := HG.out.st0; have := HG.out.le; omega
      have HXe := Lib.hid (lrounds_live HG.out).1
      have HO := Lib.hid (idc_length m.ends.length)
      go_upto_region 6 with fail
      clear y0
      have v0 := M4.out.c0
      have v1 := M4.out.c1
      have v2 := M4.out.c2
      have h00 := idc_at m.ends.length 0 hn0
      have HNB := Lib.hid (trimN_is HG.out (lrounds m m.ends.length))
      have HN4 : trimN m (lrounds m m.ends.length) ≤ 4000 := by have h1 := trimN_le HG.out (lrounds m m.ends.length); have h2 := HG.out.st1; omega
      have X0 := M4.out.tri
      have hl0 := X0.la
      have HSX : Hid (∀ V, Below wr.heap.size wr V → Tri w.heap.size m.st nv ev V) := Lib.hid (fun V h => X0.below h)
      have HL1 : Hid (∀ V, Below wr.heap.size wr V → Calls Try.prog 128 #[.agg #[.int .i64 m.st, nv, ev]] V (BxBools (lrounds m m.ends.length) V)) := Lib.hid (fun V h => (specL2Live_any m nv ev V (M4.out.below h).ints (M4.out.below h).bools HG.out).mono (by
        rintro e w5 ⟨al, cl, rfl, hA5, hb5⟩
        exact ⟨al, _, cl, rfl, IsBools.of_owns hA5.head, hb5⟩))
      have HL2 : Hid (∀ V lv, Below wr.heap.size wr V → IsBools V lv (lrounds m m.ends.length) → Calls Try.prog 126 #[.agg #[.int .i64 m.st, nv, ev], .slice ac (idc m.ends.length).length cc, lv] V (MachNew (tm m) V)) := Lib.hid (fun V lv h hI => by
        have h5 := specL2Order_any m (idc m.ends.length) (lrounds m m.ends.length) nv ev _ lv V (trimN m (lrounds m m.ends.length)) (M4.out.below h).ints (M4.out.below h).bools ((IsInts.of_owns A1.out.head).below h) hI HG.out HO.out HXe.out hn0 (by rw [ord_bfs HG.out _ _ _ h00]; exact HNB.out) HN4
        rw [ord_tm HG.out _ _ h00] at h5
        exact h5)
      have BD := Lib.hid ((Below.refl wr.heap.size wr).drew)
      have HTG := Lib.hid (tm_good HG.out)
      have HTT := Lib.hid (tm_trim HG.out)
      have HTL := Lib.hid (tm_lang HG.out)
      generalize tm m = T at *
      clear h00 HNB HN4 hn0 HXe HO
      go_cut [6] from 19 to 33 (fun t wx => ∃ (b : Nat) (v u : Value), t = .pointer (some ⟨b, 0, none⟩) ∧ MachBox b T.st v T.next u T.ends wx ∧ Below wr.heap.size wr wx)
      case first =>
        as_aux_lemma =>
          go_region_held3 (fun w' => w'.cell? ⟨w.heap.size, 0, none⟩ = some (.int .i64 m.st) ∧ w'.cell? ⟨w.heap.size, 1, none⟩ = some nv ∧ w'.cell? ⟨w.heap.size, 2, none⟩ = some ev)
            (first | (refine Tri.cells ?_; ((repeat' (first | with_reducible assumption | with_reducible refine Tri.alloc ?_ _ | with_reducible refine Tri.drew ?_ | with_reducible refine Tri.set ?_ ?_ | omega)); done)))
            (first | (go_at_call 128; with_reducible refine Calls.mono (HL1.out _ ?_) ?_; (· (first | with_reducible exact BD.out | with_reducible exact bel1 _ _)); rintro e v1 h1; obtain ⟨al, nl, cl, rfl, hI1, hb1⟩ := h1.form; (first | (with_reducible have B1 := Lib.hid (Below.then' BD.out hb1)) | (with_reducible have B1 := Lib.hid (Below.then' (bel1 wr _) hb1))); (first | (with_reducible have ZA := Lib.hid (Z0.one1 hb1)) | skip); (try have zl1 := ZA.out.lt); have X1 := HSX.out _ B1.out; have hl1 := X1.la; clear h1) | (go_at_call 126; with_reducible refine Calls.mono (HL2.out _ _ ?_ ?_) ?_; (· (first | with_reducible exact B1.out | (with_reducible refine Below.alloc' ?_ _; with_reducible exact B1.out))); (· (first | with_reducible exact hI1 | with_reducible exact hI1.alloc _)); rintro e v2 h2; obtain ⟨a1, n1, c1, a2, n2, c2, rfl, hr2, hb2⟩ := h2.rows; (first | (with_reducible have R2 := Rws.one' hr2) | (have R2 := hr2)); (first | (with_reducible have E2 := Rws.ex1 hr2) | (have E2 := Rws.ex0 hr2)); (first | (with_reducible have k2 := Below.then' (Below.refl v1.heap.size v1) hb2) | (with_reducible have k2 := Below.then' (Below.alloc' (Below.refl v1.heap.size v1) _) hb2)); have B2 := Lib.hid (Below.then' B1.out k2); (try (have ZB := Lib.hid (ZA.out.below k2); clear ZA; have ZA := ZB; clear ZB)); (try (with_reducible have ZA := Lib.hid (Z0.one1' hb2))); (try have zl2 := ZA.out.lt); clear X1; have X2 := HSX.out _ B2.out; have hl2 := X2.la; have hs2 := Lib.hid k2.size; (try (obtain ⟨qal, qa0, qa1, qa2, qa3, qa4, qa5⟩ := ZA.out))))
          all_goals
            (try have z7 := ZA.out.lt)
            have z12 := hs2.out
            have z01 := B1.out.size
            have HX := Lib.hid X2
            have BB : Below wr.heap.size wr v2 := B2.out
            clear X2
            go_wp2
            go_meet
            case rel => exact ⟨_, _, _, rfl, ⟨(by first | (simp; done) | (simp; omega)), (by go_simp), (by go_simp), (by go_simp), (Rws.via R2 (fun _ => by ((repeat' (first | with_reducible assumption | with_reducible refine Rws.alloc ?_ _ | with_reducible refine Rws.set ?_ ?_ | omega)); done))).1, (Rws.via R2 (fun _ => by ((repeat' (first | with_reducible assumption | with_reducible refine Rws.alloc ?_ _ | with_reducible refine Rws.set ?_ ?_ | omega)); done))).2⟩, (by ((repeat' (first | with_reducible assumption | with_reducible refine Below.alloc' ?_ _ | with_reducible refine Below.set' ?_ ?_ | omega)); done))⟩
      case rest =>
        obtain ⟨b, v, u, rfl, hMT, hBT⟩ := hcut
        have MT := Lib.hid hMT
        have QT := Lib.hid (q2.out.trans ((B1.out.trans (hBT.mono B1.out.size)).mono q2.out.size))
        have ZT := Lib.hid (Z2.out.below (B1.out.trans (hBT.mono B1.out.size)))
        have HZL : Hid (w.heap.size + 1 < wc.heap.size) := Lib.hid ZT.out.lt
        clear hMT hBT v0 v1 v2 hl0 X0 HSX HL1 HL2 BD
        have v0 := MT.out.c0
        have v1 := MT.out.c1
        have v2 := MT.out.c2
        have X0 := MT.out.tri
        have hl0 := X0.la
        have HSX : Hid (∀ V, Below wc.heap.size wc V → Tri b T.st v u V) := Lib.hid (fun V h => X0.below h)
        have HL1 : Hid (∀ V, Below wc.heap.size wc V → Calls Try.prog 127 #[.agg #[.int .i64 T.st, v, u]] V (BxCls T V)) := Lib.hid (fun V h => (specClasses_any T _ _ V (MT.out.below h).ints (MT.out.below h).bools HTG.out).mono (by
          rintro e w6 ⟨ac, cc, n, cls, rfl, hst6, hip6, hA6, hb6⟩
          exact ⟨ac, _, cc, n, cls, rfl, IsInts.of_owns hA6.head, hst6, hip6, hb6⟩))
        have HL2 : Hid (∀ V, Below wc.heap.size wc V → Calls Try.prog 128 #[.agg #[.int .i64 T.st, v, u]] V (BxBools (lrounds T T.ends.length) V)) := Lib.hid (fun V h => (specL2Live_any T v u V (MT.out.below h).ints (MT.out.below h).bools HTG.out).mono (by
          rintro e w5 ⟨al, cl, rfl, hA5, hb5⟩
          exact ⟨al, _, cl, rfl, IsBools.of_owns hA5.head, hb5⟩))
        have HN0 : 0 < T.ends.length := by have h5 := M.good_shape HTG.out; omega
        have HL3 : Hid (∀ V (r : Nat) (cls : List Int) (cv lv : Value), Below wc.heap.size wc V → still T T.ends.length r → isPart T T.ends.length r cls → IsInts V cv cls → IsBools V lv (lrounds T T.ends.length) → Calls Try.prog 126 #[.agg #[.int .i64 T.st, v, u], cv, lv] V (BxLm (m.lang 0) V)) := Lib.hid (fun V r cls cv lv h hs hp hc hl => by
          have h0 : 0 < cls.length := by rw [hp.1]; exact HN0
          obtain ⟨K, k1, k2, k3⟩ := lm_spec HTG.out HTT.out hs hp
          have e0 : cls.getD 0 0 = cls[0]'h0 := by rw [List.getD_eq_getElem?_getD, List.getElem?_eq_getElem h0]; rfl
          rw [e0] at k1 k3
          rw [HTL.out] at k3
          have hsh := M.good_shape HTG.out
          have hN4 : K ≤ 4000 := by omega
          exact (specL2Order_any T cls (lrounds T T.ends.length) v u cv lv V K (MT.out.below h).ints (MT.out.below h).bools hc hl HTG.out hp.1 (lrounds_live HTG.out).1 h0 k1 hN4).mono (fun e w' hM => ⟨_, k3, (by show (K : Int) ≤ 4000; omega), hM⟩))
        have BD := Lib.hid ((Below.refl wc.heap.size wc).drew)
        go_upto_region 7 with fail
        go_cut [7] from 19 to 33 (fun t wx => ∃ (L : M) (b a1 a2 c1 c2 : _) (B H : Nat), t = .pointer (some ⟨b, 0, none⟩) ∧ IsLm (m.lang 0) L ∧ L.st ≤ 4000 ∧ wc.heap.size ≤ b ∧ Tri b L.st (.slice a1 L.next.length c1) (.slice a2 L.ends.length c2) wx ∧ Rws B H L (.slice a1 L.next.length c1) (.slice a2 L.ends.length c2) wx ∧ wc.heap.size ≤ B ∧ (∀ k, (Value.slice a1 L.next.length c1).ownBlock = some k → (Value.slice a2 L.ends.length c2).ownBlock ≠ some k) ∧ Below wc.heap.size wc wx)
        case first =>
          as_aux_lemma =>
            go_region_held3 (fun w' => w'.cell? ⟨b, 0, none⟩ = some (.int .i64 T.st) ∧ w'.cell? ⟨b, 1, none⟩ = some v ∧ w'.cell? ⟨b, 2, none⟩ = some u)
              (first | (refine Tri.cells ?_; ((repeat' (first | with_reducible assumption | with_reducible refine Tri.alloc ?_ _ | with_reducible refine Tri.drew ?_ | with_reducible refine Tri.set ?_ ?_ | omega)); done)))
              (first | (go_at_call 127; with_reducible refine Calls.mono (HL1.out _ ?_) ?_; (· (first | with_reducible exact BD.out | with_reducible exact bel1 _ _)); rintro e v1 h1; obtain ⟨al, nl, cl, r, cls, rfl, hI1, hst1, hip1, hb1⟩ := h1.form; (first | (with_reducible have B1 := Lib.hid (Below.then' BD.out hb1)) | (with_reducible have B1 := Lib.hid (Below.then' (bel1 wc _) hb1))); (first | (with_reducible have ZA := Lib.hid (Z0.one1 hb1)) | skip); (try have zl1 := ZA.out.lt); have X1 := HSX.out _ B1.out; have hl1 := X1.la; clear h1) | (go_at_call 128; with_reducible refine Calls.mono (HL2.out _  ?_) ?_; (· (first | with_reducible exact B1.out | (with_reducible refine Below.alloc' ?_ _; with_reducible exact B1.out))); rintro e v2 h2; obtain ⟨al2, nl2, cl2, rfl, hI2, hb2⟩ := h2.form; (first | (with_reducible have k2 := Below.then' (Below.refl v1.heap.size v1) hb2) | (with_reducible have k2 := Below.then' (Below.alloc' (Below.refl v1.heap.size v1) _) hb2)); have B2 := Lib.hid (Below.then' B1.out k2); have hJ1 := hI1.below k2; clear hI1; (try (have ZB := Lib.hid (ZA.out.below k2); clear ZA; have ZA := ZB; clear ZB)); (try (with_reducible have ZA := Lib.hid (Z0.one1' hb2))); (try have zl2 := ZA.out.lt); clear X1; have X2 := HSX.out _ B2.out; have hl2 := X2.la; have hs2 := Lib.hid k2.size) | (go_at_call 126; with_reducible refine Calls.mono (HL3.out _ r cls _ _ ?_ ?_ ?_ ?_ ?_) ?_; (· (first | with_reducible exact B2.out | (with_reducible refine Below.alloc' ?_ _; with_reducible exact B2.out))); (· (first | with_reducible exact hst1 | with_reducible exact hst1.alloc _)); (· (first | with_reducible exact hip1 | with_reducible exact hip1.alloc _)); (· (first | with_reducible exact hJ1 | with_reducible exact hJ1.alloc _)); (· (first | with_reducible exact hI2 | with_reducible exact hI2.alloc _)); rintro e v3 h3; obtain ⟨L3, a1, n1, c1, a2, n2, c2, rfl, hr3, hf3, hb3⟩ := h3.rows; (first | (with_reducible have R3 := Rws.one' hr3) | (have R3 := hr3)); (first | (with_reducible have E3 := Rws.ex1 hr3) | (have E3 := Rws.ex0 hr3)); (first | (with_reducible have k3 := Below.then' (Below.refl v2.heap.size v2) hb3) | (with_reducible have k3 := Below.then' (Below.alloc' (Below.refl v2.heap.size v2) _) hb3)); have B3 := Lib.hid (Below.then' B2.out k3); (try (have ZB := Lib.hid (ZA.out.below k3); clear ZA; have ZA := ZB; clear ZB)); (try (with_reducible have ZA := Lib.hid (Z0.one1' hb3))); (try have zl3 := ZA.out.lt); clear X2; have X3 := HSX.out _ B3.out; have hl3 := X3.la; have hs3 := Lib.hid k3.size; (try (obtain ⟨qal, qa0, qa1, qa2, qa3, qa4, qa5⟩ := ZA.out))))
            all_goals
              (try have z7 := ZA.out.lt)
              have z23 := hs3.out
              have z12 := hs2.out
              have z01 := B1.out.size
              have HX := Lib.hid X3
              have BB : Below wc.heap.size wc v3 := B3.out
              have hb3 : wc.heap.size ≤ v3.heap.size := B3.out.size
              obtain ⟨hlm, hst4, rfl, rfl, hdis⟩ := hf3
              have HD := Lib.hid (And.intro hlm (And.intro hst4 hdis))
              clear X3 hlm hst4 hdis
              go_wp2
              go_meet
              case rel =>
                obtain ⟨B3, hEB, hRR⟩ := E3
                clear R3
                exact ⟨L3, _, a1, a2, c1, c2, B3, v3.heap.size, rfl, HD.out.1, HD.out.2.1, (by omega), ⟨(by first | (simp; done) | (simp; omega)), (by go_simp), (by go_simp), (by go_simp)⟩, (by ((repeat' (first | with_reducible assumption | with_reducible refine Rws.alloc ?_ _ | with_reducible refine Rws.set ?_ ?_ | omega)); done)), (by omega), HD.out.2.2, (by ((repeat' (first | with_reducible assumption | with_reducible refine Below.alloc' ?_ _ | with_reducible refine Below.set' ?_ ?_ | omega)); done))⟩
        case rest =>
          obtain ⟨L, p, a1, a2, c1, c2, B, H, rfl, hlm, hst4, hpb, hT3, hR3, hB3, hdis, hb3⟩ := hcut
          have QX := Lib.hid (QT.out.trans (hb3.mono QT.out.size))
          have ZX := Lib.hid (ZT.out.below hb3)
          have hzl := HZL.out
          have z0 := ZX.out.c0
          have z1 := ZX.out.c1
          have z2 := ZX.out.c2
          have f0 := ZX.out.f0
          have f1 := ZX.out.f1
          have f2 := ZX.out.f2
          have t0 := hT3.cs.1
          have t1 := hT3.cs.2.1
          have t2 := hT3.cs.2.2
          have hne1 : ¬ (w.heap.size + 1 = p) := by omega
          have hne2 : ¬ (p = w.heap.size + 1) := by omega
          have hB4 : w.heap.size + 1 < B := by omega
          have FI := Lib.hid (fin_cells (x := .int .i64 L.st) (y := .slice a1 L.next.length c1) (z := .slice a2 L.ends.length c2) (hR3.apart hdis) QX.out (Nat.le_succ _) hB4 (some3 z0 z1 z2) (by omega))
          have HD := Lib.hid (And.intro hlm hst4)
          clear hlm hst4 hpb hT3 hR3 hB3 hB4 hdis hb3 v0 v1 v2 X0 hl0 HSX HL1 HL2 HL3 BD HN0 hzl
          go_upto_region 8 with fail
          go_region
          all_goals
            clear hne1 hne2 z0 z1 z2 f0 f1 f2 t0 t1 t2
            obtain ⟨r1, r2, r3, r4, r5⟩ := FI.out _ rfl
            have HR := Lib.hid (And.intro (r1.same (grown_drew _ none)) r2.drew)
            clear r1 r2
            go_wp2
            refine bodyPost_ret (v := .tuple #[.agg #[.int .i64 L.st, .slice a1 L.next.length c1, .slice a2 L.ends.length c2], .bool (decide (L.st ≤ 48))]) ?_ rfl ⟨L, a1, a2, c1, c2, HD.out.1, HD.out.2, rfl, HR.out.1, HR.out.2⟩
            simp [results, Try.results134, go_sem, r3, r4, r5]
end Go.Proofs.Ytlbblfbiiceofaa

namespace Go.Proofs.Ytlbblfbiiceofaa
open Go.RowKit

/-- the least machines' form -/
theorem LeastNew.form {m : M} {w w' : World} {e : Ending} (h : LeastNew m w e w') : ∃ k nv ev, e = .returned (.agg #[.int .i64 k.st, nv, ev]) ∧ IsLmZ m k ∧ IsInts w' nv k.next ∧ IsBools w' ev k.ends ∧ Below w.heap.size w w' := by
  obtain ⟨k, nv, ev, h1, h2, h3, h4, h5⟩ := h.reads'
  exact ⟨k, nv, ev, h2, h1, h3, h4, h5⟩
/-- a machine of pairs, and true -/
def BxPairs (f : List (Fin 3) → Bool) (V : World) (e : Ending) (w' : World) : Prop := ∃ X, X.good ∧ X.lang 0 = f ∧ PairNew X V e w'
theorem BxPairs.rows {f : List (Fin 3) → Bool} {w w' : World} {e : Ending} (h : BxPairs f w e w') : ∃ X a1 n1 c1 a2 n2 c2, e = .returned (.tuple #[.agg #[.int .i64 X.st, .slice a1 n1 c1, .slice a2 n2 c2], .bool true]) ∧ Rws w.heap.size w'.heap.size X (.slice a1 n1 c1) (.slice a2 n2 c2) w' ∧ (X.good ∧ X.lang 0 = f) ∧ Below w.heap.size w w' := by
  obtain ⟨X, h1, h2, a1, a2, c1, c2, rfl, hA, hb⟩ := h
  exact ⟨X, a1, _, c1, a2, _, c2, rfl, ⟨Nat.le_refl _, hA.head, hA.tail.head, hA.lt, hA.tail.lt⟩, ⟨h1, h2⟩, hb⟩

set_option maxHeartbeats 4000000 in
set_option maxRecDepth 100000 in
theorem specJoined_any (k : Nat) (kk : Int)
    (HP : ∀ (A B : M) (an ae bn be : Value) (w : World) (N : Nat), IsInts w an A.next → IsBools w ae A.ends → IsInts w bn B.next → IsBools w be B.ends → A.good → B.good → B.st ≤ 48 → (bfsTo (sOn k A B) (pc 0 0) N).1.length = N → N ≤ 4000 →
      Calls Try.prog 133 #[.agg #[.int .i64 A.st, an, ae], .agg #[.int .i64 B.st, bn, be], .int .i64 kk] w (PairNew (bM (sOn k A B) (pc 0 0) N (pEnds A B (gk k))) w))
    (A B : M) (an ae bn be : Value) (w : World) (h1 : IsInts w an A.next) (h2 : IsBools w ae A.ends) (h3 : IsInts w bn B.next) (h4 : IsBools w be B.ends) (hs1 : (Lit.int .i64 A.st).wf = true) (hs2 : (Lit.int .i64 B.st).wf = true) :
    Calls Try.prog 129 #[.agg #[.int .i64 A.st, an, ae], .agg #[.int .i64 B.st, bn, be], .int .i64 kk] w (JoinNew (A.ok && B.ok) (fun u => gk k (A.lang 0 u) (B.lang 0 u)) w) := by
  obtain ⟨T2, q2⟩ := Two.new 115 h1 h2 h3 h4
  have hbz := (Below.refl _ ((w.alloc (.cells #[.int .i64 A.st, an, ae] 115)).alloc (.cells #[.int .i64 B.st, bn, be] 115))).alloc (Nat.le_refl _) (.cells #[.int .i64 0, .slice none 0 0, .slice none 0 0] 115)
  have HT := Lib.hid (T2.below hbz)
  have HQ := Lib.hid (q2.trans (hbz.mono q2.size))
  have hz := Z0.new ((w.alloc (.cells #[.int .i64 A.st, an, ae] 115)).alloc (.cells #[.int .i64 B.st, bn, be] 115))
  rw [World.size_alloc, World.size_alloc] at hz
  have HZ := Lib.hid hz
  have HPP := Lib.hid HP
  have y0 := HT.out.a.c0
  have y1 := HT.out.a.c1
  have y2 := HT.out.a.c2
  clear T2 q2 h1 h2 h3 h4 hz hbz HP
  go_enter Try.func129, Try.ntmps129
  go_wp2_with fail
  generalize hW2 : ((w.alloc (.cells #[.int .i64 A.st, an, ae] 115)).alloc (.cells #[.int .i64 B.st, bn, be] 115)).alloc (.cells #[.int .i64 0, .slice none 0 0, .slice none 0 0] 115) = w2 at *
  clear hW2 y0 y1 y2
  refine (specMachineOk_any A an ae w2 HT.out.a.ints HT.out.a.bools hs1).mono ?_
  rintro e w3 ⟨rfl, hb3⟩
  have T3 := Lib.hid (HT.out.below hb3)
  have Q3 := Lib.hid (HQ.out.trans (hb3.mono HQ.out.size))
  have Z3 := Lib.hid (HZ.out.below hb3)
  clear hb3
  cases hk1 : A.ok with
  | false =>
    have HJ : Hid (IsJoin (A.ok && B.ok) (fun u => gk k (A.lang 0 u) (B.lang 0 u)) ⟨0, [], []⟩ false) := Lib.hid (.inr ⟨rfl, rfl, fun h => by rw [hk1] at h; cases h⟩)
    have z0 := Z3.out.c0
    have z1 := Z3.out.c1
    have z2 := Z3.out.c2
    have f0 := Z3.out.f0
    have f1 := Z3.out.f1
    have f2 := Z3.out.f2
    have FI := Lib.hid (fin_cells (x := .int .i64 0) (y := .slice none 0 0) (z := .slice none 0 0) (apart_nils w3.heap.size w3) Q3.out (by omega) Z3.out.lt (some3 z0 z1 z2) Q3.out.size)
    go_wp2
    obtain ⟨r1, r2, r3, r4, r5⟩ := FI.out _ rfl
    refine bodyPost_ret (v := .tuple #[.agg #[.int .i64 0, .slice none 0 0, .slice none 0 0], .bool false]) ?_ rfl ⟨⟨0, [], []⟩, false, none, none, 0, 0, HJ.out, rfl, r1, r2⟩
    simp [results, Try.results129, go_sem, r3, r4, r5]
  | true =>
    have y0 := T3.out.b.c0
    have y1 := T3.out.b.c1
    have y2 := T3.out.b.c2
    go_wp2_with fail
    clear y0 y1 y2
    refine (specMachineOk_any B bn be w3 T3.out.b.ints T3.out.b.bools hs2).mono ?_
    rintro e w4 ⟨rfl, hb4⟩
    have T4 := Lib.hid (T3.out.below hb4)
    have Q4 := Lib.hid (Q3.out.trans (hb4.mono Q3.out.size))
    have Z4 := Lib.hid (Z3.out.below hb4)
    clear hb4
    cases hk2 : B.ok with
    | false =>
      have HJ : Hid (IsJoin (A.ok && B.ok) (fun u => gk k (A.lang 0 u) (B.lang 0 u)) ⟨0, [], []⟩ false) := Lib.hid (.inr ⟨rfl, rfl, fun h => by rw [hk1, hk2] at h; cases h⟩)
      have z0 := Z4.out.c0
      have z1 := Z4.out.c1
      have z2 := Z4.out.c2
      have f0 := Z4.out.f0
      have f1 := Z4.out.f1
      have f2 := Z4.out.f2
      have FI := Lib.hid (fin_cells (x := .int .i64 0) (y := .slice none 0 0) (z := .slice none 0 0) (apart_nils w4.heap.size w4) Q4.out (by omega) Z4.out.lt (some3 z0 z1 z2) Q4.out.size)
      go_wp2
      obtain ⟨r1, r2, r3, r4, r5⟩ := FI.out _ rfl
      refine bodyPost_ret (v := .tuple #[.agg #[.int .i64 0, .slice none 0 0, .slice none 0 0], .bool false]) ?_ rfl ⟨⟨0, [], []⟩, false, none, none, 0, 0, HJ.out, rfl, r1, r2⟩
      simp [results, Try.results129, go_sem, r3, r4, r5]
    | true =>
      have HKK := Lib.hid (And.intro hk1 hk2)
      clear hk1 hk2
      go_upto_region 3 with fail
      have X0 : Six w.heap.size (w.heap.size + 1) A.st B.st an ae bn be w4 := ⟨T4.out.a.hB, T4.out.b.hB, T4.out.a.c0, T4.out.a.c1, T4.out.a.c2, T4.out.b.c0, T4.out.b.c1, T4.out.b.c2⟩
      have hl0 := X0.la
      have hm0 := X0.lb
      have v0 := T4.out.a.c0
      have v1 := T4.out.a.c1
      have v2 := T4.out.a.c2
      have v3 := T4.out.b.c0
      have v4 := T4.out.b.c1
      have v5 := T4.out.b.c2
      have HSX : Hid (∀ V, Below w4.heap.size w4 V → Six w.heap.size (w.heap.size + 1) A.st B.st an ae bn be V) := Lib.hid (fun V h => X0.below h)
      have HL1 : Hid (∀ V, Below w4.heap.size w4 V → Calls Try.prog 116 #[.agg #[.int .i64 A.st, an, ae]] V (LeastNew A V)) := Lib.hid (fun V h => specLeastZ A an ae V (T4.out.below h).a.ints (T4.out.below h).a.bools hs1)
      have HL2 : Hid (∀ V, Below w4.heap.size w4 V → Calls Try.prog 116 #[.agg #[.int .i64 B.st, bn, be]] V (LeastNew B V)) := Lib.hid (fun V h => specLeastZ B bn be V (T4.out.below h).b.ints (T4.out.below h).b.bools hs2)
      have HL3 : Hid (∀ V (KA KB : M) (na ea nb eb : Value), Below w4.heap.size w4 V → IsLmZ A KA → IsLmZ B KB → IsInts V na KA.next → IsBools V ea KA.ends → IsInts V nb KB.next → IsBools V eb KB.ends → Calls Try.prog 133 #[.agg #[.int .i64 KA.st, na, ea], .agg #[.int .i64 KB.st, nb, eb], .int .i64 kk] V (BxPairs (fun u => gk k (A.lang 0 u) (B.lang 0 u)) V)) := Lib.hid (fun V KA KB na ea nb eb _ hA hB i1 i2 i3 i4 => by
        obtain ⟨lA, sA⟩ := hA.1 HKK.out.1
        obtain ⟨lB, sB⟩ := hB.1 HKK.out.2
        have gA := lA.good (by omega)
        have gB := lB.good (by omega)
        obtain ⟨N, hN24, hN⟩ := pair_n (A := KA) (B := KB) gA.st0 sA sB gB.st0 (on := sOn k KA KB) (fun x hx l b hl h => sOn_in gA gB sB x hx l b hl h)
        refine (HPP.out KA KB na ea nb eb V N i1 i2 i3 i4 gA gB sB hN (by omega)).mono (fun e w' hM => ⟨_, bM_good hN (by omega), ?_, hM⟩)
        rw [sOn_lang k gA gB sB hN, lA.lang, lB.lang])
      have BD := Lib.hid ((Below.refl w4.heap.size w4).drew)
      go_cut [8, 9] from 12 to 38 (fun t _ wx => ∃ (X : M) (p : Nat) (v u : Value), t = .pointer (some ⟨p, 0, none⟩) ∧ X.good ∧ (X.lang 0 = fun u => gk k (A.lang 0 u) (B.lang 0 u)) ∧ MachBox p X.st v X.next u X.ends wx ∧ Below w4.heap.size w4 wx)
      case first =>
        as_aux_lemma =>
          go_region_held3 (fun w' => w'.cell? ⟨w.heap.size, 0, none⟩ = some (.int .i64 A.st) ∧ w'.cell? ⟨w.heap.size, 1, none⟩ = some an ∧ w'.cell? ⟨w.heap.size, 2, none⟩ = some ae ∧ w'.cell? ⟨w.heap.size + 1, 0, none⟩ = some (.int .i64 B.st) ∧ w'.cell? ⟨w.heap.size + 1, 1, none⟩ = some bn ∧ w'.cell? ⟨w.heap.size + 1, 2, none⟩ = some be)
            (first | (refine Six.cells ?_; ((repeat' (first | with_reducible assumption | with_reducible refine Six.alloc ?_ _ | with_reducible refine Six.drew ?_ | with_reducible refine Six.set ?_ ?_ ?_ | omega)); done)))
            (first | (go_at_call 116; with_reducible refine Calls.mono (HL1.out _ ?_) ?_; (· (first | with_reducible exact BD.out | with_reducible exact bel1 _ _)); rintro e v1 h1; obtain ⟨K1, a1v, b1v, rfl, hK1, hi1, hj1, hb1⟩ := h1.form; (first | (with_reducible have B1 := Lib.hid (Below.then' BD.out hb1)) | (with_reducible have B1 := Lib.hid (Below.then' (bel1 w4 _) hb1))); (first | (with_reducible have ZA := Lib.hid (Z0.one1 hb1)) | skip); (try have zl1 := ZA.out.lt); have X1 := HSX.out _ B1.out; have hl1 := X1.la; have hm1 := X1.lb; clear h1) | (go_at_call 116; with_reducible refine Calls.mono (HL2.out _  ?_) ?_; (· (first | with_reducible exact B1.out | (with_reducible refine Below.alloc' ?_ _; with_reducible exact B1.out))); rintro e v2 h2; obtain ⟨K2, a2v, b2v, rfl, hK2, hi2, hj2, hb2⟩ := h2.form; (first | (with_reducible have k2 := Below.then' (Below.refl v1.heap.size v1) hb2) | (with_reducible have k2 := Below.then' (Below.alloc' (Below.refl v1.heap.size v1) _) hb2)); have B2 := Lib.hid (Below.then' B1.out k2); have hi1b := hi1.below k2; clear hi1; have hj1b := hj1.below k2; clear hj1; (try (have ZB := Lib.hid (ZA.out.below k2); clear ZA; have ZA := ZB; clear ZB)); (try (with_reducible have ZA := Lib.hid (Z0.one1' hb2))); (try have zl2 := ZA.out.lt); clear X1; have X2 := HSX.out _ B2.out; have hl2 := X2.la; have hs2 := Lib.hid k2.size; have hm2 := X2.lb) | (go_at_call 133; with_reducible refine Calls.mono (HL3.out _ K1 K2 _ _ _ _ ?_ ?_ ?_ ?_ ?_ ?_ ?_) ?_; (· (first | with_reducible exact B2.out | (with_reducible refine Below.alloc' ?_ _; with_reducible exact B2.out))); (· (first | with_reducible exact hK1 | with_reducible exact hK1.alloc _)); (· (first | with_reducible exact hK2 | with_reducible exact hK2.alloc _)); (· (first | with_reducible exact hi1b | with_reducible exact hi1b.alloc _)); (· (first | with_reducible exact hj1b | with_reducible exact hj1b.alloc _)); (· (first | with_reducible exact hi2 | with_reducible exact hi2.alloc _)); (· (first | with_reducible exact hj2 | with_reducible exact hj2.alloc _)); rintro e v3 h3; obtain ⟨X3m, a1, n1, c1, a2, n2, c2, rfl, hr3, hf3, hb3⟩ := h3.rows; (first | (with_reducible have R3 := Rws.one' hr3) | (have R3 := hr3)); (first | (with_reducible have E3 := Rws.ex1 hr3) | (have E3 := Rws.ex0 hr3)); (first | (with_reducible have k3 := Below.then' (Below.refl v2.heap.size v2) hb3) | (with_reducible have k3 := Below.then' (Below.alloc' (Below.refl v2.heap.size v2) _) hb3)); have B3 := Lib.hid (Below.then' B2.out k3); (try (have ZB := Lib.hid (ZA.out.below k3); clear ZA; have ZA := ZB; clear ZB)); (try (with_reducible have ZA := Lib.hid (Z0.one1' hb3))); (try have zl3 := ZA.out.lt); clear X2; have X3 := HSX.out _ B3.out; have hl3 := X3.la; have hs3 := Lib.hid k3.size; have hm3 := X3.lb; (try (obtain ⟨qal, qa0, qa1, qa2, qa3, qa4, qa5⟩ := ZA.out))))
          all_goals
            (try have z7 := ZA.out.lt)
            have z23 := hs3.out
            have z12 := hs2.out
            have z01 := B1.out.size
            have HX := Lib.hid X3
            have BB : Below w4.heap.size w4 v3 := B3.out
            obtain ⟨hgX, hlX⟩ := hf3
            have HD := Lib.hid (And.intro hgX hlX)
            clear X3 hgX hlX
            go_wp2
            go_meet
            case rel => exact ⟨X3m, _, _, _, rfl, HD.out.1, HD.out.2, ⟨(by first | (simp; done) | (simp; omega)), (by go_simp), (by go_simp), (by go_simp), (Rws.via R3 (fun _ => by ((repeat' (first | with_reducible assumption | with_reducible refine Rws.alloc ?_ _ | with_reducible refine Rws.set ?_ ?_ | omega)); done))).1, (Rws.via R3 (fun _ => by ((repeat' (first | with_reducible assumption | with_reducible refine Rws.alloc ?_ _ | with_reducible refine Rws.set ?_ ?_ | omega)); done))).2⟩, (by ((repeat' (first | with_reducible assumption | with_reducible refine Below.alloc' ?_ _ | with_reducible refine Below.set' ?_ ?_ | omega)); done))⟩
      case rest =>
        obtain ⟨X, p, v, u, rfl, hgX, hlX, hMX, hbX⟩ := hcut
        have QX := Lib.hid (Q4.out.trans (hbX.mono Q4.out.size))
        have ZX := Lib.hid (Z4.out.below hbX)
        have MX := Lib.hid hMX
        have HD := Lib.hid (And.intro hgX hlX)
        clear X0 hl0 hm0 v0 v1 v2 v3 v4 v5 HSX HL1 HL2 HL3 BD hgX hlX hMX hbX T4 Q4 Z4 T3 Q3 Z3
        have y0 := MX.out.c0
        have y1 := MX.out.c1
        have y2 := MX.out.c2
        go_wp2_with fail
        clear y0 y1 y2
        refine (specLeastOf_any X v u _ MX.out.ints MX.out.bools HD.out.1).mono ?_
        rintro e w5 ⟨L, a1, a2, c1, c2, hlm, hst4, rfl, hA5, hb5⟩
        rw [HD.out.2] at hlm
        have HLM := Lib.hid hlm
        clear hlm
        have Z5 := ZX.out.below hb5
        have Q5 := QX.out.trans (hb5.mono QX.out.size)
        have hal : Below w5.heap.size w5 (w5.alloc (.cells #[.int .i64 L.st, .slice a1 L.next.length c1, .slice a2 L.ends.length c2] 115)) := (Below.refl _ _).alloc (Nat.le_refl _) _
        have A6 := Lib.hid (hA5.same (World.grownBy_alloc w5 (.cells #[.int .i64 L.st, .slice a1 L.next.length c1, .slice a2 L.ends.length c2] 115) none))
        have Z6 := Lib.hid (Z5.below hal)
        have Q6 := Lib.hid (Q5.trans (hal.mono Q5.size))
        have hlz : w.heap.size + 1 + 1 < wc.heap.size := ZX.out.lt
        have hsz := QX.out.size
        have t0 := World.cell?_alloc_new w5 #[.int .i64 L.st, .slice a1 L.next.length c1, .slice a2 L.ends.length c2] 115 0
        have t1 := World.cell?_alloc_new w5 #[.int .i64 L.st, .slice a1 L.next.length c1, .slice a2 L.ends.length c2] 115 1
        have t2 := World.cell?_alloc_new w5 #[.int .i64 L.st, .slice a1 L.next.length c1, .slice a2 L.ends.length c2] 115 2
        clear hA5 hb5 Z5 Q5 hal
        go_upto_region 5 with fail
        generalize w5.alloc (.cells #[.int .i64 L.st, .slice a1 L.next.length c1, .slice a2 L.ends.length c2] 115) = W9 at *
        have z0 := Z6.out.c0
        have z1 := Z6.out.c1
        have z2 := Z6.out.c2
        have f0 := Z6.out.f0
        have f1 := Z6.out.f1
        have f2 := Z6.out.f2
        by_cases h48 : L.st ≤ 48
        · have hd : decide (L.st ≤ 48) = true := by simp [h48]
          have HJ : Hid (IsJoin (A.ok && B.ok) (fun u => gk k (A.lang 0 u) (B.lang 0 u)) L true) := Lib.hid (.inl ⟨rfl, by rw [HKK.out.1, HKK.out.2]; rfl, HLM.out, h48⟩)
          have FI := Lib.hid (fin_cells (x := .int .i64 L.st) (y := .slice a1 L.next.length c1) (z := .slice a2 L.ends.length c2) A6.out Q6.out (by omega) hlz (some3 z0 z1 z2) hsz)
          clear A6 Q6
          rw [hd]
          clear hd
          go_wp2
          obtain ⟨r1, r2, r3, r4, r5⟩ := FI.out _ rfl
          refine bodyPost_ret (v := .tuple #[.agg #[.int .i64 L.st, .slice a1 L.next.length c1, .slice a2 L.ends.length c2], .bool true]) ?_ rfl ⟨L, true, a1, a2, c1, c2, HJ.out, rfl, r1, r2⟩
          simp [results, Try.results129, go_sem, r3, r4, r5]
        · have hd : decide (L.st ≤ 48) = false := by simp; omega
          have HJ : Hid (IsJoin (A.ok && B.ok) (fun u => gk k (A.lang 0 u) (B.lang 0 u)) ⟨0, [], []⟩ false) := Lib.hid (.inr ⟨rfl, rfl, fun _ K hK => by rw [hK.one HLM.out]; omega⟩)
          have FI := Lib.hid (fin_cells (x := .int .i64 0) (y := .slice none 0 0) (z := .slice none 0 0) (apart_nils wc.heap.size W9) Q6.out (by omega) hlz (some3 z0 z1 z2) hsz)
          clear A6 Q6
          rw [hd]
          clear hd
          go_wp2
          obtain ⟨r1, r2, r3, r4, r5⟩ := FI.out _ rfl
          refine bodyPost_ret (v := .tuple #[.agg #[.int .i64 0, .slice none 0 0, .slice none 0 0], .bool false]) ?_ rfl ⟨⟨0, [], []⟩, false, none, none, 0, 0, HJ.out, rfl, r1, r2⟩
          simp [results, Try.results129, go_sem, r3, r4, r5]
end Go.Proofs.Ytlbblfbiiceofaa

namespace Go.Proofs.Ytlbblfbiiceofaa
open Go.RowKit

set_option maxHeartbeats 1600000 in
theorem specBoth_any (A B : M) (an ae bn be : Value) (w : World) (h1 : IsInts w an A.next) (h2 : IsBools w ae A.ends) (h3 : IsInts w bn B.next) (h4 : IsBools w be B.ends) (hs1 : (Lit.int .i64 A.st).wf = true) (hs2 : (Lit.int .i64 B.st).wf = true) :
    Calls Try.prog 119 #[.agg #[.int .i64 A.st, an, ae], .agg #[.int .i64 B.st, bn, be]] w (JoinNew (A.ok && B.ok) (fun u => A.lang 0 u && B.lang 0 u) w) := by
  obtain ⟨T2, q2⟩ := Two.new 115 h1 h2 h3 h4
  have hbz := (Below.refl _ ((w.alloc (.cells #[.int .i64 A.st, an, ae] 115)).alloc (.cells #[.int .i64 B.st, bn, be] 115))).alloc (Nat.le_refl _) (.cells #[.int .i64 0, .slice none 0 0, .slice none 0 0] 115)
  have HT := Lib.hid (T2.below hbz)
  have HQ := Lib.hid (q2.trans (hbz.mono q2.size))
  have hz := Z0.new ((w.alloc (.cells #[.int .i64 A.st, an, ae] 115)).alloc (.cells #[.int .i64 B.st, bn, be] 115))
  rw [World.size_alloc, World.size_alloc] at hz
  have HZ := Lib.hid hz
  have y0 := HT.out.a.c0
  have y1 := HT.out.a.c1
  have y2 := HT.out.a.c2
  have y3 := HT.out.b.c0
  have y4 := HT.out.b.c1
  have y5 := HT.out.b.c2
  clear T2 q2 h1 h2 h3 h4 hz hbz
  go_enter Try.func119, Try.ntmps119
  go_wp2_with fail
  generalize hW2 : ((w.alloc (.cells #[.int .i64 A.st, an, ae] 115)).alloc (.cells #[.int .i64 B.st, bn, be] 115)).alloc (.cells #[.int .i64 0, .slice none 0 0, .slice none 0 0] 115) = w2 at *
  clear hW2 y0 y1 y2 y3 y4 y5
  refine (specJoined_any 0 0 (fun A B an ae bn be w N h1 h2 h3 h4 hA hB hB4 hN hN4 => specPairs0_any A B an ae bn be w N h1 h2 h3 h4 hA hB hB4 hN hN4) A B an ae bn be w2 HT.out.a.ints HT.out.a.bools HT.out.b.ints HT.out.b.bools hs1 hs2).mono ?_
  rintro e w6 ⟨K, r, d1, d2, e1, e2, hJ, rfl, hA6, hb6⟩
  have HJ : Hid (IsJoin (A.ok && B.ok) (fun u => A.lang 0 u && B.lang 0 u) K r) := Lib.hid hJ
  have Z6 := Lib.hid (HZ.out.below hb6)
  have Q6 := Lib.hid (HQ.out.trans (hb6.mono HQ.out.size))
  have z0 := Z6.out.c0
  have z1 := Z6.out.c1
  have z2 := Z6.out.c2
  have f0 := Z6.out.f0
  have f1 := Z6.out.f1
  have f2 := Z6.out.f2
  have FI := Lib.hid (fin_cells (x := .int .i64 K.st) (y := .slice d1 K.next.length e1) (z := .slice d2 K.ends.length e2) hA6 Q6.out (by omega) HZ.out.lt (some3 z0 z1 z2) HQ.out.size)
  clear hJ hA6 hb6
  go_wp2
  obtain ⟨r1, r2, r3, r4, r5⟩ := FI.out _ rfl
  refine bodyPost_ret (v := .tuple #[.agg #[.int .i64 K.st, .slice d1 K.next.length e1, .slice d2 K.ends.length e2], .bool r]) ?_ rfl ⟨K, r, d1, d2, e1, e2, HJ.out, rfl, r1, r2⟩
  simp [results, Try.results119, go_sem, r3, r4, r5]

set_option maxHeartbeats 1600000 in
theorem specEither_any (A B : M) (an ae bn be : Value) (w : World) (h1 : IsInts w an A.next) (h2 : IsBools w ae A.ends) (h3 : IsInts w bn B.next) (h4 : IsBools w be B.ends) (hs1 : (Lit.int .i64 A.st).wf = true) (hs2 : (Lit.int .i64 B.st).wf = true) :
    Calls Try.prog 118 #[.agg #[.int .i64 A.st, an, ae], .agg #[.int .i64 B.st, bn, be]] w (JoinNew (A.ok && B.ok) (fun u => A.lang 0 u || B.lang 0 u) w) := by
  obtain ⟨T2, q2⟩ := Two.new 115 h1 h2 h3 h4
  have hbz := (Below.refl _ ((w.alloc (.cells #[.int .i64 A.st, an, ae] 115)).alloc (.cells #[.int .i64 B.st, bn, be] 115))).alloc (Nat.le_refl _) (.cells #[.int .i64 0, .slice none 0 0, .slice none 0 0] 115)
  have HT := Lib.hid (T2.below hbz)
  have HQ := Lib.hid (q2.trans (hbz.mono q2.size))
  have hz := Z0.new ((w.alloc (.cells #[.int .i64 A.st, an, ae] 115)).alloc (.cells #[.int .i64 B.st, bn, be] 115))
  rw [World.size_alloc, World.size_alloc] at hz
  have HZ := Lib.hid hz
  have y0 := HT.out.a.c0
  have y1 := HT.out.a.c1
  have y2 := HT.out.a.c2
  have y3 := HT.out.b.c0
  have y4 := HT.out.b.c1
  have y5 := HT.out.b.c2
  clear T2 q2 h1 h2 h3 h4 hz hbz
  go_enter Try.func118, Try.ntmps118
  go_wp2_with fail
  generalize hW2 : ((w.alloc (.cells #[.int .i64 A.st, an, ae] 115)).alloc (.cells #[.int .i64 B.st, bn, be] 115)).alloc (.cells #[.int .i64 0, .slice none 0 0, .slice none 0 0] 115) = w2 at *
  clear hW2 y0 y1 y2 y3 y4 y5
  refine (specJoined_any 1 1 (fun A B an ae bn be w N h1 h2 h3 h4 hA hB hB4 hN hN4 => specPairs1_any A B an ae bn be w N h1 h2 h3 h4 hA hB hB4 hN hN4) A B an ae bn be w2 HT.out.a.ints HT.out.a.bools HT.out.b.ints HT.out.b.bools hs1 hs2).mono ?_
  rintro e w6 ⟨K, r, d1, d2, e1, e2, hJ, rfl, hA6, hb6⟩
  have HJ : Hid (IsJoin (A.ok && B.ok) (fun u => A.lang 0 u || B.lang 0 u) K r) := Lib.hid hJ
  have Z6 := Lib.hid (HZ.out.below hb6)
  have Q6 := Lib.hid (HQ.out.trans (hb6.mono HQ.out.size))
  have z0 := Z6.out.c0
  have z1 := Z6.out.c1
  have z2 := Z6.out.c2
  have f0 := Z6.out.f0
  have f1 := Z6.out.f1
  have f2 := Z6.out.f2
  have FI := Lib.hid (fin_cells (x := .int .i64 K.st) (y := .slice d1 K.next.length e1) (z := .slice d2 K.ends.length e2) hA6 Q6.out (by omega) HZ.out.lt (some3 z0 z1 z2) HQ.out.size)
  clear hJ hA6 hb6
  go_wp2
  obtain ⟨r1, r2, r3, r4, r5⟩ := FI.out _ rfl
  refine bodyPost_ret (v := .tuple #[.agg #[.int .i64 K.st, .slice d1 K.next.length e1, .slice d2 K.ends.length e2], .bool r]) ?_ rfl ⟨K, r, d1, d2, e1, e2, HJ.out, rfl, r1, r2⟩
  simp [results, Try.results118, go_sem, r3, r4, r5]

theorem JoinNew.form {ok : Bool} {f : List (Fin 3) → Bool} {w w' : World} {e : Ending} (h : JoinNew ok f w e w') : ∃ (k : M) (r : Bool) (a1 a2 : Option Addr) (c1 c2 : Nat), IsJoin ok f k r ∧ e = .returned (.tuple #[.agg #[.int .i64 k.st, .slice a1 k.next.length c1, .slice a2 k.ends.length c2], .bool r]) ∧
    Apart w.heap.size [rowT 3 1 (.slice a1 k.next.length c1) k.next.length (k.next.map (Value.int .i64)), rowT 4 1 (.slice a2 k.ends.length c2) k.ends.length (k.ends.map Value.bool)] w' ∧ Below w.heap.size w w' := h
/-- the machine that takes all words -/
def mAll : M := ⟨1, [0, 0, 0], [true]⟩
theorem mAll_nx (l : Fin 3) : mAll.nx 0 (l.val : Int) = 0 := by
  match l with
  | ⟨0, _⟩ => rfl
  | ⟨1, _⟩ => rfl
  | ⟨2, _⟩ => rfl
theorem mAll_lang (u : List (Fin 3)) : mAll.lang 0 u = true := by
  induction u with
  | nil => rfl
  | cons l u ih => rw [M.lang_cons, mAll_nx, ih]
def BxAll (V : World) (e : Ending) (w' : World) : Prop := ∃ nv ev, e = .returned (.agg #[.int .i64 1, nv, ev]) ∧ IsInts w' nv mAll.next ∧ IsBools w' ev mAll.ends ∧ Below V.heap.size V w'
theorem BxAll.form {V w' : World} {e : Ending} (h : BxAll V e w') : ∃ nv ev, e = .returned (.agg #[.int .i64 1, nv, ev]) ∧ IsInts w' nv mAll.next ∧ IsBools w' ev mAll.ends ∧ Below V.heap.size V w' := h
theorem specAll_any (w : World) : Calls Try.prog 130 #[.bool true] w (BxAll w) := by
  have h1 := World.ownsRow_lit (base := 0) (e := 3) (size := 1) (w.alloc (.cells #[.int .i64 1, .slice (some ⟨w.heap.size + 1, 0, none⟩) 3 3, .slice (some ⟨w.heap.size + 1 + 1, 0, none⟩) 1 1] 115)) #[.int .i64 0, .int .i64 0, .int .i64 0] 3 (Nat.zero_le _) (by unfold maxLen; omega) rfl
  have h2 := World.ownsRow_lit (base := 0) (e := 4) (size := 1) ((w.alloc (.cells #[.int .i64 1, .slice (some ⟨w.heap.size + 1, 0, none⟩) 3 3, .slice (some ⟨w.heap.size + 1 + 1, 0, none⟩) 1 1] 115)).alloc (.cells #[.int .i64 0, .int .i64 0, .int .i64 0] 3)) #[.bool true] 1 (Nat.zero_le _) (by unfold maxLen; omega) rfl
  have I1 := IsInts.of_owns (xs := mAll.next) h1
  have I2 := IsBools.of_owns (xs := mAll.ends) h2
  have b2 := (Below.refl _ ((w.alloc (.cells #[.int .i64 1, .slice (some ⟨w.heap.size + 1, 0, none⟩) 3 3, .slice (some ⟨w.heap.size + 1 + 1, 0, none⟩) 1 1] 115)).alloc (.cells #[.int .i64 0, .int .i64 0, .int .i64 0] 3))).alloc (Nat.le_refl _) (.cells #[.bool true] 4)
  have J1 := I1.below b2
  rw [World.size_alloc] at J1
  rw [World.size_alloc, World.size_alloc] at I2
  have hb : Below w.heap.size w ((((w.alloc (.cells #[.int .i64 1, .slice (some ⟨w.heap.size + 1, 0, none⟩) 3 3, .slice (some ⟨w.heap.size + 1 + 1, 0, none⟩) 1 1] 115)).alloc (.cells #[.int .i64 0, .int .i64 0, .int .i64 0] 3)).alloc (.cells #[.bool true] 4))) := (((Below.refl _ _).alloc (Nat.le_refl _) _).alloc (by simp) _).alloc (by simp; omega) _
  go_enter Try.func130, Try.ntmps130
  go_wp2
  refine bodyPost_ret (v := .agg #[.int .i64 1, .slice (some ⟨w.heap.size + 1, 0, none⟩) 3 3, .slice (some ⟨w.heap.size + 1 + 1, 0, none⟩) 1 1]) ?_ rfl ⟨_, _, rfl, J1, I2, hb⟩
  simp [results, Try.results130, go_sem]

set_option maxHeartbeats 1600000 in
theorem specNot_any (m : M) (nv ev : Value) (w : World) (h1 : IsInts w nv m.next) (h2 : IsBools w ev m.ends) (hst : (Lit.int .i64 m.st).wf = true) :
    Calls Try.prog 117 #[.agg #[.int .i64 m.st, nv, ev]] w (JoinNew m.ok (fun u => !m.lang 0 u) w) := by
  have hM : MachBox w.heap.size m.st nv m.next ev m.ends (w.alloc (.cells #[.int .i64 m.st, nv, ev] 115)) := MachBox.new _ h1 h2
  have hb2 := (Below.refl _ (w.alloc (.cells #[.int .i64 m.st, nv, ev] 115))).alloc (Nat.le_refl _) (.cells #[.int .i64 0, .slice none 0 0, .slice none 0 0] 115)
  have M2 := Lib.hid (hM.below hb2)
  have q2 := Lib.hid (((Below.refl w.heap.size w).alloc (Nat.le_refl _) (.cells #[.int .i64 m.st, nv, ev] 115)).trans (hb2.mono (by simp)))
  have hz := Z0.new (w.alloc (.cells #[.int .i64 m.st, nv, ev] 115))
  rw [World.size_alloc] at hz
  have Z2 := Lib.hid hz
  have y0 := M2.out.c0
  have y1 := M2.out.c1
  have y2 := M2.out.c2
  clear hz hM hb2 h1 h2
  go_enter Try.func117, Try.ntmps117
  go_upto_region 1 with fail
  generalize hW2 : (w.alloc (.cells #[.int .i64 m.st, nv, ev] 115)).alloc (.cells #[.int .i64 0, .slice none 0 0, .slice none 0 0] 115) = w2 at *
  clear hW2
  have X0 := M2.out.tri
  have hl0 := X0.la
  have HSX : Hid (∀ V, Below w2.heap.size w2 V → Tri w.heap.size m.st nv ev V) := Lib.hid (fun V h => X0.below h)
  have HZZ : Hid (∀ V, Below w2.heap.size w2 V → Z0 (w.heap.size + 1) V) := Lib.hid (fun V h => Z2.out.below h)
  have HL1 : Hid (∀ V, Below w2.heap.size w2 V → Calls Try.prog 130 #[.bool true] V (BxAll V)) := Lib.hid (fun V _ => specAll_any V)
  have HL2 : Hid (∀ V (na ea : Value), Below w2.heap.size w2 V → IsInts V na mAll.next → IsBools V ea mAll.ends → Calls Try.prog 129 #[.agg #[.int .i64 1, na, ea], .agg #[.int .i64 m.st, nv, ev], .int .i64 2] V (JoinNew m.ok (fun u => !m.lang 0 u) V)) := Lib.hid (fun V na ea h hi hj => by
    have h5 := specJoined_any 2 2 (fun A B an ae bn be w N h1 h2 h3 h4 hA hB hB4 hN hN4 => specPairs2_any A B an ae bn be w N h1 h2 h3 h4 hA hB hB4 hN hN4) mAll m na ea nv ev V hi hj (M2.out.below h).ints (M2.out.below h).bools (by decide) hst
    have e1 : (mAll.ok && m.ok) = m.ok := by rw [show mAll.ok = true from by decide, Bool.true_and]
    have e2 : (fun u => gk 2 (mAll.lang 0 u) (m.lang 0 u)) = fun u => !m.lang 0 u := funext fun u => by rw [mAll_lang]; simp [gk]
    rw [e1, e2] at h5
    exact h5)
  have BD := Lib.hid ((Below.refl w2.heap.size w2).drew)
  go_region_held3 (fun w' => w'.cell? ⟨w.heap.size, 0, none⟩ = some (.int .i64 m.st) ∧ w'.cell? ⟨w.heap.size, 1, none⟩ = some nv ∧ w'.cell? ⟨w.heap.size, 2, none⟩ = some ev)
    (first | (refine Tri.cells ?_; ((repeat' (first | with_reducible assumption | with_reducible refine Tri.alloc ?_ _ | with_reducible refine Tri.drew ?_ | with_reducible refine Tri.set ?_ ?_ | omega)); done)))
    (first | (go_at_call 130; with_reducible refine Calls.mono (HL1.out _ ?_) ?_; (· (first | with_reducible exact BD.out | with_reducible exact bel1 _ _)); rintro e v1 h1; obtain ⟨a1v, b1v, rfl, hi1, hj1, hb1⟩ := h1.form; (first | (with_reducible have B1 := Lib.hid (Below.then' BD.out hb1)) | (with_reducible have B1 := Lib.hid (Below.then' (bel1 w2 _) hb1))); (first | (with_reducible have ZA := Lib.hid (Z0.one1 hb1)) | skip); (try have zl1 := ZA.out.lt); have X1 := HSX.out _ B1.out; have hl1 := X1.la; clear h1) | (go_at_call 129; with_reducible refine Calls.mono (HL2.out _ _ _ ?_ ?_ ?_) ?_; (· (with_reducible exact B1.out)); (· (with_reducible exact hi1)); (· (with_reducible exact hj1)); rintro e v2 h2; obtain ⟨K, r, d1, d2, e1, e2, hJ, rfl, hA2, hb2⟩ := h2.form; have B2 := Lib.hid (Below.then' B1.out hb2); have HJ := Lib.hid hJ; have HA := Lib.hid hA2; clear X1; have X2 := HSX.out _ B2.out; have hl2 := X2.la; obtain ⟨qal, z0, z1, z2, f0, f1, f2⟩ := HZZ.out _ B2.out; clear hJ hA2 hb2))
  all_goals
    have Q2 := Lib.hid (q2.out.trans (B2.out.mono q2.out.size))
    have hs1 : w.heap.size ≤ v1.heap.size := Nat.le_trans q2.out.size B1.out.size
    have hzl : w.heap.size + 1 < v1.heap.size := Nat.lt_of_lt_of_le Z2.out.lt B1.out.size
    have FI := Lib.hid (fin_cells (x := .int .i64 K.st) (y := .slice d1 K.next.length e1) (z := .slice d2 K.ends.length e2) HA.out Q2.out (Nat.le_succ _) hzl (some3 z0 z1 z2) hs1)
    clear X2 X0 y0 y1 y2 HSX HZZ HL1 HL2 BD
    go_wp2
    obtain ⟨r1, r2, r3, r4, r5⟩ := FI.out _ rfl
    refine bodyPost_ret (v := .tuple #[.agg #[.int .i64 K.st, .slice d1 K.next.length e1, .slice d2 K.ends.length e2], .bool r]) ?_ rfl ⟨K, r, d1, d2, e1, e2, HJ.out, rfl, r1, r2⟩
    simp [results, Try.results117, go_sem, r3, r4, r5]
end Go.Proofs.Ytlbblfbiiceofaa
