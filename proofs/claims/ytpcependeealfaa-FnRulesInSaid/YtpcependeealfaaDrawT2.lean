/- Drawing a term: the walk. No condition. -/
import Derived.Test.YtpcependeealfaaDrawT1
import Derived.Test.YtpcependeealfaaMarksCopy
import Derived.Deep.RegionLaw
import Derived.Deep.RegionWith
import Derived.Deep.CutBlock
import Derived.Deep.RegionHeld3
namespace Go.Proofs.Ytpcependeealfaa
open Go.RowKit

theorem oddN_any (B R : Nat) (a : Option Addr) (len cap k : Nat) (n : Int) (w : World) (H : RdAt B R a len cap k w) (hk : k ≤ 900000) (hn : 0 ≤ n) (hn2 : n ≤ 1000) :
    Calls Try.prog 105 #[.pointer (some ⟨R, 0, none⟩), .int .i64 n] w fun e w' => ∃ b : Bool, e = .returned (.bool b) ∧ ∃ k', k ≤ k' ∧ k' ≤ k + 1 ∧ RdAt B R a len cap k' w' ∧ KeepsBut R w w' := by
  by_cases h : n = 0
  · subst h
    refine (odd0_any R w).mono ?_
    rintro e w' ⟨rfl, rfl⟩
    exact ⟨false, rfl, k, Nat.le_refl _, Nat.le_succ _, H, KeepsBut.refl _ _⟩
  · refine (odd_any B R a len cap k n w H (by omega) (by omega) (by omega)).mono ?_
    rintro e w' ⟨b, rfl, h1, h2⟩
    exact ⟨b, rfl, k + 1, Nat.le_succ _, Nat.le_refl _, h1, h2⟩

set_option maxHeartbeats 12000000 in
set_option maxRecDepth 100000 in
theorem l20Term_any (B R : Nat) (a : Option Addr) (len cap k : Nat) (n : Int) (w : World) (H : RdAt B R a len cap k w) (hk : k ≤ 800000) (hn : 0 ≤ n) (hn2 : n ≤ 1000) :
    Calls Try.prog 71 #[.pointer (some ⟨R, 0, none⟩), .int .i64 n] w (TermDrawn B R a len cap k w) := by
  obtain ⟨i0, hi, hz0, hz1, hz2⟩ := info_parts infoMarkD
  obtain ⟨s0, hs, hy0, hy1, hy2⟩ := info_parts infoMarkS
  have HI := Lib.hid (And.intro hi (And.intro hz0 (And.intro hz1 hz2)))
  have HS := Lib.hid (And.intro hs (And.intro hy0 (And.intro hy1 hy2)))
  clear hi hz0 hz1 hz2 hs hy0 hy1 hy2
  have O0 := Lib.hid (OwR.start1 H 36 #[] 0 1 rfl (Nat.zero_le _))
  have HRW := Lib.hid H.hR
  clear H
  go_enter Try.func71, Try.ntmps71
  go_wp2_with fail
  refine (pick_any B R a len cap k 3 _ O0.out.rd (by omega) (by omega) (by omega)).mono ?_
  rintro e w2 ⟨v, rfl, hv0, hv1, hR2, hK2⟩
  have hv3 := hv1 (by omega)
  have O1 := Lib.hid (O0.out.picked hR2 hK2)
  clear hv1 hR2 hK2 O0
  generalize hB0 : w.heap.size = B0 at *
  have HB0 := Lib.hid hB0
  clear hB0
  go_wp2_with fail
  go_loopw [5, 6] (fun ov rv wr => ∃ (ps : List (Value × List Mk)) (rm : Nat) (ri : Int) (k' : Nat), ri = (rm : Int) ∧ rv = .int .i64 ri ∧ 1 ≤ ps.length + rm ∧ ps.length + rm ≤ 3 ∧ totM ps = ps.length ∧ (∀ p ∈ ps, 1 ≤ p.2.length) ∧ (∀ p ∈ ps, ∀ m ∈ p.2, m.wf) ∧ k' ≤ k + 1 + 10 * ps.length ∧ k ≤ k' ∧ OwR B R a len cap w k' (outT ov ps :: ps.map innM) wr) (fun _ rv _ => (intOf rv).toNat)
  case atStart => exact ⟨[], (1 + v).toNat, 1 + v, k + 1, by omega, rfl, by simp; omega, by simp; omega, rfl, by simp, by simp, by simp, by omega, O1.out⟩
  case round =>
    obtain ⟨ps, rm, ri, k1, hri, rfl, hp1, hp3, htot, hone, hwf, hk1, hk2, hO⟩ := hrel
    have O2 := Lib.hid hO
    have HRI := Lib.hid hri
    have HALL := Lib.hid (And.intro htot (And.intro hone hwf))
    have HNP := Lib.hid (And.intro hp1 (And.intro hp3 (And.intro hk1 hk2)))
    obtain ⟨oa, oc, rfl⟩ := ownsRow_sliceD (hO.row 0 (by simp) rfl)
    clear hO htot hone hwf O1
    by_cases hlt : 0 < rm
    · have hltI : 0 < ri := by omega
      have hq : IntKind.i64.wrap (ri - 1) = ri - 1 := IntWalk.i64_in _ (by omega)
      have hpl : ps.length ≤ 3 := by omega
      clear hri hp1
      go_wp2_with fail
      refine (l20Rule0_any B R a len cap k1 wr O2.out.rd (by omega)).mono ?_
      rintro e w3 ⟨kind, letter, thn, many, rfl, p1, p2, p3, p4, p5, p6, k3, hk3, hk4, hR3, hK3⟩
      have O3 := Lib.hid (O2.out.picked hR3 hK3)
      generalize hmk : Mk.mk 0 ⟨kind, letter, thn, many⟩ = mk at *
      have O4 : Hid (OwR B R a len cap w k3 (innM (.slice (some ⟨w3.heap.size, 0, none⟩) 1 1, [Mk.mk 0 ⟨kind, letter, thn, many⟩]) :: outT (.slice oa ps.length oc) ps :: ps.map innM) (w3.alloc (.cells #[.int .i64 0, .int .i64 kind, .string letter, .string thn, .int .i64 many] 42))) := Lib.hid (O3.out.lit #[.int .i64 0, .int .i64 kind, .string letter, .string thn, .int .i64 many] 42 1 5 rfl (by unfold maxLen; omega))
      have HWF := Lib.hid (rule_wf p1 p2 p3 p4 p5 p6)
      clear hR3 hK3 p1 p2 p3 p4 p5 p6 hmk
      go_wp2_with (at_builtin; refine wpList_append_lies _ rfl _ _ 111 rfl 0 36 s0 (.slice none 0 0) 1 24 Try.underlying111 HS.out.1 HS.out.2.1 HS.out.2.2.1 HS.out.2.2.2 rfl (by decide) (.slice oa ps.length oc) ps.length (ps.map Prod.fst) rfl ((O4.out.row 1 (by simp) rfl).alloc _) ⟨w3.heap.size + 1, 0, none⟩ 1 1 [.slice (some ⟨w3.heap.size, 0, none⟩) 1 1] rfl rfl (new_news _ #[.slice (some ⟨w3.heap.size, 0, none⟩) 1 1] _ _ (by simp)) (by simp [Value.oneCell']) (by omega) (by unfold maxLen; omega) (by omega) (Nat.zero_le _) _ rfl ?_; intro g9 cp w6 hown hgrow hat hlt3; have O5 := Lib.hid (O4.out.part hgrow hown hat); clear hown hgrow hat hlt3)
      go_roundw
      case rel =>
        refine ⟨ps ++ [_], rm - 1, ri - 1, k3, by have := HRI.out; omega, by first | rfl | rw [hq], ?_, ?_, ?_, ?_, ?_, ?_, ?_, O5.out⟩
        · rw [List.length_append, List.length_singleton]; have := HNP.out.1; omega
        · rw [List.length_append, List.length_singleton]; have := HNP.out.2.1; omega
        · rw [List.length_append, List.length_singleton, totM, List.map_append, List.sum_append]
          have := HALL.out.1
          rw [totM] at this
          simp [this]
        · intro q hq2
          rcases List.mem_append.1 hq2 with h | h
          · exact HALL.out.2.1 q h
          · rw [List.mem_singleton] at h; subst h; exact Nat.le_refl _
        · intro q hq2
          rcases List.mem_append.1 hq2 with h | h
          · exact HALL.out.2.2 q h
          · rw [List.mem_singleton] at h; subst h
            intro m hm
            rw [List.mem_singleton] at hm; subst hm
            exact HWF.out
        · rw [List.length_append, List.length_singleton]; have := HNP.out.2.2.1; omega
        · have := HNP.out.2.2.2; omega
      case measure => simp [intOf]; omega
    · skip
      have hrm : rm = 0 := by omega
      have hnlt : ¬ 0 < ri := by omega
      have HPO := Lib.hid (show PartsOk ps 2 from ⟨by omega, by omega, by have := HALL.out.1; omega, HALL.out.2.1, HALL.out.2.2⟩)
      have HKB := Lib.hid (show k1 + 10 * (2 + ps.length) ≤ k + 81 ∧ k ≤ k1 by have := HNP.out.2.2.1; have := HNP.out.2.2.2; omega)
      clear hri hp1 hp3 hk1 hk2 hlt HALL HNP hrm
      go_wp2_with fail
      clear hnlt
      go_loopw [5, 7, 8, 9, 10] (fun ov lv _ _ _ wr => ∃ (ps : List (Value × List Mk)) (left : Nat) (li : Int) (k' : Nat), li = (left : Int) ∧ lv = .int .i64 li ∧ left ≤ 2 ∧ PartsOk ps left ∧ k' + 10 * (left + ps.length) ≤ k + 81 ∧ k ≤ k' ∧ OwR B R a len cap w k' (outT ov ps :: ps.map innM) wr) (fun ov lv _ _ _ _ => lenV ov + (intOf lv).toNat)
      case atStart => exact ⟨ps, 2, 2, k1, rfl, rfl, Nat.le_refl _, HPO.out, HKB.out.1, HKB.out.2, O2.out⟩
      case round =>
        clear HPO HKB O2
        obtain ⟨ps, left, li, k2, hli, rfl, hl2, hpo, hkb1, hkb2, hO⟩ := hrel
        have HPO := Lib.hid hpo
        have HLI := Lib.hid hli
        have HKB := Lib.hid (And.intro hkb1 hkb2)
        have O2 := Lib.hid hO
        have hn1 := hpo.n1
        have hn3 := hpo.n3
        have hli0 : 0 ≤ li := by omega
        have hli2 : li ≤ 2 := by omega
        have hqL : IntKind.i64.wrap (li - 1) = li - 1 := IntWalk.i64_in _ (by omega)
        obtain ⟨oa, oc, rfl⟩ := ownsRow_sliceD (hO.row 0 (by simp) rfl)
        clear hO hpo hkb1 hkb2 hli
        rcases ps with _ | ⟨⟨v1, m1⟩, _ | ⟨⟨v2, m2⟩, _ | ⟨⟨v3, m3⟩, _ | ⟨p4, rest⟩⟩⟩⟩
        · simp at hn1
        · have HONE := Lib.hid (HPO.out)
          have h1a := HPO.out.le (v1, m1) (by simp)
          obtain ⟨g1, c1, hv1⟩ := O2.out.formM 1 (by simp) (p := (v1, m1)) rfl h1a.1
          simp only at hv1 h1a
          subst hv1
          obtain ⟨go, rfl, hoc1, hoc2, hgR, hgo⟩ := O2.out.formO 0 (by simp) (n := 1) rfl (by omega)
          unfold maxLen at hoc2
          clear hn1 hn3
          have x1 := (O2.out.cell (i := 0) (n := 1) (by simp) rfl 0 (by omega)).1
          simp only [List.map_cons, List.map_nil, List.getElem?_cons_zero] at x1
          replace HKB := Lib.hid (show k2 + 10 * (left + 1) ≤ k + 81 ∧ k ≤ k2 by have h1 := HKB.out.1; have h2 := HKB.out.2; simp at h1; omega)
          have HW1 := Lib.hid (fun m hm => HPO.out.wf (.slice (some ⟨g1, 0, none⟩) m1.length c1, m1) (by simp) m hm)
          have HL1 := Lib.hid h1a
          clear HONE
          go_wp2_with fail
          clear x1
          refine (pick_any B R a len cap k2 6 _ O2.out.rd (by have := HKB.out.1; omega) (by omega) (by omega)).mono ?_
          rintro e w4 ⟨v6, rfl, q0, q1, hR4, hK4⟩
          have O3 := Lib.hid (O2.out.picked hR4 hK4)
          clear q1 hR4 hK4 O2
          by_cases h60 : v6 = 0
          · subst h60
            go_wp2_with (at_builtin; refine wpList_append_lies _ rfl _ _ 36 rfl 0 42 i0 (.agg #[.int .i64 0, .int .i64 0, .string ⟨#[]⟩, .string ⟨#[]⟩, .int .i64 0]) 5 56 Try.underlying36 HI.out.1 HI.out.2.1 HI.out.2.2.1 HI.out.2.2.2 rfl (by decide) (.slice (some ⟨g1, 0, none⟩) m1.length c1) m1.length (cellsM m1) rfl ((O3.out.alloc _).row 1 (by simp) rfl) ⟨w4.heap.size, 0, none⟩ 1 1 (markOf 3).cells rfl rfl (new_news w4 #[.int .i64 3, .int .i64 0, .string ⟨#[]⟩, .string ⟨#[]⟩, .int .i64 0] _ _ rfl) (by intro u hu; exact cellsM_one [markOf 3] u (by simpa [cellsM] using hu)) (by omega) (by unfold maxLen; omega) (by omega) (Nat.zero_le _) _ rfl ?_; intro gT cT wT hown hgrow hat hlt3; rw [← cellsM_snoc] at hown; have O4 := Lib.hid ((O3.out.alloc (.cells #[.int .i64 3, .int .i64 0, .string ⟨#[]⟩, .string ⟨#[]⟩, .int .i64 0] 42)).turn (i := 1) (by simp) rfl hgrow hown hat); clear hown hgrow hat hlt3)
            have HLE := Lib.hid (show (m1.length + 1) = ((m1 ++ [markOf 3])).length from by simp)
            have HWF := Lib.hid (fun m hm => (List.mem_append.1 hm).elim (fun h => HW1.out m h) (fun h => by rw [List.mem_singleton] at h; subst h; exact markOf_wf 3 (by omega) (by omega)) : ∀ m ∈ (m1 ++ [markOf 3]), m.wf)
            have HLL := Lib.hid (by have := HL1.out; omega : 1 ≤ (m1.length + 1) ∧ (m1.length + 1) ≤ 8)
            have hll2 := HLL.out.2
            refine (oddN_any B R a len cap (k2 + 1) n _ O4.out.rd (by have := HKB.out.1; omega) hn (by omega)).mono ?_
            rintro e wo ⟨b, rfl, k5, hk5, hk6, hR5, hK5⟩
            have O5 := Lib.hid (O4.out.picked hR5 hK5)
            clear hR5 hK5
            cases b with
            | false =>
              go_wp2_with fail
              go_ret
              refine ⟨(m1 ++ [markOf 3]), (.slice (some ⟨gT, 0, none⟩) (m1.length + 1) cT), k5, rfl, by have h1 := HLE.out; have h2 := HLL.out.2; omega, HWF.out, by have := HKB.out.2; omega, by have := HKB.out.1; omega, ?_⟩
              have hz := O5.out.sub (us := [rowT 42 5 (.slice (some ⟨gT, 0, none⟩) (m1.length + 1) cT) (m1.length + 1) (cellsM ((m1 ++ [markOf 3])))]) (List.Sublist.cons _ (List.Sublist.cons_cons _ (List.nil_sublist _)))
              rw [HLE.out] at hz ⊢
              exact hz
            | true =>
              go_wp2_with fail
              refine (pick_any B R a len cap k5 3 _ O5.out.rd (by have := HKB.out.1; omega) (by omega) (by omega)).mono ?_
              rintro e wq ⟨v5, rfl, q0, q1, hR6, hK6⟩
              have q2 := q1 (by omega)
              have O6 := Lib.hid (O5.out.picked hR6 hK6)
              clear q1 hR6 hK6 O5
              obtain rfl | rfl | rfl : v5 = 0 ∨ v5 = 1 ∨ v5 = 2 := by omega
              · have O7 := Lib.hid (O6.out.lit #[] 42 0 5 rfl (Nat.zero_le _))
                go_wp2_with fail
                go_ret
                exact ⟨[], _, k5 + 1, rfl, Nat.zero_le _, (fun m hm => by cases hm), by have := HKB.out.2; omega, by have := HKB.out.1; omega, O7.out.sub (List.Sublist.cons_cons _ (List.nil_sublist _))⟩
              · go_wp2_with (at_builtin; refine wpList_append_lies _ rfl _ _ 36 rfl 0 42 i0 (.agg #[.int .i64 0, .int .i64 0, .string ⟨#[]⟩, .string ⟨#[]⟩, .int .i64 0]) 5 56 Try.underlying36 HI.out.1 HI.out.2.1 HI.out.2.2.1 HI.out.2.2.2 rfl (by decide) (.slice (some ⟨gT, 0, none⟩) (m1.length + 1) cT) (m1.length + 1) (cellsM ((m1 ++ [markOf 3]))) rfl ((O6.out.alloc _).row 1 (by simp) rfl) ⟨wq.heap.size, 0, none⟩ 1 1 (markOf 1).cells rfl rfl (new_news wq #[.int .i64 1, .int .i64 0, .string ⟨#[]⟩, .string ⟨#[]⟩, .int .i64 0] _ _ rfl) (by intro u hu; exact cellsM_one [markOf 1] u (by simpa [cellsM] using hu)) (by omega) (by unfold maxLen; omega) (by omega) (Nat.zero_le _) _ rfl ?_; intro gZ cZ wZ hown hgrow hat hlt3; rw [← cellsM_snoc] at hown; have O7 := Lib.hid ((O6.out.alloc (.cells #[.int .i64 1, .int .i64 0, .string ⟨#[]⟩, .string ⟨#[]⟩, .int .i64 0] 42)).turn (i := 1) (by simp) rfl hgrow hown hat); clear hown hgrow hat hlt3)
                go_ret
                refine ⟨(m1 ++ [markOf 3]) ++ [markOf 1], .slice (some ⟨gZ, 0, none⟩) ((m1.length + 1) + 1) cZ, k5 + 1, rfl, by rw [List.length_append, List.length_singleton]; have h1 := HLE.out; have h2 := HLL.out.2; omega, ?_, by have := HKB.out.2; omega, by have := HKB.out.1; omega, ?_⟩
                · intro m hm
                  rcases List.mem_append.1 hm with h | h
                  · exact HWF.out m h
                  · rw [List.mem_singleton] at h; subst h; exact markOf_wf 1 (by omega) (by omega)
                · have hz := O7.out.sub (us := [rowT 42 5 (.slice (some ⟨gZ, 0, none⟩) ((m1.length + 1) + 1) cZ) ((m1.length + 1) + 1) (cellsM ((m1 ++ [markOf 3]) ++ [markOf 1]))]) (List.Sublist.cons _ (List.Sublist.cons_cons _ (List.nil_sublist _)))
                  rw [show ((m1 ++ [markOf 3]) ++ [markOf 1]).length = (m1.length + 1) + 1 by rw [List.length_append, List.length_singleton, ← HLE.out]]
                  exact hz
              · have hrow := O6.out.row 1 (by simp) (n := (m1.length + 1)) (sz := 5) rfl
                have d0 := World.ownsRow.cellAt hrow 0 (by have := HLL.out.1; omega)
                have f0 := World.ownsRow.frozenAt hrow 0
                have d1 := World.ownsRow.cellAt hrow 1 (by have := HLL.out.1; omega)
                have f1 := World.ownsRow.frozenAt hrow 1
                have d2 := World.ownsRow.cellAt hrow 2 (by have := HLL.out.1; omega)
                have f2 := World.ownsRow.frozenAt hrow 2
                have d3 := World.ownsRow.cellAt hrow 3 (by have := HLL.out.1; omega)
                have f3 := World.ownsRow.frozenAt hrow 3
                have d4 := World.ownsRow.cellAt hrow 4 (by have := HLL.out.1; omega)
                have f4 := World.ownsRow.frozenAt hrow 4
                obtain ⟨mz, mzs, hmz⟩ : ∃ mz mzs, (m1 ++ [markOf 3]) = mz :: mzs := by
                  cases hc : (m1 ++ [markOf 3]) with
                  | nil => have h1 := HLE.out; have h2 := HLL.out.1; rw [hc] at h1; simp at h1
                  | cons x y => exact ⟨x, y, rfl⟩
                have HC := Lib.hid (cellsM_set ((m1 ++ [markOf 3])) 0 (by have h1 := HLE.out; have h2 := HLL.out.1; omega) (Mk.mk 0 Ru.void))
                rw [hmz] at d0 d1 d2 d3 d4
                obtain ⟨kz, ⟨rz, lz, tz, nz⟩⟩ := mz
                simp only [cellsM, Mk.cells, List.cons_append, List.getElem?_cons_zero, List.getElem?_cons_succ] at d0 d1 d2 d3 d4
                have S0 := O6.out.store (i := 1) (by simp) (n := (m1.length + 1)) (sz := 5) rfl 0 (.int .i64 0)
                have S1 := S0.store (i := 1) (by simp) (n := (m1.length + 1)) (sz := 5) rfl 1 (.int .i64 0)
                have S2 := S1.store (i := 1) (by simp) (n := (m1.length + 1)) (sz := 5) rfl 2 (.string ⟨#[]⟩)
                have S3 := S2.store (i := 1) (by simp) (n := (m1.length + 1)) (sz := 5) rfl 3 (.string ⟨#[]⟩)
                have S4 := S3.store (i := 1) (by simp) (n := (m1.length + 1)) (sz := 5) rfl 4 (.int .i64 0)
                have S5 := Lib.hid S4
                clear S0 S1 S2 S3 S4 hrow hmz
                go_wp2_with fail
                go_ret
                refine ⟨((m1 ++ [markOf 3])).set 0 (Mk.mk 0 Ru.void), (.slice (some ⟨gT, 0, none⟩) (m1.length + 1) cT), k5 + 1, rfl, by rw [List.length_set]; have h1 := HLE.out; have h2 := HLL.out.2; omega, ?_, by have := HKB.out.2; omega, by have := HKB.out.1; omega, ?_⟩
                · intro m hm
                  rcases List.mem_or_eq_of_mem_set hm with h | h
                  · exact HWF.out m h
                  · subst h; exact markOf_wf 0 (by omega) (by omega)
                · have hz := S5.out.sub (us := [rowT 42 5 (.slice (some ⟨gT, 0, none⟩) (m1.length + 1) cT) (m1.length + 1) (cellsM (((m1 ++ [markOf 3])).set 0 (Mk.mk 0 Ru.void)))]) (by rw [← HC.out]; exact (List.Sublist.cons _ (List.Sublist.cons_cons _ (List.nil_sublist _))))
                  rw [List.length_set, ← HLE.out]
                  exact hz
          · have h6b : (v6 == 0) = false := by simpa using h60
            clear h60
            go_wp2_with fail
            have HWF := Lib.hid (HW1.out : ∀ m ∈ m1, m.wf)
            have HLL := Lib.hid (by have := HL1.out; omega : 1 ≤ m1.length ∧ m1.length ≤ 8)
            have hll2 := HLL.out.2
            refine (oddN_any B R a len cap (k2 + 1) n _ O3.out.rd (by have := HKB.out.1; omega) hn (by omega)).mono ?_
            rintro e wo ⟨b, rfl, k5, hk5, hk6, hR5, hK5⟩
            have O5 := Lib.hid (O3.out.picked hR5 hK5)
            clear hR5 hK5
            cases b with
            | false =>
              go_wp2_with fail
              go_ret
              refine ⟨m1, (.slice (some ⟨g1, 0, none⟩) m1.length c1), k5, rfl, by have h2 := HLL.out.2; omega, HWF.out, by have := HKB.out.2; omega, by have := HKB.out.1; omega, ?_⟩
              have hz := O5.out.sub (us := [rowT 42 5 (.slice (some ⟨g1, 0, none⟩) m1.length c1) m1.length (cellsM (m1))]) (List.Sublist.cons _ (List.Sublist.cons_cons _ (List.nil_sublist _)))
              exact hz
            | true =>
              go_wp2_with fail
              refine (pick_any B R a len cap k5 3 _ O5.out.rd (by have := HKB.out.1; omega) (by omega) (by omega)).mono ?_
              rintro e wq ⟨v5, rfl, q0, q1, hR6, hK6⟩
              have q2 := q1 (by omega)
              have O6 := Lib.hid (O5.out.picked hR6 hK6)
              clear q1 hR6 hK6 O5
              obtain rfl | rfl | rfl : v5 = 0 ∨ v5 = 1 ∨ v5 = 2 := by omega
              · have O7 := Lib.hid (O6.out.lit #[] 42 0 5 rfl (Nat.zero_le _))
                go_wp2_with fail
                go_ret
                exact ⟨[], _, k5 + 1, rfl, Nat.zero_le _, (fun m hm => by cases hm), by have := HKB.out.2; omega, by have := HKB.out.1; omega, O7.out.sub (List.Sublist.cons_cons _ (List.nil_sublist _))⟩
              · go_wp2_with (at_builtin; refine wpList_append_lies _ rfl _ _ 36 rfl 0 42 i0 (.agg #[.int .i64 0, .int .i64 0, .string ⟨#[]⟩, .string ⟨#[]⟩, .int .i64 0]) 5 56 Try.underlying36 HI.out.1 HI.out.2.1 HI.out.2.2.1 HI.out.2.2.2 rfl (by decide) (.slice (some ⟨g1, 0, none⟩) m1.length c1) m1.length (cellsM (m1)) rfl ((O6.out.alloc _).row 1 (by simp) rfl) ⟨wq.heap.size, 0, none⟩ 1 1 (markOf 1).cells rfl rfl (new_news wq #[.int .i64 1, .int .i64 0, .string ⟨#[]⟩, .string ⟨#[]⟩, .int .i64 0] _ _ rfl) (by intro u hu; exact cellsM_one [markOf 1] u (by simpa [cellsM] using hu)) (by omega) (by unfold maxLen; omega) (by omega) (Nat.zero_le _) _ rfl ?_; intro gZ cZ wZ hown hgrow hat hlt3; rw [← cellsM_snoc] at hown; have O7 := Lib.hid ((O6.out.alloc (.cells #[.int .i64 1, .int .i64 0, .string ⟨#[]⟩, .string ⟨#[]⟩, .int .i64 0] 42)).turn (i := 1) (by simp) rfl hgrow hown hat); clear hown hgrow hat hlt3)
                go_ret
                refine ⟨m1 ++ [markOf 1], .slice (some ⟨gZ, 0, none⟩) (m1.length + 1) cZ, k5 + 1, rfl, by rw [List.length_append, List.length_singleton]; have h2 := HLL.out.2; omega, ?_, by have := HKB.out.2; omega, by have := HKB.out.1; omega, ?_⟩
                · intro m hm
                  rcases List.mem_append.1 hm with h | h
                  · exact HWF.out m h
                  · rw [List.mem_singleton] at h; subst h; exact markOf_wf 1 (by omega) (by omega)
                · have hz := O7.out.sub (us := [rowT 42 5 (.slice (some ⟨gZ, 0, none⟩) (m1.length + 1) cZ) (m1.length + 1) (cellsM (m1 ++ [markOf 1]))]) (List.Sublist.cons _ (List.Sublist.cons_cons _ (List.nil_sublist _)))
                  rw [show (m1 ++ [markOf 1]).length = m1.length + 1 by rw [List.length_append, List.length_singleton]]
                  exact hz
              · have hrow := O6.out.row 1 (by simp) (n := m1.length) (sz := 5) rfl
                have d0 := World.ownsRow.cellAt hrow 0 (by have := HLL.out.1; omega)
                have f0 := World.ownsRow.frozenAt hrow 0
                have d1 := World.ownsRow.cellAt hrow 1 (by have := HLL.out.1; omega)
                have f1 := World.ownsRow.frozenAt hrow 1
                have d2 := World.ownsRow.cellAt hrow 2 (by have := HLL.out.1; omega)
                have f2 := World.ownsRow.frozenAt hrow 2
                have d3 := World.ownsRow.cellAt hrow 3 (by have := HLL.out.1; omega)
                have f3 := World.ownsRow.frozenAt hrow 3
                have d4 := World.ownsRow.cellAt hrow 4 (by have := HLL.out.1; omega)
                have f4 := World.ownsRow.frozenAt hrow 4
                obtain ⟨mz, mzs, hmz⟩ : ∃ mz mzs, m1 = mz :: mzs := by
                  cases hc : m1 with
                  | nil => have h2 := HLL.out.1; rw [hc] at h2; simp at h2
                  | cons x y => exact ⟨x, y, rfl⟩
                have HC := Lib.hid (cellsM_set (m1) 0 (by have h2 := HLL.out.1; omega) (Mk.mk 0 Ru.void))
                rw [hmz] at d0 d1 d2 d3 d4
                obtain ⟨kz, ⟨rz, lz, tz, nz⟩⟩ := mz
                simp only [cellsM, Mk.cells, List.cons_append, List.getElem?_cons_zero, List.getElem?_cons_succ] at d0 d1 d2 d3 d4
                have S0 := O6.out.store (i := 1) (by simp) (n := m1.length) (sz := 5) rfl 0 (.int .i64 0)
                have S1 := S0.store (i := 1) (by simp) (n := m1.length) (sz := 5) rfl 1 (.int .i64 0)
                have S2 := S1.store (i := 1) (by simp) (n := m1.length) (sz := 5) rfl 2 (.string ⟨#[]⟩)
                have S3 := S2.store (i := 1) (by simp) (n := m1.length) (sz := 5) rfl 3 (.string ⟨#[]⟩)
                have S4 := S3.store (i := 1) (by simp) (n := m1.length) (sz := 5) rfl 4 (.int .i64 0)
                have S5 := Lib.hid S4
                clear S0 S1 S2 S3 S4 hrow hmz
                go_wp2_with fail
                go_ret
                refine ⟨(m1).set 0 (Mk.mk 0 Ru.void), (.slice (some ⟨g1, 0, none⟩) m1.length c1), k5 + 1, rfl, by rw [List.length_set]; have h2 := HLL.out.2; omega, ?_, by have := HKB.out.2; omega, by have := HKB.out.1; omega, ?_⟩
                · intro m hm
                  rcases List.mem_or_eq_of_mem_set hm with h | h
                  · exact HWF.out m h
                  · subst h; exact markOf_wf 0 (by omega) (by omega)
                · have hz := S5.out.sub (us := [rowT 42 5 (.slice (some ⟨g1, 0, none⟩) m1.length c1) m1.length (cellsM ((m1).set 0 (Mk.mk 0 Ru.void)))]) (by rw [← HC.out]; exact (List.Sublist.cons _ (List.Sublist.cons_cons _ (List.nil_sublist _))))
                  rw [List.length_set]
                  exact hz
        · have HTWO := Lib.hid (HPO.out)
          have h1a := HPO.out.le (v1, m1) (by simp)
          obtain ⟨g1, c1, hv1⟩ := O2.out.formM 1 (by simp) (p := (v1, m1)) rfl h1a.1
          simp only at hv1 h1a
          subst hv1
          have h2a := HPO.out.le (v2, m2) (by simp)
          obtain ⟨g2, c2, hv2⟩ := O2.out.formM 2 (by simp) (p := (v2, m2)) rfl h2a.1
          simp only at hv2 h2a
          subst hv2
          obtain ⟨go, rfl, hoc1, hoc2, hgR, hgo⟩ := O2.out.formO 0 (by simp) (n := 2) rfl (by omega)
          unfold maxLen at hoc2
          clear hn1 hn3
          go_wp2_with fail
          refine (pick_any B R a len cap k2 1 _ O2.out.rd (by have := HKB.out.1; omega) (by omega) (by omega)).mono ?_
          rintro e w3 ⟨v8, rfl, q0, q1, hR3, hK3⟩
          obtain rfl : v8 = 0 := by have := q1 (by omega); omega
          have O3 := Lib.hid (O2.out.picked hR3 hK3)
          obtain ⟨k3, hk3⟩ : ∃ k3, k3 = k2 + 1 := ⟨_, rfl⟩
          rw [← hk3] at O3
          replace HKB := Lib.hid (show k3 + 10 * (left + 2) ≤ k + 82 ∧ k ≤ k3 by have h1 := HKB.out.1; have h2 := HKB.out.2; simp at h1; omega)
          clear hR3 hK3 q1 O2 hk3 q0
          by_cases hl0 : 0 < left
          · have hl0I : 0 < li := by have := HLI.out; omega
            go_wp2_with fail
            refine (pick_any B R a len cap k3 4 _ O3.out.rd (by have := HKB.out.1; omega) (by omega) (by omega)).mono ?_
            rintro e wp ⟨v4, rfl, q0, q1, hR4, hK4⟩
            have O4 := Lib.hid (O3.out.picked hR4 hK4)
            clear q1 hR4 hK4
            by_cases h40 : v4 = 0
            · subst h40
              obtain ⟨l, rfl⟩ : ∃ l, left = l + 1 := ⟨left - 1, by omega⟩
              have O5 := Lib.hid (O4.out.lit #[] 42 0 5 rfl (Nat.zero_le _))
              have x1 := (O5.out.cell (i := 1) (n := 2) (by simp) rfl 0 (by omega)).1
              simp only [List.map_cons, List.map_nil, List.getElem?_cons_zero] at x1
              go_wp2_with (first | (at_builtin; refine wpList_append_lies _ rfl _ _ 36 rfl 0 42 i0 (.agg #[.int .i64 0, .int .i64 0, .string ⟨#[]⟩, .string ⟨#[]⟩, .int .i64 0]) 5 56 Try.underlying36 HI.out.1 HI.out.2.1 HI.out.2.2.1 HI.out.2.2.2 rfl (by decide) (.slice (some ⟨gA, 0, none⟩) m1.length cA) m1.length (cellsM m1) rfl ((O6.out.alloc _).row 0 (by simp) rfl) ⟨wA.heap.size, 0, none⟩ 1 1 (markOf 3).cells rfl rfl (new_news wA #[.int .i64 3, .int .i64 0, .string ⟨#[]⟩, .string ⟨#[]⟩, .int .i64 0] _ _ rfl) (by intro u hu; exact cellsM_one [markOf 3] u (by simpa [cellsM] using hu)) (by omega) (by unfold maxLen; omega) (by omega) (Nat.zero_le _) _ rfl ?_; intro gB cB wB hown hgrow hat hlt3; rw [← cellsM_snoc] at hown; have O7 := Lib.hid ((O6.out.alloc (.cells #[.int .i64 3, .int .i64 0, .string ⟨#[]⟩, .string ⟨#[]⟩, .int .i64 0] 42)).turn (i := 0) (by simp) rfl hgrow hown hat); obtain ⟨cS, fS⟩ := O7.out.cell (i := 1) (n := 2) (by simp) rfl 0 (by omega); simp only [List.map_cons, List.map_nil, List.getElem?_cons_zero] at cS; clear hown hgrow hat hlt3) | (at_builtin; refine wpList_append_lies _ rfl _ _ 36 rfl 0 42 i0 (.agg #[.int .i64 0, .int .i64 0, .string ⟨#[]⟩, .string ⟨#[]⟩, .int .i64 0]) 5 56 Try.underlying36 HI.out.1 HI.out.2.1 HI.out.2.2.1 HI.out.2.2.2 rfl (by decide) (.slice (some ⟨wp.heap.size, 0, none⟩) 0 0) 0 [] rfl (O5.out.row 0 (by simp) rfl) ⟨g1, 0, none⟩ m1.length c1 (cellsM m1) rfl (cellsM_length m1) (marks_news (O5.out.row 2 (by simp) rfl)) (cellsM_one m1) h1a.1 (by unfold maxLen; omega) (by omega) (Nat.zero_le _) _ rfl ?_; intro gA cA wA hown hgrow hat hlt3; simp only [Nat.zero_add, List.nil_append] at hown ⊢; have O6 := Lib.hid (O5.out.turn (i := 0) (by simp) rfl hgrow hown hat); clear hown hgrow hat hlt3))
              have O8 := Lib.hid (O7.out.store (i := 1) (by simp) rfl 0 (.slice (some ⟨gB, 0, none⟩) (m1.length + 1) cB))
              go_roundw
              case rel =>
                refine ⟨[(.slice (some ⟨gB, 0, none⟩) (m1.length + 1) cB, m1 ++ [markOf 3]), (.slice (some ⟨g2, 0, none⟩) m2.length c2, m2)], l, li - 1, (k3 + 1), by have := HLI.out; omega, by first | rfl | rw [hqL], by omega, PartsOk.not (ps := []) (qs := [(.slice (some ⟨g2, 0, none⟩) m2.length c2, m2)]) HPO.out, by have := HKB.out.1; simp at this ⊢; omega, by have := HKB.out.2; omega, ?_⟩
                have hz := (O8.out.perm (List.Perm.swap _ _ _)).sub (List.Sublist.cons_cons _ (List.Sublist.cons_cons _ (List.Sublist.cons _ (List.Sublist.cons_cons _ (List.nil_sublist _)))))
                simp only [List.map_cons, List.map_nil]
                rw [innM_snoc _ m1 (markOf 3) (m1.length + 1) rfl]
                exact hz
              case measure => simp [intOf, lenV]; omega
            · have h4b : (v4 == 0) = false := by simpa using h40
              clear h40
              have OL := Lib.hid (O4.out.lit #[] 42 0 5 rfl (Nat.zero_le _))
              have O5 := Lib.hid OL.out.drew
              have x1 := (O4.out.cell (i := 0) (n := 2) (by simp) rfl 0 (by omega)).1
              simp only [List.map_cons, List.map_nil, List.getElem?_cons_zero] at x1
              have x2 := (OL.out.cell (i := 1) (n := 2) (by simp) rfl 0 (by omega)).1
              simp only [List.map_cons, List.map_nil, List.getElem?_cons_zero] at x2
              have x3 := (O4.out.cell (i := 0) (n := 2) (by simp) rfl 1 (by omega)).1
              simp only [List.map_cons, List.map_nil, List.getElem?_cons_zero, List.getElem?_cons_succ] at x3
              have x4 := (OL.out.cell (i := 1) (n := 2) (by simp) rfl 1 (by omega)).1
              simp only [List.map_cons, List.map_nil, List.getElem?_cons_zero, List.getElem?_cons_succ] at x4
              have hw1 : IntKind.i64.wrap 1 = 1 := by decide
              have hw2 : IntKind.i64.wrap 2 = 2 := by decide
              go_upto_region 12 with fail
              go_region_held3 (fun w' => w'.cell? ⟨go, 0, none⟩ = some (.slice (some ⟨g1, 0, none⟩) m1.length c1) ∧ w'.cell? ⟨go, 1, none⟩ = some (.slice (some ⟨g2, 0, none⟩) m2.length c2))
                (refine ⟨?_, ?_⟩ <;> go_simp)
                (first | (refine step_append_lies _ rfl _ _ 36 rfl 0 42 i0 (.agg #[.int .i64 0, .int .i64 0, .string ⟨#[]⟩, .string ⟨#[]⟩, .int .i64 0]) 5 56 Try.underlying36 HI.out.1 HI.out.2.1 HI.out.2.2.1 HI.out.2.2.2 rfl (by decide) (.slice (some ⟨gB, 0, none⟩) (m1.length + m2.length) cB) (m1.length + m2.length) (cellsM (m1 ++ m2)) rfl ((O8.out.alloc _).row 0 (by simp) rfl) ⟨wC.heap.size, 0, none⟩ 1 1 (markOf kd).cells rfl rfl (new_news wC #[.int .i64 kd, .int .i64 0, .string ⟨#[]⟩, .string ⟨#[]⟩, .int .i64 0] _ _ rfl) (by intro u hu; exact cellsM_one [markOf kd] u (by simpa [cellsM] using hu)) (by omega) (by unfold maxLen; omega) (by omega) (Nat.zero_le _) _ rfl ?_; intro gE cE wE hown hgrow hat hlt3; rw [← cellsM_snoc] at hown; have O9 := Lib.hid ((O8.out.alloc (.cells #[.int .i64 kd, .int .i64 0, .string ⟨#[]⟩, .string ⟨#[]⟩, .int .i64 0] 42)).turn (i := 0) (by simp) rfl hgrow hown hat); have z1 := (O9.out.cell (i := 1) (n := 2) (by simp) rfl 0 (by omega)).1; simp only [List.map_cons, List.map_nil, List.getElem?_cons_zero] at z1; have z2 := (O9.out.cell (i := 1) (n := 2) (by simp) rfl 1 (by omega)).1; simp only [List.map_cons, List.map_nil, List.getElem?_cons_zero, List.getElem?_cons_succ] at z2; clear hown hgrow hat hlt3) | (go_at_call 77; refine (pick_any B R a len cap (k3 + 1) 3 _ O7.out.rd (by have := HKB.out.1; omega) (by omega) (by omega)).mono ?_; rintro e wC ⟨vC, rfl, q0, q1, hRC, hKC⟩; have q2 := q1 (by omega); have O8 := Lib.hid (O7.out.picked hRC hKC); obtain ⟨kd, hw3, hd0, hd1⟩ := mark_kind vC q0 q2; have y1 := fun o => ((O8.out.alloc o).cell (i := 1) (n := 2) (by simp) rfl 0 (by omega)).1; simp only [List.map_cons, List.map_nil, List.getElem?_cons_zero] at y1; have y2 := fun o => ((O8.out.alloc o).cell (i := 1) (n := 2) (by simp) rfl 1 (by omega)).1; simp only [List.map_cons, List.map_nil, List.getElem?_cons_zero, List.getElem?_cons_succ] at y2; have y3 := (O8.out.cell (i := 1) (n := 2) (by simp) rfl 0 (by omega)).1; simp only [List.map_cons, List.map_nil, List.getElem?_cons_zero] at y3; have y4 := (O8.out.cell (i := 1) (n := 2) (by simp) rfl 1 (by omega)).1; simp only [List.map_cons, List.map_nil, List.getElem?_cons_zero, List.getElem?_cons_succ] at y4; clear hRC hKC q1) | (refine step_append_lies _ rfl _ _ 36 rfl 0 42 i0 (.agg #[.int .i64 0, .int .i64 0, .string ⟨#[]⟩, .string ⟨#[]⟩, .int .i64 0]) 5 56 Try.underlying36 HI.out.1 HI.out.2.1 HI.out.2.2.1 HI.out.2.2.2 rfl (by decide) (.slice (some ⟨gA, 0, none⟩) m1.length cA) m1.length (cellsM m1) rfl (O6.out.row 0 (by simp) rfl) ⟨g2, 0, none⟩ m2.length c2 (cellsM m2) rfl (cellsM_length m2) (marks_news (O6.out.row 3 (by simp) rfl)) (cellsM_one m2) h2a.1 (by unfold maxLen; omega) (by omega) (Nat.zero_le _) _ rfl ?_; intro gB cB wB hown hgrow hat hlt3; rw [← cellsM_append] at hown; have O7 := Lib.hid (O6.out.turn (i := 0) (by simp) rfl hgrow hown hat); have x7 := (O7.out.cell (i := 1) (n := 2) (by simp) rfl 0 (by omega)).1; simp only [List.map_cons, List.map_nil, List.getElem?_cons_zero] at x7; have x8 := (O7.out.cell (i := 1) (n := 2) (by simp) rfl 1 (by omega)).1; simp only [List.map_cons, List.map_nil, List.getElem?_cons_zero, List.getElem?_cons_succ] at x8; clear hown hgrow hat hlt3) | (refine step_append_lies _ rfl _ _ 36 rfl 0 42 i0 (.agg #[.int .i64 0, .int .i64 0, .string ⟨#[]⟩, .string ⟨#[]⟩, .int .i64 0]) 5 56 Try.underlying36 HI.out.1 HI.out.2.1 HI.out.2.2.1 HI.out.2.2.2 rfl (by decide) (.slice (some ⟨wp.heap.size, 0, none⟩) 0 0) 0 [] rfl (O5.out.row 0 (by simp) rfl) ⟨g1, 0, none⟩ m1.length c1 (cellsM m1) rfl (cellsM_length m1) (marks_news (O5.out.row 2 (by simp) rfl)) (cellsM_one m1) h1a.1 (by unfold maxLen; omega) (by omega) (Nat.zero_le _) _ rfl ?_; intro gA cA wA hown hgrow hat hlt3; simp only [Nat.zero_add, List.nil_append] at hown ⊢; have O6 := Lib.hid (O5.out.turn (i := 0) (by simp) rfl hgrow hown hat); have x5 := (O6.out.cell (i := 1) (n := 2) (by simp) rfl 0 (by omega)).1; simp only [List.map_cons, List.map_nil, List.getElem?_cons_zero] at x5; have x6 := (O6.out.cell (i := 1) (n := 2) (by simp) rfl 1 (by omega)).1; simp only [List.map_cons, List.map_nil, List.getElem?_cons_zero, List.getElem?_cons_succ] at x6; clear hown hgrow hat hlt3))
              all_goals
                have OA := Lib.hid (O9.out.lit #[] 36 0 1 rfl (Nat.zero_le _))
                go_wp2_with (first | (at_builtin; refine wpList_append_zero rfl _ _ 111 rfl 0 36 s0 1 Try.underlying111 HS.out.1 (.slice (some ⟨gG, 0, none⟩) 1 cG) 1 [(.slice (some ⟨gE, 0, none⟩) (m1.length + m2.length + 1) cE)] rfl (OC.out.row 0 (by simp) rfl) _ _ rfl ?_; have OE := OC) | (at_builtin; refine wpList_append_lies _ rfl _ _ 111 rfl 0 36 s0 (.slice none 0 0) 1 24 Try.underlying111 HS.out.1 HS.out.2.1 HS.out.2.2.1 HS.out.2.2.2 rfl (by decide) (.slice (some ⟨wE.heap.size, 0, none⟩) 0 0) 0 [] rfl ((OB.out.alloc _).row 0 (by simp) rfl) ⟨wE.heap.size + 1, 0, none⟩ 1 1 [(.slice (some ⟨gE, 0, none⟩) (m1.length + m2.length + 1) cE)] rfl rfl (new_news _ #[(.slice (some ⟨gE, 0, none⟩) (m1.length + m2.length + 1) cE)] _ _ (by simp)) (by simp [Value.oneCell']) (by omega) (by unfold maxLen; omega) (by omega) (Nat.zero_le _) _ rfl ?_; intro gG cG wG hown hgrow hat hlt3; have OC := Lib.hid ((OB.out.alloc _).turn (i := 0) (by simp) rfl hgrow hown hat); clear hown hgrow hat hlt3) | (at_builtin; refine wpList_append_zero rfl _ _ 111 rfl 0 36 s0 1 Try.underlying111 HS.out.1 (.slice (some ⟨wE.heap.size, 0, none⟩) 0 0) 0 [] rfl (OA.out.row 0 (by simp) rfl) _ _ rfl ?_; have OB := OA))
                go_roundw
                case rel =>
                  refine ⟨[(.slice (some ⟨gE, 0, none⟩) (m1.length + m2.length + 1) cE, m1 ++ m2 ++ [markOf kd])], left, li, (k3 + 1) + 1, HLI.out, by first | rfl | trivial, by omega, PartsOk.join (ps := []) (qs := []) (p := (.slice (some ⟨g1, 0, none⟩) m1.length c1, m1)) (r := (.slice (some ⟨g2, 0, none⟩) m2.length c2, m2)) (by omega) (by omega) HPO.out, by have := HKB.out.1; simp at this ⊢; omega, by have := HKB.out.2; omega, ?_⟩
                  have hz := OE.out.sub (List.Sublist.cons_cons _ (List.Sublist.cons_cons _ (List.nil_sublist _)))
                  simp only [List.map_cons, List.map_nil]
                  rw [innM_snoc _ (m1 ++ m2) (markOf kd) (m1.length + m2.length + 1) (by rw [List.length_append])]
                  exact hz
                case measure => simp [intOf, lenV]; try omega
          · have hl0I : ¬ 0 < li := by have := HLI.out; omega
            generalize w3 = wp at *
            have OL := Lib.hid (O3.out.lit #[] 42 0 5 rfl (Nat.zero_le _))
            have O5 := Lib.hid OL.out.drew
            have x1 := (O3.out.cell (i := 0) (n := 2) (by simp) rfl 0 (by omega)).1
            simp only [List.map_cons, List.map_nil, List.getElem?_cons_zero] at x1
            have x2 := (OL.out.cell (i := 1) (n := 2) (by simp) rfl 0 (by omega)).1
            simp only [List.map_cons, List.map_nil, List.getElem?_cons_zero] at x2
            have x3 := (O3.out.cell (i := 0) (n := 2) (by simp) rfl 1 (by omega)).1
            simp only [List.map_cons, List.map_nil, List.getElem?_cons_zero, List.getElem?_cons_succ] at x3
            have x4 := (OL.out.cell (i := 1) (n := 2) (by simp) rfl 1 (by omega)).1
            simp only [List.map_cons, List.map_nil, List.getElem?_cons_zero, List.getElem?_cons_succ] at x4
            have hw1 : IntKind.i64.wrap 1 = 1 := by decide
            have hw2 : IntKind.i64.wrap 2 = 2 := by decide
            go_upto_region 12 with fail
            go_region_held3 (fun w' => w'.cell? ⟨go, 0, none⟩ = some (.slice (some ⟨g1, 0, none⟩) m1.length c1) ∧ w'.cell? ⟨go, 1, none⟩ = some (.slice (some ⟨g2, 0, none⟩) m2.length c2))
              (refine ⟨?_, ?_⟩ <;> go_simp)
              (first | (refine step_append_lies _ rfl _ _ 36 rfl 0 42 i0 (.agg #[.int .i64 0, .int .i64 0, .string ⟨#[]⟩, .string ⟨#[]⟩, .int .i64 0]) 5 56 Try.underlying36 HI.out.1 HI.out.2.1 HI.out.2.2.1 HI.out.2.2.2 rfl (by decide) (.slice (some ⟨gB, 0, none⟩) (m1.length + m2.length) cB) (m1.length + m2.length) (cellsM (m1 ++ m2)) rfl ((O8.out.alloc _).row 0 (by simp) rfl) ⟨wC.heap.size, 0, none⟩ 1 1 (markOf kd).cells rfl rfl (new_news wC #[.int .i64 kd, .int .i64 0, .string ⟨#[]⟩, .string ⟨#[]⟩, .int .i64 0] _ _ rfl) (by intro u hu; exact cellsM_one [markOf kd] u (by simpa [cellsM] using hu)) (by omega) (by unfold maxLen; omega) (by omega) (Nat.zero_le _) _ rfl ?_; intro gE cE wE hown hgrow hat hlt3; rw [← cellsM_snoc] at hown; have O9 := Lib.hid ((O8.out.alloc (.cells #[.int .i64 kd, .int .i64 0, .string ⟨#[]⟩, .string ⟨#[]⟩, .int .i64 0] 42)).turn (i := 0) (by simp) rfl hgrow hown hat); have z1 := (O9.out.cell (i := 1) (n := 2) (by simp) rfl 0 (by omega)).1; simp only [List.map_cons, List.map_nil, List.getElem?_cons_zero] at z1; have z2 := (O9.out.cell (i := 1) (n := 2) (by simp) rfl 1 (by omega)).1; simp only [List.map_cons, List.map_nil, List.getElem?_cons_zero, List.getElem?_cons_succ] at z2; clear hown hgrow hat hlt3) | (go_at_call 77; refine (pick_any B R a len cap k3 3 _ O7.out.rd (by have := HKB.out.1; omega) (by omega) (by omega)).mono ?_; rintro e wC ⟨vC, rfl, q0, q1, hRC, hKC⟩; have q2 := q1 (by omega); have O8 := Lib.hid (O7.out.picked hRC hKC); obtain ⟨kd, hw3, hd0, hd1⟩ := mark_kind vC q0 q2; have y1 := fun o => ((O8.out.alloc o).cell (i := 1) (n := 2) (by simp) rfl 0 (by omega)).1; simp only [List.map_cons, List.map_nil, List.getElem?_cons_zero] at y1; have y2 := fun o => ((O8.out.alloc o).cell (i := 1) (n := 2) (by simp) rfl 1 (by omega)).1; simp only [List.map_cons, List.map_nil, List.getElem?_cons_zero, List.getElem?_cons_succ] at y2; have y3 := (O8.out.cell (i := 1) (n := 2) (by simp) rfl 0 (by omega)).1; simp only [List.map_cons, List.map_nil, List.getElem?_cons_zero] at y3; have y4 := (O8.out.cell (i := 1) (n := 2) (by simp) rfl 1 (by omega)).1; simp only [List.map_cons, List.map_nil, List.getElem?_cons_zero, List.getElem?_cons_succ] at y4; clear hRC hKC q1) | (refine step_append_lies _ rfl _ _ 36 rfl 0 42 i0 (.agg #[.int .i64 0, .int .i64 0, .string ⟨#[]⟩, .string ⟨#[]⟩, .int .i64 0]) 5 56 Try.underlying36 HI.out.1 HI.out.2.1 HI.out.2.2.1 HI.out.2.2.2 rfl (by decide) (.slice (some ⟨gA, 0, none⟩) m1.length cA) m1.length (cellsM m1) rfl (O6.out.row 0 (by simp) rfl) ⟨g2, 0, none⟩ m2.length c2 (cellsM m2) rfl (cellsM_length m2) (marks_news (O6.out.row 3 (by simp) rfl)) (cellsM_one m2) h2a.1 (by unfold maxLen; omega) (by omega) (Nat.zero_le _) _ rfl ?_; intro gB cB wB hown hgrow hat hlt3; rw [← cellsM_append] at hown; have O7 := Lib.hid (O6.out.turn (i := 0) (by simp) rfl hgrow hown hat); have x7 := (O7.out.cell (i := 1) (n := 2) (by simp) rfl 0 (by omega)).1; simp only [List.map_cons, List.map_nil, List.getElem?_cons_zero] at x7; have x8 := (O7.out.cell (i := 1) (n := 2) (by simp) rfl 1 (by omega)).1; simp only [List.map_cons, List.map_nil, List.getElem?_cons_zero, List.getElem?_cons_succ] at x8; clear hown hgrow hat hlt3) | (refine step_append_lies _ rfl _ _ 36 rfl 0 42 i0 (.agg #[.int .i64 0, .int .i64 0, .string ⟨#[]⟩, .string ⟨#[]⟩, .int .i64 0]) 5 56 Try.underlying36 HI.out.1 HI.out.2.1 HI.out.2.2.1 HI.out.2.2.2 rfl (by decide) (.slice (some ⟨wp.heap.size, 0, none⟩) 0 0) 0 [] rfl (O5.out.row 0 (by simp) rfl) ⟨g1, 0, none⟩ m1.length c1 (cellsM m1) rfl (cellsM_length m1) (marks_news (O5.out.row 2 (by simp) rfl)) (cellsM_one m1) h1a.1 (by unfold maxLen; omega) (by omega) (Nat.zero_le _) _ rfl ?_; intro gA cA wA hown hgrow hat hlt3; simp only [Nat.zero_add, List.nil_append] at hown ⊢; have O6 := Lib.hid (O5.out.turn (i := 0) (by simp) rfl hgrow hown hat); have x5 := (O6.out.cell (i := 1) (n := 2) (by simp) rfl 0 (by omega)).1; simp only [List.map_cons, List.map_nil, List.getElem?_cons_zero] at x5; have x6 := (O6.out.cell (i := 1) (n := 2) (by simp) rfl 1 (by omega)).1; simp only [List.map_cons, List.map_nil, List.getElem?_cons_zero, List.getElem?_cons_succ] at x6; clear hown hgrow hat hlt3))
            all_goals
              have OA := Lib.hid (O9.out.lit #[] 36 0 1 rfl (Nat.zero_le _))
              go_wp2_with (first | (at_builtin; refine wpList_append_zero rfl _ _ 111 rfl 0 36 s0 1 Try.underlying111 HS.out.1 (.slice (some ⟨gG, 0, none⟩) 1 cG) 1 [(.slice (some ⟨gE, 0, none⟩) (m1.length + m2.length + 1) cE)] rfl (OC.out.row 0 (by simp) rfl) _ _ rfl ?_; have OE := OC) | (at_builtin; refine wpList_append_lies _ rfl _ _ 111 rfl 0 36 s0 (.slice none 0 0) 1 24 Try.underlying111 HS.out.1 HS.out.2.1 HS.out.2.2.1 HS.out.2.2.2 rfl (by decide) (.slice (some ⟨wE.heap.size, 0, none⟩) 0 0) 0 [] rfl ((OB.out.alloc _).row 0 (by simp) rfl) ⟨wE.heap.size + 1, 0, none⟩ 1 1 [(.slice (some ⟨gE, 0, none⟩) (m1.length + m2.length + 1) cE)] rfl rfl (new_news _ #[(.slice (some ⟨gE, 0, none⟩) (m1.length + m2.length + 1) cE)] _ _ (by simp)) (by simp [Value.oneCell']) (by omega) (by unfold maxLen; omega) (by omega) (Nat.zero_le _) _ rfl ?_; intro gG cG wG hown hgrow hat hlt3; have OC := Lib.hid ((OB.out.alloc _).turn (i := 0) (by simp) rfl hgrow hown hat); clear hown hgrow hat hlt3) | (at_builtin; refine wpList_append_zero rfl _ _ 111 rfl 0 36 s0 1 Try.underlying111 HS.out.1 (.slice (some ⟨wE.heap.size, 0, none⟩) 0 0) 0 [] rfl (OA.out.row 0 (by simp) rfl) _ _ rfl ?_; have OB := OA))
              go_roundw
              case rel =>
                refine ⟨[(.slice (some ⟨gE, 0, none⟩) (m1.length + m2.length + 1) cE, m1 ++ m2 ++ [markOf kd])], left, li, k3 + 1, HLI.out, by first | rfl | trivial, by omega, PartsOk.join (ps := []) (qs := []) (p := (.slice (some ⟨g1, 0, none⟩) m1.length c1, m1)) (r := (.slice (some ⟨g2, 0, none⟩) m2.length c2, m2)) (by omega) (by omega) HPO.out, by have := HKB.out.1; simp at this ⊢; omega, by have := HKB.out.2; omega, ?_⟩
                have hz := OE.out.sub (List.Sublist.cons_cons _ (List.Sublist.cons_cons _ (List.nil_sublist _)))
                simp only [List.map_cons, List.map_nil]
                rw [innM_snoc _ (m1 ++ m2) (markOf kd) (m1.length + m2.length + 1) (by rw [List.length_append])]
                exact hz
              case measure => simp [intOf, lenV]; try omega
        · have HTHR := Lib.hid (HPO.out)
          have h1a := HPO.out.le (v1, m1) (by simp)
          obtain ⟨g1, c1, hv1⟩ := O2.out.formM 1 (by simp) (p := (v1, m1)) rfl h1a.1
          simp only at hv1 h1a
          subst hv1
          have h2a := HPO.out.le (v2, m2) (by simp)
          obtain ⟨g2, c2, hv2⟩ := O2.out.formM 2 (by simp) (p := (v2, m2)) rfl h2a.1
          simp only at hv2 h2a
          subst hv2
          have h3a := HPO.out.le (v3, m3) (by simp)
          obtain ⟨g3, c3, hv3⟩ := O2.out.formM 3 (by simp) (p := (v3, m3)) rfl h3a.1
          simp only at hv3 h3a
          subst hv3
          obtain ⟨go, rfl, hoc1, hoc2, hgR, hgo⟩ := O2.out.formO 0 (by simp) (n := 3) rfl (by omega)
          unfold maxLen at hoc2
          have hoc3 : ¬ oc = 2 := by omega
          have hoc4 : (oc == 2) = false := by simpa using hoc3
          have hoc5 : oc ≠ 2 := hoc3
          clear hn1 hn3
          go_wp2_with fail
          refine (pick_any B R a len cap k2 2 _ O2.out.rd (by have := HKB.out.1; omega) (by omega) (by omega)).mono ?_
          rintro e w3 ⟨v8, rfl, q0, q1, hR3, hK3⟩
          have O3 := Lib.hid (O2.out.picked hR3 hK3)
          obtain ⟨k3, hk3⟩ : ∃ k3, k3 = k2 + 1 := ⟨_, rfl⟩
          rw [← hk3] at O3
          replace HKB := Lib.hid (show k3 + 10 * (left + 3) ≤ k + 82 ∧ k ≤ k3 by have h1 := HKB.out.1; have h2 := HKB.out.2; simp at h1; omega)
          have q2 := q1 (by omega)
          clear hR3 hK3 q1 O2 hk3
          obtain rfl | rfl : v8 = 0 ∨ v8 = 1 := by omega
          · clear q0 q2
            by_cases hl0 : 0 < left
            · have hl0I : 0 < li := by have := HLI.out; omega
              go_wp2_with fail
              refine (pick_any B R a len cap k3 4 _ O3.out.rd (by have := HKB.out.1; omega) (by omega) (by omega)).mono ?_
              rintro e wp ⟨v4, rfl, q0, q1, hR4, hK4⟩
              have O4 := Lib.hid (O3.out.picked hR4 hK4)
              clear q1 hR4 hK4
              by_cases h40 : v4 = 0
              · subst h40
                obtain ⟨l, rfl⟩ : ∃ l, left = l + 1 := ⟨left - 1, by omega⟩
                have O5 := Lib.hid (O4.out.lit #[] 42 0 5 rfl (Nat.zero_le _))
                have x1 := (O5.out.cell (i := 1) (n := 3) (by simp) rfl 0 (by omega)).1
                simp only [List.map_cons, List.map_nil, List.getElem?_cons_zero] at x1
                go_wp2_with (first | (at_builtin; refine wpList_append_lies _ rfl _ _ 36 rfl 0 42 i0 (.agg #[.int .i64 0, .int .i64 0, .string ⟨#[]⟩, .string ⟨#[]⟩, .int .i64 0]) 5 56 Try.underlying36 HI.out.1 HI.out.2.1 HI.out.2.2.1 HI.out.2.2.2 rfl (by decide) (.slice (some ⟨gA, 0, none⟩) m1.length cA) m1.length (cellsM m1) rfl ((O6.out.alloc _).row 0 (by simp) rfl) ⟨wA.heap.size, 0, none⟩ 1 1 (markOf 3).cells rfl rfl (new_news wA #[.int .i64 3, .int .i64 0, .string ⟨#[]⟩, .string ⟨#[]⟩, .int .i64 0] _ _ rfl) (by intro u hu; exact cellsM_one [markOf 3] u (by simpa [cellsM] using hu)) (by omega) (by unfold maxLen; omega) (by omega) (Nat.zero_le _) _ rfl ?_; intro gB cB wB hown hgrow hat hlt3; rw [← cellsM_snoc] at hown; have O7 := Lib.hid ((O6.out.alloc (.cells #[.int .i64 3, .int .i64 0, .string ⟨#[]⟩, .string ⟨#[]⟩, .int .i64 0] 42)).turn (i := 0) (by simp) rfl hgrow hown hat); obtain ⟨cS, fS⟩ := O7.out.cell (i := 1) (n := 3) (by simp) rfl 0 (by omega); simp only [List.map_cons, List.map_nil, List.getElem?_cons_zero] at cS; clear hown hgrow hat hlt3) | (at_builtin; refine wpList_append_lies _ rfl _ _ 36 rfl 0 42 i0 (.agg #[.int .i64 0, .int .i64 0, .string ⟨#[]⟩, .string ⟨#[]⟩, .int .i64 0]) 5 56 Try.underlying36 HI.out.1 HI.out.2.1 HI.out.2.2.1 HI.out.2.2.2 rfl (by decide) (.slice (some ⟨wp.heap.size, 0, none⟩) 0 0) 0 [] rfl (O5.out.row 0 (by simp) rfl) ⟨g1, 0, none⟩ m1.length c1 (cellsM m1) rfl (cellsM_length m1) (marks_news (O5.out.row 2 (by simp) rfl)) (cellsM_one m1) h1a.1 (by unfold maxLen; omega) (by omega) (Nat.zero_le _) _ rfl ?_; intro gA cA wA hown hgrow hat hlt3; simp only [Nat.zero_add, List.nil_append] at hown ⊢; have O6 := Lib.hid (O5.out.turn (i := 0) (by simp) rfl hgrow hown hat); clear hown hgrow hat hlt3))
                have O8 := Lib.hid (O7.out.store (i := 1) (by simp) rfl 0 (.slice (some ⟨gB, 0, none⟩) (m1.length + 1) cB))
                go_roundw
                case rel =>
                  refine ⟨[(.slice (some ⟨gB, 0, none⟩) (m1.length + 1) cB, m1 ++ [markOf 3]), (.slice (some ⟨g2, 0, none⟩) m2.length c2, m2), (.slice (some ⟨g3, 0, none⟩) m3.length c3, m3)], l, li - 1, (k3 + 1), by have := HLI.out; omega, by first | rfl | rw [hqL], by omega, PartsOk.not (ps := []) (qs := [(.slice (some ⟨g2, 0, none⟩) m2.length c2, m2), (.slice (some ⟨g3, 0, none⟩) m3.length c3, m3)]) HPO.out, by have := HKB.out.1; simp at this ⊢; omega, by have := HKB.out.2; omega, ?_⟩
                  have hz := (O8.out.perm (List.Perm.swap _ _ _)).sub (List.Sublist.cons_cons _ (List.Sublist.cons_cons _ (List.Sublist.cons _ (List.Sublist.cons_cons _ (List.Sublist.cons_cons _ (List.nil_sublist _))))))
                  simp only [List.map_cons, List.map_nil]
                  rw [innM_snoc _ m1 (markOf 3) (m1.length + 1) rfl]
                  exact hz
                case measure => simp [intOf, lenV]; omega
              · have h4b : (v4 == 0) = false := by simpa using h40
                clear h40
                have OL := Lib.hid (O4.out.lit #[] 42 0 5 rfl (Nat.zero_le _))
                have O5 := Lib.hid OL.out.drew
                have x1 := (O4.out.cell (i := 0) (n := 3) (by simp) rfl 0 (by omega)).1
                simp only [List.map_cons, List.map_nil, List.getElem?_cons_zero] at x1
                have x2 := (OL.out.cell (i := 1) (n := 3) (by simp) rfl 0 (by omega)).1
                simp only [List.map_cons, List.map_nil, List.getElem?_cons_zero] at x2
                have x3 := (O4.out.cell (i := 0) (n := 3) (by simp) rfl 1 (by omega)).1
                simp only [List.map_cons, List.map_nil, List.getElem?_cons_zero, List.getElem?_cons_succ] at x3
                have x4 := (OL.out.cell (i := 1) (n := 3) (by simp) rfl 1 (by omega)).1
                simp only [List.map_cons, List.map_nil, List.getElem?_cons_zero, List.getElem?_cons_succ] at x4
                have hw1 : IntKind.i64.wrap 1 = 1 := by decide
                have hw2 : IntKind.i64.wrap 2 = 2 := by decide
                go_upto_region 12 with fail
                go_region_held3 (fun w' => w'.cell? ⟨go, 0, none⟩ = some (.slice (some ⟨g1, 0, none⟩) m1.length c1) ∧ w'.cell? ⟨go, 1, none⟩ = some (.slice (some ⟨g2, 0, none⟩) m2.length c2))
                  (refine ⟨?_, ?_⟩ <;> go_simp)
                  (first | (refine step_append_lies _ rfl _ _ 36 rfl 0 42 i0 (.agg #[.int .i64 0, .int .i64 0, .string ⟨#[]⟩, .string ⟨#[]⟩, .int .i64 0]) 5 56 Try.underlying36 HI.out.1 HI.out.2.1 HI.out.2.2.1 HI.out.2.2.2 rfl (by decide) (.slice (some ⟨gB, 0, none⟩) (m1.length + m2.length) cB) (m1.length + m2.length) (cellsM (m1 ++ m2)) rfl ((O8.out.alloc _).row 0 (by simp) rfl) ⟨wC.heap.size, 0, none⟩ 1 1 (markOf kd).cells rfl rfl (new_news wC #[.int .i64 kd, .int .i64 0, .string ⟨#[]⟩, .string ⟨#[]⟩, .int .i64 0] _ _ rfl) (by intro u hu; exact cellsM_one [markOf kd] u (by simpa [cellsM] using hu)) (by omega) (by unfold maxLen; omega) (by omega) (Nat.zero_le _) _ rfl ?_; intro gE cE wE hown hgrow hat hlt3; rw [← cellsM_snoc] at hown; have O9 := Lib.hid ((O8.out.alloc (.cells #[.int .i64 kd, .int .i64 0, .string ⟨#[]⟩, .string ⟨#[]⟩, .int .i64 0] 42)).turn (i := 0) (by simp) rfl hgrow hown hat); have z1 := (O9.out.cell (i := 1) (n := 3) (by simp) rfl 0 (by omega)).1; simp only [List.map_cons, List.map_nil, List.getElem?_cons_zero] at z1; have z2 := (O9.out.cell (i := 1) (n := 3) (by simp) rfl 1 (by omega)).1; simp only [List.map_cons, List.map_nil, List.getElem?_cons_zero, List.getElem?_cons_succ] at z2; clear hown hgrow hat hlt3) | (go_at_call 77; refine (pick_any B R a len cap (k3 + 1) 3 _ O7.out.rd (by have := HKB.out.1; omega) (by omega) (by omega)).mono ?_; rintro e wC ⟨vC, rfl, q0, q1, hRC, hKC⟩; have q2 := q1 (by omega); have O8 := Lib.hid (O7.out.picked hRC hKC); obtain ⟨kd, hw3, hd0, hd1⟩ := mark_kind vC q0 q2; have y1 := fun o => ((O8.out.alloc o).cell (i := 1) (n := 3) (by simp) rfl 0 (by omega)).1; simp only [List.map_cons, List.map_nil, List.getElem?_cons_zero] at y1; have y2 := fun o => ((O8.out.alloc o).cell (i := 1) (n := 3) (by simp) rfl 1 (by omega)).1; simp only [List.map_cons, List.map_nil, List.getElem?_cons_zero, List.getElem?_cons_succ] at y2; have y3 := (O8.out.cell (i := 1) (n := 3) (by simp) rfl 0 (by omega)).1; simp only [List.map_cons, List.map_nil, List.getElem?_cons_zero] at y3; have y4 := (O8.out.cell (i := 1) (n := 3) (by simp) rfl 1 (by omega)).1; simp only [List.map_cons, List.map_nil, List.getElem?_cons_zero, List.getElem?_cons_succ] at y4; clear hRC hKC q1) | (refine step_append_lies _ rfl _ _ 36 rfl 0 42 i0 (.agg #[.int .i64 0, .int .i64 0, .string ⟨#[]⟩, .string ⟨#[]⟩, .int .i64 0]) 5 56 Try.underlying36 HI.out.1 HI.out.2.1 HI.out.2.2.1 HI.out.2.2.2 rfl (by decide) (.slice (some ⟨gA, 0, none⟩) m1.length cA) m1.length (cellsM m1) rfl (O6.out.row 0 (by simp) rfl) ⟨g2, 0, none⟩ m2.length c2 (cellsM m2) rfl (cellsM_length m2) (marks_news (O6.out.row 3 (by simp) rfl)) (cellsM_one m2) h2a.1 (by unfold maxLen; omega) (by omega) (Nat.zero_le _) _ rfl ?_; intro gB cB wB hown hgrow hat hlt3; rw [← cellsM_append] at hown; have O7 := Lib.hid (O6.out.turn (i := 0) (by simp) rfl hgrow hown hat); have x7 := (O7.out.cell (i := 1) (n := 3) (by simp) rfl 0 (by omega)).1; simp only [List.map_cons, List.map_nil, List.getElem?_cons_zero] at x7; have x8 := (O7.out.cell (i := 1) (n := 3) (by simp) rfl 1 (by omega)).1; simp only [List.map_cons, List.map_nil, List.getElem?_cons_zero, List.getElem?_cons_succ] at x8; clear hown hgrow hat hlt3) | (refine step_append_lies _ rfl _ _ 36 rfl 0 42 i0 (.agg #[.int .i64 0, .int .i64 0, .string ⟨#[]⟩, .string ⟨#[]⟩, .int .i64 0]) 5 56 Try.underlying36 HI.out.1 HI.out.2.1 HI.out.2.2.1 HI.out.2.2.2 rfl (by decide) (.slice (some ⟨wp.heap.size, 0, none⟩) 0 0) 0 [] rfl (O5.out.row 0 (by simp) rfl) ⟨g1, 0, none⟩ m1.length c1 (cellsM m1) rfl (cellsM_length m1) (marks_news (O5.out.row 2 (by simp) rfl)) (cellsM_one m1) h1a.1 (by unfold maxLen; omega) (by omega) (Nat.zero_le _) _ rfl ?_; intro gA cA wA hown hgrow hat hlt3; simp only [Nat.zero_add, List.nil_append] at hown ⊢; have O6 := Lib.hid (O5.out.turn (i := 0) (by simp) rfl hgrow hown hat); have x5 := (O6.out.cell (i := 1) (n := 3) (by simp) rfl 0 (by omega)).1; simp only [List.map_cons, List.map_nil, List.getElem?_cons_zero] at x5; have x6 := (O6.out.cell (i := 1) (n := 3) (by simp) rfl 1 (by omega)).1; simp only [List.map_cons, List.map_nil, List.getElem?_cons_zero, List.getElem?_cons_succ] at x6; clear hown hgrow hat hlt3))
                all_goals
                  have OA := Lib.hid (O9.out.lit #[] 36 0 1 rfl (Nat.zero_le _))
                  go_wp2_with (first | (at_builtin; refine wpList_append_lies _ rfl _ _ 111 rfl 0 36 s0 (.slice none 0 0) 1 24 Try.underlying111 HS.out.1 HS.out.2.1 HS.out.2.2.1 HS.out.2.2.2 rfl (by decide) (.slice (some ⟨gG, 0, none⟩) 1 cG) 1 [(.slice (some ⟨gE, 0, none⟩) (m1.length + m2.length + 1) cE)] rfl (OC.out.row 0 (by simp) rfl) ⟨go, 2, none⟩ 1 _ [.slice (some ⟨g3, 0, none⟩) m3.length c3] rfl rfl (seg_news (OC.out.row 2 (by simp) (n := 3) rfl) 2 _ rfl) (by simp [Value.oneCell']) (by omega) (by unfold maxLen; omega) (by omega) (Nat.zero_le _) _ rfl ?_; intro gH cH wH hown hgrow hat hlt3; have OE := Lib.hid (OC.out.turn (i := 0) (by simp) rfl hgrow hown hat); clear hown hgrow hat hlt3) | (at_builtin; refine wpList_append_lies _ rfl _ _ 111 rfl 0 36 s0 (.slice none 0 0) 1 24 Try.underlying111 HS.out.1 HS.out.2.1 HS.out.2.2.1 HS.out.2.2.2 rfl (by decide) (.slice (some ⟨wE.heap.size, 0, none⟩) 0 0) 0 [] rfl ((OB.out.alloc _).row 0 (by simp) rfl) ⟨wE.heap.size + 1, 0, none⟩ 1 1 [(.slice (some ⟨gE, 0, none⟩) (m1.length + m2.length + 1) cE)] rfl rfl (new_news _ #[(.slice (some ⟨gE, 0, none⟩) (m1.length + m2.length + 1) cE)] _ _ (by simp)) (by simp [Value.oneCell']) (by omega) (by unfold maxLen; omega) (by omega) (Nat.zero_le _) _ rfl ?_; intro gG cG wG hown hgrow hat hlt3; have OC := Lib.hid ((OB.out.alloc _).turn (i := 0) (by simp) rfl hgrow hown hat); clear hown hgrow hat hlt3) | (at_builtin; refine wpList_append_zero rfl _ _ 111 rfl 0 36 s0 1 Try.underlying111 HS.out.1 (.slice (some ⟨wE.heap.size, 0, none⟩) 0 0) 0 [] rfl (OA.out.row 0 (by simp) rfl) _ _ rfl ?_; have OB := OA))
                  go_roundw
                  case rel =>
                    refine ⟨[(.slice (some ⟨gE, 0, none⟩) (m1.length + m2.length + 1) cE, m1 ++ m2 ++ [markOf kd]), (.slice (some ⟨g3, 0, none⟩) m3.length c3, m3)], left, li, (k3 + 1) + 1, HLI.out, by first | rfl | trivial, by omega, PartsOk.join (ps := []) (qs := [(.slice (some ⟨g3, 0, none⟩) m3.length c3, m3)]) (p := (.slice (some ⟨g1, 0, none⟩) m1.length c1, m1)) (r := (.slice (some ⟨g2, 0, none⟩) m2.length c2, m2)) (by omega) (by omega) HPO.out, by have := HKB.out.1; simp at this ⊢; omega, by have := HKB.out.2; omega, ?_⟩
                    have hz := OE.out.sub (List.Sublist.cons_cons _ (List.Sublist.cons_cons _ (List.Sublist.cons _ (List.Sublist.cons _ (List.Sublist.cons _ (List.Sublist.cons_cons _ (List.nil_sublist _)))))))
                    simp only [List.map_cons, List.map_nil]
                    rw [innM_snoc _ (m1 ++ m2) (markOf kd) (m1.length + m2.length + 1) (by rw [List.length_append])]
                    exact hz
                  case measure => simp [intOf, lenV]; try omega
            · have hl0I : ¬ 0 < li := by have := HLI.out; omega
              generalize w3 = wp at *
              have OL := Lib.hid (O3.out.lit #[] 42 0 5 rfl (Nat.zero_le _))
              have O5 := Lib.hid OL.out.drew
              have x1 := (O3.out.cell (i := 0) (n := 3) (by simp) rfl 0 (by omega)).1
              simp only [List.map_cons, List.map_nil, List.getElem?_cons_zero] at x1
              have x2 := (OL.out.cell (i := 1) (n := 3) (by simp) rfl 0 (by omega)).1
              simp only [List.map_cons, List.map_nil, List.getElem?_cons_zero] at x2
              have x3 := (O3.out.cell (i := 0) (n := 3) (by simp) rfl 1 (by omega)).1
              simp only [List.map_cons, List.map_nil, List.getElem?_cons_zero, List.getElem?_cons_succ] at x3
              have x4 := (OL.out.cell (i := 1) (n := 3) (by simp) rfl 1 (by omega)).1
              simp only [List.map_cons, List.map_nil, List.getElem?_cons_zero, List.getElem?_cons_succ] at x4
              have hw1 : IntKind.i64.wrap 1 = 1 := by decide
              have hw2 : IntKind.i64.wrap 2 = 2 := by decide
              go_upto_region 12 with fail
              go_region_held3 (fun w' => w'.cell? ⟨go, 0, none⟩ = some (.slice (some ⟨g1, 0, none⟩) m1.length c1) ∧ w'.cell? ⟨go, 1, none⟩ = some (.slice (some ⟨g2, 0, none⟩) m2.length c2))
                (refine ⟨?_, ?_⟩ <;> go_simp)
                (first | (refine step_append_lies _ rfl _ _ 36 rfl 0 42 i0 (.agg #[.int .i64 0, .int .i64 0, .string ⟨#[]⟩, .string ⟨#[]⟩, .int .i64 0]) 5 56 Try.underlying36 HI.out.1 HI.out.2.1 HI.out.2.2.1 HI.out.2.2.2 rfl (by decide) (.slice (some ⟨gB, 0, none⟩) (m1.length + m2.length) cB) (m1.length + m2.length) (cellsM (m1 ++ m2)) rfl ((O8.out.alloc _).row 0 (by simp) rfl) ⟨wC.heap.size, 0, none⟩ 1 1 (markOf kd).cells rfl rfl (new_news wC #[.int .i64 kd, .int .i64 0, .string ⟨#[]⟩, .string ⟨#[]⟩, .int .i64 0] _ _ rfl) (by intro u hu; exact cellsM_one [markOf kd] u (by simpa [cellsM] using hu)) (by omega) (by unfold maxLen; omega) (by omega) (Nat.zero_le _) _ rfl ?_; intro gE cE wE hown hgrow hat hlt3; rw [← cellsM_snoc] at hown; have O9 := Lib.hid ((O8.out.alloc (.cells #[.int .i64 kd, .int .i64 0, .string ⟨#[]⟩, .string ⟨#[]⟩, .int .i64 0] 42)).turn (i := 0) (by simp) rfl hgrow hown hat); have z1 := (O9.out.cell (i := 1) (n := 3) (by simp) rfl 0 (by omega)).1; simp only [List.map_cons, List.map_nil, List.getElem?_cons_zero] at z1; have z2 := (O9.out.cell (i := 1) (n := 3) (by simp) rfl 1 (by omega)).1; simp only [List.map_cons, List.map_nil, List.getElem?_cons_zero, List.getElem?_cons_succ] at z2; clear hown hgrow hat hlt3) | (go_at_call 77; refine (pick_any B R a len cap k3 3 _ O7.out.rd (by have := HKB.out.1; omega) (by omega) (by omega)).mono ?_; rintro e wC ⟨vC, rfl, q0, q1, hRC, hKC⟩; have q2 := q1 (by omega); have O8 := Lib.hid (O7.out.picked hRC hKC); obtain ⟨kd, hw3, hd0, hd1⟩ := mark_kind vC q0 q2; have y1 := fun o => ((O8.out.alloc o).cell (i := 1) (n := 3) (by simp) rfl 0 (by omega)).1; simp only [List.map_cons, List.map_nil, List.getElem?_cons_zero] at y1; have y2 := fun o => ((O8.out.alloc o).cell (i := 1) (n := 3) (by simp) rfl 1 (by omega)).1; simp only [List.map_cons, List.map_nil, List.getElem?_cons_zero, List.getElem?_cons_succ] at y2; have y3 := (O8.out.cell (i := 1) (n := 3) (by simp) rfl 0 (by omega)).1; simp only [List.map_cons, List.map_nil, List.getElem?_cons_zero] at y3; have y4 := (O8.out.cell (i := 1) (n := 3) (by simp) rfl 1 (by omega)).1; simp only [List.map_cons, List.map_nil, List.getElem?_cons_zero, List.getElem?_cons_succ] at y4; clear hRC hKC q1) | (refine step_append_lies _ rfl _ _ 36 rfl 0 42 i0 (.agg #[.int .i64 0, .int .i64 0, .string ⟨#[]⟩, .string ⟨#[]⟩, .int .i64 0]) 5 56 Try.underlying36 HI.out.1 HI.out.2.1 HI.out.2.2.1 HI.out.2.2.2 rfl (by decide) (.slice (some ⟨gA, 0, none⟩) m1.length cA) m1.length (cellsM m1) rfl (O6.out.row 0 (by simp) rfl) ⟨g2, 0, none⟩ m2.length c2 (cellsM m2) rfl (cellsM_length m2) (marks_news (O6.out.row 3 (by simp) rfl)) (cellsM_one m2) h2a.1 (by unfold maxLen; omega) (by omega) (Nat.zero_le _) _ rfl ?_; intro gB cB wB hown hgrow hat hlt3; rw [← cellsM_append] at hown; have O7 := Lib.hid (O6.out.turn (i := 0) (by simp) rfl hgrow hown hat); have x7 := (O7.out.cell (i := 1) (n := 3) (by simp) rfl 0 (by omega)).1; simp only [List.map_cons, List.map_nil, List.getElem?_cons_zero] at x7; have x8 := (O7.out.cell (i := 1) (n := 3) (by simp) rfl 1 (by omega)).1; simp only [List.map_cons, List.map_nil, List.getElem?_cons_zero, List.getElem?_cons_succ] at x8; clear hown hgrow hat hlt3) | (refine step_append_lies _ rfl _ _ 36 rfl 0 42 i0 (.agg #[.int .i64 0, .int .i64 0, .string ⟨#[]⟩, .string ⟨#[]⟩, .int .i64 0]) 5 56 Try.underlying36 HI.out.1 HI.out.2.1 HI.out.2.2.1 HI.out.2.2.2 rfl (by decide) (.slice (some ⟨wp.heap.size, 0, none⟩) 0 0) 0 [] rfl (O5.out.row 0 (by simp) rfl) ⟨g1, 0, none⟩ m1.length c1 (cellsM m1) rfl (cellsM_length m1) (marks_news (O5.out.row 2 (by simp) rfl)) (cellsM_one m1) h1a.1 (by unfold maxLen; omega) (by omega) (Nat.zero_le _) _ rfl ?_; intro gA cA wA hown hgrow hat hlt3; simp only [Nat.zero_add, List.nil_append] at hown ⊢; have O6 := Lib.hid (O5.out.turn (i := 0) (by simp) rfl hgrow hown hat); have x5 := (O6.out.cell (i := 1) (n := 3) (by simp) rfl 0 (by omega)).1; simp only [List.map_cons, List.map_nil, List.getElem?_cons_zero] at x5; have x6 := (O6.out.cell (i := 1) (n := 3) (by simp) rfl 1 (by omega)).1; simp only [List.map_cons, List.map_nil, List.getElem?_cons_zero, List.getElem?_cons_succ] at x6; clear hown hgrow hat hlt3))
              all_goals
                have OA := Lib.hid (O9.out.lit #[] 36 0 1 rfl (Nat.zero_le _))
                go_wp2_with (first | (at_builtin; refine wpList_append_lies _ rfl _ _ 111 rfl 0 36 s0 (.slice none 0 0) 1 24 Try.underlying111 HS.out.1 HS.out.2.1 HS.out.2.2.1 HS.out.2.2.2 rfl (by decide) (.slice (some ⟨gG, 0, none⟩) 1 cG) 1 [(.slice (some ⟨gE, 0, none⟩) (m1.length + m2.length + 1) cE)] rfl (OC.out.row 0 (by simp) rfl) ⟨go, 2, none⟩ 1 _ [.slice (some ⟨g3, 0, none⟩) m3.length c3] rfl rfl (seg_news (OC.out.row 2 (by simp) (n := 3) rfl) 2 _ rfl) (by simp [Value.oneCell']) (by omega) (by unfold maxLen; omega) (by omega) (Nat.zero_le _) _ rfl ?_; intro gH cH wH hown hgrow hat hlt3; have OE := Lib.hid (OC.out.turn (i := 0) (by simp) rfl hgrow hown hat); clear hown hgrow hat hlt3) | (at_builtin; refine wpList_append_lies _ rfl _ _ 111 rfl 0 36 s0 (.slice none 0 0) 1 24 Try.underlying111 HS.out.1 HS.out.2.1 HS.out.2.2.1 HS.out.2.2.2 rfl (by decide) (.slice (some ⟨wE.heap.size, 0, none⟩) 0 0) 0 [] rfl ((OB.out.alloc _).row 0 (by simp) rfl) ⟨wE.heap.size + 1, 0, none⟩ 1 1 [(.slice (some ⟨gE, 0, none⟩) (m1.length + m2.length + 1) cE)] rfl rfl (new_news _ #[(.slice (some ⟨gE, 0, none⟩) (m1.length + m2.length + 1) cE)] _ _ (by simp)) (by simp [Value.oneCell']) (by omega) (by unfold maxLen; omega) (by omega) (Nat.zero_le _) _ rfl ?_; intro gG cG wG hown hgrow hat hlt3; have OC := Lib.hid ((OB.out.alloc _).turn (i := 0) (by simp) rfl hgrow hown hat); clear hown hgrow hat hlt3) | (at_builtin; refine wpList_append_zero rfl _ _ 111 rfl 0 36 s0 1 Try.underlying111 HS.out.1 (.slice (some ⟨wE.heap.size, 0, none⟩) 0 0) 0 [] rfl (OA.out.row 0 (by simp) rfl) _ _ rfl ?_; have OB := OA))
                go_roundw
                case rel =>
                  refine ⟨[(.slice (some ⟨gE, 0, none⟩) (m1.length + m2.length + 1) cE, m1 ++ m2 ++ [markOf kd]), (.slice (some ⟨g3, 0, none⟩) m3.length c3, m3)], left, li, k3 + 1, HLI.out, by first | rfl | trivial, by omega, PartsOk.join (ps := []) (qs := [(.slice (some ⟨g3, 0, none⟩) m3.length c3, m3)]) (p := (.slice (some ⟨g1, 0, none⟩) m1.length c1, m1)) (r := (.slice (some ⟨g2, 0, none⟩) m2.length c2, m2)) (by omega) (by omega) HPO.out, by have := HKB.out.1; simp at this ⊢; omega, by have := HKB.out.2; omega, ?_⟩
                  have hz := OE.out.sub (List.Sublist.cons_cons _ (List.Sublist.cons_cons _ (List.Sublist.cons _ (List.Sublist.cons _ (List.Sublist.cons _ (List.Sublist.cons_cons _ (List.nil_sublist _)))))))
                  simp only [List.map_cons, List.map_nil]
                  rw [innM_snoc _ (m1 ++ m2) (markOf kd) (m1.length + m2.length + 1) (by rw [List.length_append])]
                  exact hz
                case measure => simp [intOf, lenV]; try omega
          · clear q0 q2
            by_cases hl0 : 0 < left
            · have hl0I : 0 < li := by have := HLI.out; omega
              go_wp2_with fail
              refine (pick_any B R a len cap k3 4 _ O3.out.rd (by have := HKB.out.1; omega) (by omega) (by omega)).mono ?_
              rintro e wp ⟨v4, rfl, q0, q1, hR4, hK4⟩
              have O4 := Lib.hid (O3.out.picked hR4 hK4)
              clear q1 hR4 hK4
              by_cases h40 : v4 = 0
              · subst h40
                obtain ⟨l, rfl⟩ : ∃ l, left = l + 1 := ⟨left - 1, by omega⟩
                have O5 := Lib.hid (O4.out.lit #[] 42 0 5 rfl (Nat.zero_le _))
                have x1 := (O5.out.cell (i := 1) (n := 3) (by simp) rfl 1 (by omega)).1
                simp only [List.map_cons, List.map_nil, List.getElem?_cons_zero, List.getElem?_cons_succ] at x1
                go_wp2_with (first | (at_builtin; refine wpList_append_lies _ rfl _ _ 36 rfl 0 42 i0 (.agg #[.int .i64 0, .int .i64 0, .string ⟨#[]⟩, .string ⟨#[]⟩, .int .i64 0]) 5 56 Try.underlying36 HI.out.1 HI.out.2.1 HI.out.2.2.1 HI.out.2.2.2 rfl (by decide) (.slice (some ⟨gA, 0, none⟩) m2.length cA) m2.length (cellsM m2) rfl ((O6.out.alloc _).row 0 (by simp) rfl) ⟨wA.heap.size, 0, none⟩ 1 1 (markOf 3).cells rfl rfl (new_news wA #[.int .i64 3, .int .i64 0, .string ⟨#[]⟩, .string ⟨#[]⟩, .int .i64 0] _ _ rfl) (by intro u hu; exact cellsM_one [markOf 3] u (by simpa [cellsM] using hu)) (by omega) (by unfold maxLen; omega) (by omega) (Nat.zero_le _) _ rfl ?_; intro gB cB wB hown hgrow hat hlt3; rw [← cellsM_snoc] at hown; have O7 := Lib.hid ((O6.out.alloc (.cells #[.int .i64 3, .int .i64 0, .string ⟨#[]⟩, .string ⟨#[]⟩, .int .i64 0] 42)).turn (i := 0) (by simp) rfl hgrow hown hat); obtain ⟨cS, fS⟩ := O7.out.cell (i := 1) (n := 3) (by simp) rfl 1 (by omega); simp only [List.map_cons, List.map_nil, List.getElem?_cons_zero, List.getElem?_cons_succ] at cS; clear hown hgrow hat hlt3) | (at_builtin; refine wpList_append_lies _ rfl _ _ 36 rfl 0 42 i0 (.agg #[.int .i64 0, .int .i64 0, .string ⟨#[]⟩, .string ⟨#[]⟩, .int .i64 0]) 5 56 Try.underlying36 HI.out.1 HI.out.2.1 HI.out.2.2.1 HI.out.2.2.2 rfl (by decide) (.slice (some ⟨wp.heap.size, 0, none⟩) 0 0) 0 [] rfl (O5.out.row 0 (by simp) rfl) ⟨g2, 0, none⟩ m2.length c2 (cellsM m2) rfl (cellsM_length m2) (marks_news (O5.out.row 3 (by simp) rfl)) (cellsM_one m2) h2a.1 (by unfold maxLen; omega) (by omega) (Nat.zero_le _) _ rfl ?_; intro gA cA wA hown hgrow hat hlt3; simp only [Nat.zero_add, List.nil_append] at hown ⊢; have O6 := Lib.hid (O5.out.turn (i := 0) (by simp) rfl hgrow hown hat); clear hown hgrow hat hlt3))
                have O8 := Lib.hid (O7.out.store (i := 1) (by simp) rfl 1 (.slice (some ⟨gB, 0, none⟩) (m2.length + 1) cB))
                go_roundw
                case rel =>
                  refine ⟨[(.slice (some ⟨g1, 0, none⟩) m1.length c1, m1), (.slice (some ⟨gB, 0, none⟩) (m2.length + 1) cB, m2 ++ [markOf 3]), (.slice (some ⟨g3, 0, none⟩) m3.length c3, m3)], l, li - 1, (k3 + 1), by have := HLI.out; omega, by first | rfl | rw [hqL], by omega, PartsOk.not (ps := [(.slice (some ⟨g1, 0, none⟩) m1.length c1, m1)]) (qs := [(.slice (some ⟨g3, 0, none⟩) m3.length c3, m3)]) HPO.out, by have := HKB.out.1; simp at this ⊢; omega, by have := HKB.out.2; omega, ?_⟩
                  have hz := ((O8.out.perm (List.Perm.swap _ _ _)).perm (List.Perm.cons _ (List.Perm.swap _ _ _))).sub (List.Sublist.cons_cons _ (List.Sublist.cons_cons _ (List.Sublist.cons_cons _ (List.Sublist.cons _ (List.Sublist.cons_cons _ (List.nil_sublist _))))))
                  simp only [List.map_cons, List.map_nil]
                  rw [innM_snoc _ m2 (markOf 3) (m2.length + 1) rfl]
                  exact hz
                case measure => simp [intOf, lenV]; omega
              · have h4b : (v4 == 0) = false := by simpa using h40
                clear h40
                have OL := Lib.hid (O4.out.lit #[] 42 0 5 rfl (Nat.zero_le _))
                have O5 := Lib.hid OL.out.drew
                have x1 := (O4.out.cell (i := 0) (n := 3) (by simp) rfl 1 (by omega)).1
                simp only [List.map_cons, List.map_nil, List.getElem?_cons_zero, List.getElem?_cons_succ] at x1
                have x2 := (OL.out.cell (i := 1) (n := 3) (by simp) rfl 1 (by omega)).1
                simp only [List.map_cons, List.map_nil, List.getElem?_cons_zero, List.getElem?_cons_succ] at x2
                have x3 := (O4.out.cell (i := 0) (n := 3) (by simp) rfl 2 (by omega)).1
                simp only [List.map_cons, List.map_nil, List.getElem?_cons_zero, List.getElem?_cons_succ] at x3
                have x4 := (OL.out.cell (i := 1) (n := 3) (by simp) rfl 2 (by omega)).1
                simp only [List.map_cons, List.map_nil, List.getElem?_cons_zero, List.getElem?_cons_succ] at x4
                have hw1 : IntKind.i64.wrap 1 = 1 := by decide
                have hw2 : IntKind.i64.wrap 2 = 2 := by decide
                go_upto_region 12 with fail
                go_region_held3 (fun w' => w'.cell? ⟨go, 1, none⟩ = some (.slice (some ⟨g2, 0, none⟩) m2.length c2) ∧ w'.cell? ⟨go, 2, none⟩ = some (.slice (some ⟨g3, 0, none⟩) m3.length c3))
                  (refine ⟨?_, ?_⟩ <;> go_simp)
                  (first | (refine step_append_lies _ rfl _ _ 36 rfl 0 42 i0 (.agg #[.int .i64 0, .int .i64 0, .string ⟨#[]⟩, .string ⟨#[]⟩, .int .i64 0]) 5 56 Try.underlying36 HI.out.1 HI.out.2.1 HI.out.2.2.1 HI.out.2.2.2 rfl (by decide) (.slice (some ⟨gB, 0, none⟩) (m2.length + m3.length) cB) (m2.length + m3.length) (cellsM (m2 ++ m3)) rfl ((O8.out.alloc _).row 0 (by simp) rfl) ⟨wC.heap.size, 0, none⟩ 1 1 (markOf kd).cells rfl rfl (new_news wC #[.int .i64 kd, .int .i64 0, .string ⟨#[]⟩, .string ⟨#[]⟩, .int .i64 0] _ _ rfl) (by intro u hu; exact cellsM_one [markOf kd] u (by simpa [cellsM] using hu)) (by omega) (by unfold maxLen; omega) (by omega) (Nat.zero_le _) _ rfl ?_; intro gE cE wE hown hgrow hat hlt3; rw [← cellsM_snoc] at hown; have O9 := Lib.hid ((O8.out.alloc (.cells #[.int .i64 kd, .int .i64 0, .string ⟨#[]⟩, .string ⟨#[]⟩, .int .i64 0] 42)).turn (i := 0) (by simp) rfl hgrow hown hat); have z1 := (O9.out.cell (i := 1) (n := 3) (by simp) rfl 1 (by omega)).1; simp only [List.map_cons, List.map_nil, List.getElem?_cons_zero, List.getElem?_cons_succ] at z1; have z2 := (O9.out.cell (i := 1) (n := 3) (by simp) rfl 2 (by omega)).1; simp only [List.map_cons, List.map_nil, List.getElem?_cons_zero, List.getElem?_cons_succ] at z2; clear hown hgrow hat hlt3) | (go_at_call 77; refine (pick_any B R a len cap (k3 + 1) 3 _ O7.out.rd (by have := HKB.out.1; omega) (by omega) (by omega)).mono ?_; rintro e wC ⟨vC, rfl, q0, q1, hRC, hKC⟩; have q2 := q1 (by omega); have O8 := Lib.hid (O7.out.picked hRC hKC); obtain ⟨kd, hw3, hd0, hd1⟩ := mark_kind vC q0 q2; have y1 := fun o => ((O8.out.alloc o).cell (i := 1) (n := 3) (by simp) rfl 1 (by omega)).1; simp only [List.map_cons, List.map_nil, List.getElem?_cons_zero, List.getElem?_cons_succ] at y1; have y2 := fun o => ((O8.out.alloc o).cell (i := 1) (n := 3) (by simp) rfl 2 (by omega)).1; simp only [List.map_cons, List.map_nil, List.getElem?_cons_zero, List.getElem?_cons_succ] at y2; have y3 := (O8.out.cell (i := 1) (n := 3) (by simp) rfl 1 (by omega)).1; simp only [List.map_cons, List.map_nil, List.getElem?_cons_zero, List.getElem?_cons_succ] at y3; have y4 := (O8.out.cell (i := 1) (n := 3) (by simp) rfl 2 (by omega)).1; simp only [List.map_cons, List.map_nil, List.getElem?_cons_zero, List.getElem?_cons_succ] at y4; clear hRC hKC q1) | (refine step_append_lies _ rfl _ _ 36 rfl 0 42 i0 (.agg #[.int .i64 0, .int .i64 0, .string ⟨#[]⟩, .string ⟨#[]⟩, .int .i64 0]) 5 56 Try.underlying36 HI.out.1 HI.out.2.1 HI.out.2.2.1 HI.out.2.2.2 rfl (by decide) (.slice (some ⟨gA, 0, none⟩) m2.length cA) m2.length (cellsM m2) rfl (O6.out.row 0 (by simp) rfl) ⟨g3, 0, none⟩ m3.length c3 (cellsM m3) rfl (cellsM_length m3) (marks_news (O6.out.row 4 (by simp) rfl)) (cellsM_one m3) h3a.1 (by unfold maxLen; omega) (by omega) (Nat.zero_le _) _ rfl ?_; intro gB cB wB hown hgrow hat hlt3; rw [← cellsM_append] at hown; have O7 := Lib.hid (O6.out.turn (i := 0) (by simp) rfl hgrow hown hat); have x7 := (O7.out.cell (i := 1) (n := 3) (by simp) rfl 1 (by omega)).1; simp only [List.map_cons, List.map_nil, List.getElem?_cons_zero, List.getElem?_cons_succ] at x7; have x8 := (O7.out.cell (i := 1) (n := 3) (by simp) rfl 2 (by omega)).1; simp only [List.map_cons, List.map_nil, List.getElem?_cons_zero, List.getElem?_cons_succ] at x8; clear hown hgrow hat hlt3) | (refine step_append_lies _ rfl _ _ 36 rfl 0 42 i0 (.agg #[.int .i64 0, .int .i64 0, .string ⟨#[]⟩, .string ⟨#[]⟩, .int .i64 0]) 5 56 Try.underlying36 HI.out.1 HI.out.2.1 HI.out.2.2.1 HI.out.2.2.2 rfl (by decide) (.slice (some ⟨wp.heap.size, 0, none⟩) 0 0) 0 [] rfl (O5.out.row 0 (by simp) rfl) ⟨g2, 0, none⟩ m2.length c2 (cellsM m2) rfl (cellsM_length m2) (marks_news (O5.out.row 3 (by simp) rfl)) (cellsM_one m2) h2a.1 (by unfold maxLen; omega) (by omega) (Nat.zero_le _) _ rfl ?_; intro gA cA wA hown hgrow hat hlt3; simp only [Nat.zero_add, List.nil_append] at hown ⊢; have O6 := Lib.hid (O5.out.turn (i := 0) (by simp) rfl hgrow hown hat); have x5 := (O6.out.cell (i := 1) (n := 3) (by simp) rfl 1 (by omega)).1; simp only [List.map_cons, List.map_nil, List.getElem?_cons_zero, List.getElem?_cons_succ] at x5; have x6 := (O6.out.cell (i := 1) (n := 3) (by simp) rfl 2 (by omega)).1; simp only [List.map_cons, List.map_nil, List.getElem?_cons_zero, List.getElem?_cons_succ] at x6; clear hown hgrow hat hlt3))
                all_goals
                  have OA := Lib.hid (O9.out.lit #[] 36 0 1 rfl (Nat.zero_le _))
                  go_wp2_with (first | (at_builtin; refine wpList_append_zero rfl _ _ 111 rfl 0 36 s0 1 Try.underlying111 HS.out.1 (.slice (some ⟨gG, 0, none⟩) 2 cG) 2 [.slice (some ⟨g1, 0, none⟩) m1.length c1, (.slice (some ⟨gE, 0, none⟩) (m2.length + m3.length + 1) cE)] rfl (OC.out.row 0 (by simp) rfl) _ _ rfl ?_; have OE := OC) | (at_builtin; refine wpList_append_lies _ rfl _ _ 111 rfl 0 36 s0 (.slice none 0 0) 1 24 Try.underlying111 HS.out.1 HS.out.2.1 HS.out.2.2.1 HS.out.2.2.2 rfl (by decide) (.slice (some ⟨gF, 0, none⟩) 1 cF) 1 [.slice (some ⟨g1, 0, none⟩) m1.length c1] rfl ((OB.out.alloc _).row 0 (by simp) rfl) ⟨wF.heap.size, 0, none⟩ 1 1 [(.slice (some ⟨gE, 0, none⟩) (m2.length + m3.length + 1) cE)] rfl rfl (new_news _ #[(.slice (some ⟨gE, 0, none⟩) (m2.length + m3.length + 1) cE)] _ _ (by simp)) (by simp [Value.oneCell']) (by omega) (by unfold maxLen; omega) (by omega) (Nat.zero_le _) _ rfl ?_; intro gG cG wG hown hgrow hat hlt3; have OC := Lib.hid ((OB.out.alloc _).turn (i := 0) (by simp) rfl hgrow hown hat); clear hown hgrow hat hlt3) | (at_builtin; refine wpList_append_lies _ rfl _ _ 111 rfl 0 36 s0 (.slice none 0 0) 1 24 Try.underlying111 HS.out.1 HS.out.2.1 HS.out.2.2.1 HS.out.2.2.2 rfl (by decide) (.slice (some ⟨wE.heap.size, 0, none⟩) 0 0) 0 [] rfl (OA.out.row 0 (by simp) rfl) ⟨go, 0, none⟩ 1 _ [.slice (some ⟨g1, 0, none⟩) m1.length c1] rfl rfl (seg_news (OA.out.row 2 (by simp) (n := 3) rfl) 0 _ rfl) (by simp [Value.oneCell']) (by omega) (by unfold maxLen; omega) (by omega) (Nat.zero_le _) _ rfl ?_; intro gF cF wF hown hgrow hat hlt3; simp only [Nat.zero_add, List.nil_append] at hown ⊢; have OB := Lib.hid (OA.out.turn (i := 0) (by simp) rfl hgrow hown hat); clear hown hgrow hat hlt3))
                  go_roundw
                  case rel =>
                    refine ⟨[(.slice (some ⟨g1, 0, none⟩) m1.length c1, m1), (.slice (some ⟨gE, 0, none⟩) (m2.length + m3.length + 1) cE, m2 ++ m3 ++ [markOf kd])], left, li, (k3 + 1) + 1, HLI.out, by first | rfl | trivial, by omega, PartsOk.join (ps := [(.slice (some ⟨g1, 0, none⟩) m1.length c1, m1)]) (qs := []) (p := (.slice (some ⟨g2, 0, none⟩) m2.length c2, m2)) (r := (.slice (some ⟨g3, 0, none⟩) m3.length c3, m3)) (by omega) (by omega) HPO.out, by have := HKB.out.1; simp at this ⊢; omega, by have := HKB.out.2; omega, ?_⟩
                    have hz := (OE.out.sub (List.Sublist.cons_cons _ (List.Sublist.cons_cons _ (List.Sublist.cons _ (List.Sublist.cons_cons _ (List.nil_sublist _)))))).perm (List.Perm.cons _ (List.Perm.swap _ _ _))
                    simp only [List.map_cons, List.map_nil]
                    rw [innM_snoc _ (m2 ++ m3) (markOf kd) (m2.length + m3.length + 1) (by rw [List.length_append])]
                    exact hz
                  case measure => simp [intOf, lenV]; try omega
            · have hl0I : ¬ 0 < li := by have := HLI.out; omega
              generalize w3 = wp at *
              have OL := Lib.hid (O3.out.lit #[] 42 0 5 rfl (Nat.zero_le _))
              have O5 := Lib.hid OL.out.drew
              have x1 := (O3.out.cell (i := 0) (n := 3) (by simp) rfl 1 (by omega)).1
              simp only [List.map_cons, List.map_nil, List.getElem?_cons_zero, List.getElem?_cons_succ] at x1
              have x2 := (OL.out.cell (i := 1) (n := 3) (by simp) rfl 1 (by omega)).1
              simp only [List.map_cons, List.map_nil, List.getElem?_cons_zero, List.getElem?_cons_succ] at x2
              have x3 := (O3.out.cell (i := 0) (n := 3) (by simp) rfl 2 (by omega)).1
              simp only [List.map_cons, List.map_nil, List.getElem?_cons_zero, List.getElem?_cons_succ] at x3
              have x4 := (OL.out.cell (i := 1) (n := 3) (by simp) rfl 2 (by omega)).1
              simp only [List.map_cons, List.map_nil, List.getElem?_cons_zero, List.getElem?_cons_succ] at x4
              have hw1 : IntKind.i64.wrap 1 = 1 := by decide
              have hw2 : IntKind.i64.wrap 2 = 2 := by decide
              go_upto_region 12 with fail
              go_region_held3 (fun w' => w'.cell? ⟨go, 1, none⟩ = some (.slice (some ⟨g2, 0, none⟩) m2.length c2) ∧ w'.cell? ⟨go, 2, none⟩ = some (.slice (some ⟨g3, 0, none⟩) m3.length c3))
                (refine ⟨?_, ?_⟩ <;> go_simp)
                (first | (refine step_append_lies _ rfl _ _ 36 rfl 0 42 i0 (.agg #[.int .i64 0, .int .i64 0, .string ⟨#[]⟩, .string ⟨#[]⟩, .int .i64 0]) 5 56 Try.underlying36 HI.out.1 HI.out.2.1 HI.out.2.2.1 HI.out.2.2.2 rfl (by decide) (.slice (some ⟨gB, 0, none⟩) (m2.length + m3.length) cB) (m2.length + m3.length) (cellsM (m2 ++ m3)) rfl ((O8.out.alloc _).row 0 (by simp) rfl) ⟨wC.heap.size, 0, none⟩ 1 1 (markOf kd).cells rfl rfl (new_news wC #[.int .i64 kd, .int .i64 0, .string ⟨#[]⟩, .string ⟨#[]⟩, .int .i64 0] _ _ rfl) (by intro u hu; exact cellsM_one [markOf kd] u (by simpa [cellsM] using hu)) (by omega) (by unfold maxLen; omega) (by omega) (Nat.zero_le _) _ rfl ?_; intro gE cE wE hown hgrow hat hlt3; rw [← cellsM_snoc] at hown; have O9 := Lib.hid ((O8.out.alloc (.cells #[.int .i64 kd, .int .i64 0, .string ⟨#[]⟩, .string ⟨#[]⟩, .int .i64 0] 42)).turn (i := 0) (by simp) rfl hgrow hown hat); have z1 := (O9.out.cell (i := 1) (n := 3) (by simp) rfl 1 (by omega)).1; simp only [List.map_cons, List.map_nil, List.getElem?_cons_zero, List.getElem?_cons_succ] at z1; have z2 := (O9.out.cell (i := 1) (n := 3) (by simp) rfl 2 (by omega)).1; simp only [List.map_cons, List.map_nil, List.getElem?_cons_zero, List.getElem?_cons_succ] at z2; clear hown hgrow hat hlt3) | (go_at_call 77; refine (pick_any B R a len cap k3 3 _ O7.out.rd (by have := HKB.out.1; omega) (by omega) (by omega)).mono ?_; rintro e wC ⟨vC, rfl, q0, q1, hRC, hKC⟩; have q2 := q1 (by omega); have O8 := Lib.hid (O7.out.picked hRC hKC); obtain ⟨kd, hw3, hd0, hd1⟩ := mark_kind vC q0 q2; have y1 := fun o => ((O8.out.alloc o).cell (i := 1) (n := 3) (by simp) rfl 1 (by omega)).1; simp only [List.map_cons, List.map_nil, List.getElem?_cons_zero, List.getElem?_cons_succ] at y1; have y2 := fun o => ((O8.out.alloc o).cell (i := 1) (n := 3) (by simp) rfl 2 (by omega)).1; simp only [List.map_cons, List.map_nil, List.getElem?_cons_zero, List.getElem?_cons_succ] at y2; have y3 := (O8.out.cell (i := 1) (n := 3) (by simp) rfl 1 (by omega)).1; simp only [List.map_cons, List.map_nil, List.getElem?_cons_zero, List.getElem?_cons_succ] at y3; have y4 := (O8.out.cell (i := 1) (n := 3) (by simp) rfl 2 (by omega)).1; simp only [List.map_cons, List.map_nil, List.getElem?_cons_zero, List.getElem?_cons_succ] at y4; clear hRC hKC q1) | (refine step_append_lies _ rfl _ _ 36 rfl 0 42 i0 (.agg #[.int .i64 0, .int .i64 0, .string ⟨#[]⟩, .string ⟨#[]⟩, .int .i64 0]) 5 56 Try.underlying36 HI.out.1 HI.out.2.1 HI.out.2.2.1 HI.out.2.2.2 rfl (by decide) (.slice (some ⟨gA, 0, none⟩) m2.length cA) m2.length (cellsM m2) rfl (O6.out.row 0 (by simp) rfl) ⟨g3, 0, none⟩ m3.length c3 (cellsM m3) rfl (cellsM_length m3) (marks_news (O6.out.row 4 (by simp) rfl)) (cellsM_one m3) h3a.1 (by unfold maxLen; omega) (by omega) (Nat.zero_le _) _ rfl ?_; intro gB cB wB hown hgrow hat hlt3; rw [← cellsM_append] at hown; have O7 := Lib.hid (O6.out.turn (i := 0) (by simp) rfl hgrow hown hat); have x7 := (O7.out.cell (i := 1) (n := 3) (by simp) rfl 1 (by omega)).1; simp only [List.map_cons, List.map_nil, List.getElem?_cons_zero, List.getElem?_cons_succ] at x7; have x8 := (O7.out.cell (i := 1) (n := 3) (by simp) rfl 2 (by omega)).1; simp only [List.map_cons, List.map_nil, List.getElem?_cons_zero, List.getElem?_cons_succ] at x8; clear hown hgrow hat hlt3) | (refine step_append_lies _ rfl _ _ 36 rfl 0 42 i0 (.agg #[.int .i64 0, .int .i64 0, .string ⟨#[]⟩, .string ⟨#[]⟩, .int .i64 0]) 5 56 Try.underlying36 HI.out.1 HI.out.2.1 HI.out.2.2.1 HI.out.2.2.2 rfl (by decide) (.slice (some ⟨wp.heap.size, 0, none⟩) 0 0) 0 [] rfl (O5.out.row 0 (by simp) rfl) ⟨g2, 0, none⟩ m2.length c2 (cellsM m2) rfl (cellsM_length m2) (marks_news (O5.out.row 3 (by simp) rfl)) (cellsM_one m2) h2a.1 (by unfold maxLen; omega) (by omega) (Nat.zero_le _) _ rfl ?_; intro gA cA wA hown hgrow hat hlt3; simp only [Nat.zero_add, List.nil_append] at hown ⊢; have O6 := Lib.hid (O5.out.turn (i := 0) (by simp) rfl hgrow hown hat); have x5 := (O6.out.cell (i := 1) (n := 3) (by simp) rfl 1 (by omega)).1; simp only [List.map_cons, List.map_nil, List.getElem?_cons_zero, List.getElem?_cons_succ] at x5; have x6 := (O6.out.cell (i := 1) (n := 3) (by simp) rfl 2 (by omega)).1; simp only [List.map_cons, List.map_nil, List.getElem?_cons_zero, List.getElem?_cons_succ] at x6; clear hown hgrow hat hlt3))
              all_goals
                have OA := Lib.hid (O9.out.lit #[] 36 0 1 rfl (Nat.zero_le _))
                go_wp2_with (first | (at_builtin; refine wpList_append_zero rfl _ _ 111 rfl 0 36 s0 1 Try.underlying111 HS.out.1 (.slice (some ⟨gG, 0, none⟩) 2 cG) 2 [.slice (some ⟨g1, 0, none⟩) m1.length c1, (.slice (some ⟨gE, 0, none⟩) (m2.length + m3.length + 1) cE)] rfl (OC.out.row 0 (by simp) rfl) _ _ rfl ?_; have OE := OC) | (at_builtin; refine wpList_append_lies _ rfl _ _ 111 rfl 0 36 s0 (.slice none 0 0) 1 24 Try.underlying111 HS.out.1 HS.out.2.1 HS.out.2.2.1 HS.out.2.2.2 rfl (by decide) (.slice (some ⟨gF, 0, none⟩) 1 cF) 1 [.slice (some ⟨g1, 0, none⟩) m1.length c1] rfl ((OB.out.alloc _).row 0 (by simp) rfl) ⟨wF.heap.size, 0, none⟩ 1 1 [(.slice (some ⟨gE, 0, none⟩) (m2.length + m3.length + 1) cE)] rfl rfl (new_news _ #[(.slice (some ⟨gE, 0, none⟩) (m2.length + m3.length + 1) cE)] _ _ (by simp)) (by simp [Value.oneCell']) (by omega) (by unfold maxLen; omega) (by omega) (Nat.zero_le _) _ rfl ?_; intro gG cG wG hown hgrow hat hlt3; have OC := Lib.hid ((OB.out.alloc _).turn (i := 0) (by simp) rfl hgrow hown hat); clear hown hgrow hat hlt3) | (at_builtin; refine wpList_append_lies _ rfl _ _ 111 rfl 0 36 s0 (.slice none 0 0) 1 24 Try.underlying111 HS.out.1 HS.out.2.1 HS.out.2.2.1 HS.out.2.2.2 rfl (by decide) (.slice (some ⟨wE.heap.size, 0, none⟩) 0 0) 0 [] rfl (OA.out.row 0 (by simp) rfl) ⟨go, 0, none⟩ 1 _ [.slice (some ⟨g1, 0, none⟩) m1.length c1] rfl rfl (seg_news (OA.out.row 2 (by simp) (n := 3) rfl) 0 _ rfl) (by simp [Value.oneCell']) (by omega) (by unfold maxLen; omega) (by omega) (Nat.zero_le _) _ rfl ?_; intro gF cF wF hown hgrow hat hlt3; simp only [Nat.zero_add, List.nil_append] at hown ⊢; have OB := Lib.hid (OA.out.turn (i := 0) (by simp) rfl hgrow hown hat); clear hown hgrow hat hlt3))
                go_roundw
                case rel =>
                  refine ⟨[(.slice (some ⟨g1, 0, none⟩) m1.length c1, m1), (.slice (some ⟨gE, 0, none⟩) (m2.length + m3.length + 1) cE, m2 ++ m3 ++ [markOf kd])], left, li, k3 + 1, HLI.out, by first | rfl | trivial, by omega, PartsOk.join (ps := [(.slice (some ⟨g1, 0, none⟩) m1.length c1, m1)]) (qs := []) (p := (.slice (some ⟨g2, 0, none⟩) m2.length c2, m2)) (r := (.slice (some ⟨g3, 0, none⟩) m3.length c3, m3)) (by omega) (by omega) HPO.out, by have := HKB.out.1; simp at this ⊢; omega, by have := HKB.out.2; omega, ?_⟩
                  have hz := (OE.out.sub (List.Sublist.cons_cons _ (List.Sublist.cons_cons _ (List.Sublist.cons _ (List.Sublist.cons_cons _ (List.nil_sublist _)))))).perm (List.Perm.cons _ (List.Perm.swap _ _ _))
                  simp only [List.map_cons, List.map_nil]
                  rw [innM_snoc _ (m2 ++ m3) (markOf kd) (m2.length + m3.length + 1) (by rw [List.length_append])]
                  exact hz
                case measure => simp [intOf, lenV]; try omega
        · simp at hn3 <;> omega
end Go.Proofs.Ytpcependeealfaa
