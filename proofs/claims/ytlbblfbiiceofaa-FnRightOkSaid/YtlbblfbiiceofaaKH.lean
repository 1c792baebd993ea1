/- spec.l10Ask and spec.FirstRoster: what each returns. No condition. What spec.l20Needs and spec.l20Right draw. No condition. spec.l20Right: a term, a roster that is often right, and needs. No condition. DrawCoverOk, DrawKeepsAll, DrawRightOk: what the laws are drawn. Written by mkrostdraw3.py. No condition. -/
import Derived.Test.YtlbblfbiiceofaaKD
import Derived.Test.YtlbblfbiiceofaaKF
import Derived.Test.YtlbblfbiiceofaaKG

namespace Go.Proofs.Ytlbblfbiiceofaa
open Go.RowKit

/-- whether a roster may be asked for -/
def askB (bm : Bool) (P D l d : Int) : Bool := bm && (decide (1 ≤ P) && decide (P ≤ 3)) && (decide (0 ≤ D) && decide (D ≤ 5)) && needsOk l d
theorem askB_iff {bm : Bool} {P D l d : Int} : askB bm P D l d = true ↔ bm = true ∧ (1 ≤ P ∧ P ≤ 3) ∧ (0 ≤ D ∧ D ≤ 5) ∧ needsOk l d = true := by
  simp only [askB, Bool.and_eq_true, decide_eq_true_eq]
  constructor
  · rintro ⟨⟨⟨h1, h2⟩, h3⟩, h4⟩; exact ⟨h1, h2, h3, h4⟩
  · rintro ⟨h1, h2, h3, h4⟩; exact ⟨⟨⟨h1, h2⟩, h3⟩, h4⟩

set_option maxHeartbeats 3200000 in
theorem specAsk_any (ms : List Mk) (v : Value) (P D l d : Int) (w : World) (h : IsMarks w v ms) (hl : ms.length ≤ 1048576) :
    Calls Try.prog 98 #[v, .int .i64 P, .int .i64 D, .agg #[.int .i64 l, .int .i64 d]] w fun e w' => (∃ (m : M) (bm : Bool), IsOf ms m bm ∧ e = .returned (.bool (askB bm P D l d))) ∧ Below w.heap.size w w' := by
  have HM := Lib.hid (fun W (hI : IsMarks W v ms) => specMachineOf_any ms v W hI hl)
  have X0 := Lib.hid (NdBox.new w l d 29)
  have Q0 := Lib.hid (show Below w.heap.size w (w.alloc (.cells #[.int .i64 l, .int .i64 d] 29)) from (Below.refl _ _).alloc (Nat.le_refl _) _)
  have H := Lib.hid h
  obtain ⟨av, nv, cv, rfl⟩ := h.slice
  have HIP := Lib.hid (fun W => l1In_any P 1 3 W)
  have HID := Lib.hid (fun W => l1In_any D 0 5 W)
  have HNO := Lib.hid (fun W => specNeedsOk_any l d W)
  clear h
  go_enter Try.func98, Try.ntmps98
  go_wp2_with fail
  refine (HM.out _ (H.out.below Q0.out)).mono ?_
  rintro e w2 hof
  obtain ⟨m, bm, a1, a2, c1, c2, hio, rfl, -, -, hb2⟩ := hof.reads
  have HIO := Lib.hid hio
  have X2 := Lib.hid ((X0.out.below hb2).below ((Below.refl _ _).alloc (Nat.le_refl _) (.cells #[.int .i64 m.st, .slice a1 m.next.length c1, .slice a2 m.ends.length c2] 115)))
  have B2 := Lib.hid ((Q0.out.trans (hb2.mono Q0.out.size)).alloc (Q0.out.trans (hb2.mono Q0.out.size)).size (.cells #[.int .i64 m.st, .slice a1 m.next.length c1, .slice a2 m.ends.length c2] 115))
  clear hio hof hb2
  cases bm with
  | false =>
    go_wp2_with fail
    go_ret
    exact ⟨⟨m, false, HIO.out, rfl⟩, B2.out⟩
  | true =>
    cases hp : (decide (1 ≤ P) && decide (P ≤ 3)) with
    | false =>
      rw [hp] at HIP
      have HE : Hid (askB true P D l d = false) := by
        have : askB true P D l d = false := by rw [askB, hp]; rfl
        exact Lib.hid this
      clear hp
      go_wp2_with (go_at_call 57; refine (HIP.out _).mono ?_; rintro e w' ⟨rfl, rfl⟩)
      go_ret
      exact ⟨⟨m, true, HIO.out, ret_bool HE.out.symm⟩, B2.out⟩
    | true =>
      rw [hp] at HIP
      cases hd : (decide (0 ≤ D) && decide (D ≤ 5)) with
      | false =>
        rw [hd] at HID
        have HE : Hid (askB true P D l d = false) := by
          have : askB true P D l d = false := by rw [askB, hp, hd]; rfl
          exact Lib.hid this
        clear hp hd
        go_wp2_with fail
        refine (HIP.out _).mono ?_
        rintro e w' ⟨rfl, rfl⟩
        go_wp2_with fail
        refine (HID.out _).mono ?_
        rintro e w' ⟨rfl, rfl⟩
        go_wp2_with fail
        go_ret
        exact ⟨⟨m, true, HIO.out, ret_bool HE.out.symm⟩, B2.out⟩
      | true =>
        rw [hd] at HID
        have HE : Hid (askB true P D l d = needsOk l d) := by
          have : askB true P D l d = needsOk l d := by rw [askB, hp, hd]; rfl
          exact Lib.hid this
        clear hp hd
        go_wp2_with fail
        refine (HIP.out _).mono ?_
        rintro e w' ⟨rfl, rfl⟩
        go_wp2_with fail
        refine (HID.out _).mono ?_
        rintro e w' ⟨rfl, rfl⟩
        have c0 := X2.out.c0
        have c1' := X2.out.c1
        go_wp2_with fail
        refine (HNO.out _).mono ?_
        rintro e w3 ⟨rfl, hb3⟩
        go_wp2_with fail
        go_ret
        exact ⟨⟨m, true, HIO.out, ret_bool HE.out.symm⟩, B2.out.trans (hb3.mono B2.out.size)⟩

/-- all rosters that are asked for, in their order -/
def rosR (m : M) (P D : Nat) (l d : Int) : List (List ByteArray) := rosW m (colsF l d P []) D (List.replicate P ⟨#[]⟩)
/-- the first one, and whether there is one -/
def frst (m : M) (bm : Bool) (P D l d : Int) : List ByteArray × Bool :=
  if askB bm P D l d = true ∧ m.ways D.toNat 0 ≠ 0 then ((rosR m P.toNat D.toNat l d).headD [], decide (rosR m P.toNat D.toNat l d ≠ [])) else ([], false)
theorem frst_no1 {m : M} {bm : Bool} {P D l d : Int} (h : askB bm P D l d = false) : frst m bm P D l d = ([], false) := if_neg (by rw [h]; simp)
theorem frst_no2 {m : M} {bm : Bool} {P D l d : Int} (h : m.ways D.toNat 0 = 0) : frst m bm P D l d = ([], false) := if_neg (by rw [h]; simp)
theorem frst_yes {m : M} {bm : Bool} {P D : Nat} {l d : Int} (h : askB bm P D l d = true) (h2 : m.ways D 0 ≠ 0) : frst m bm P D l d = ((rosR m P D l d).headD [], decide (rosR m P D l d ≠ [])) := if_pos ⟨h, h2⟩
/-- what FirstRoster leaves -/
def FirstP (ms : List Mk) (P D l d : Int) (w : World) (e : Ending) (w' : World) : Prop :=
  ∃ (m : M) (bm : Bool) (xs : List ByteArray) (b : Bool) (a : Option Addr) (n c : Nat), IsOf ms m bm ∧ frst m bm P D l d = (xs, b) ∧ e = .returned (.tuple #[.slice a n c, .bool b]) ∧ n = xs.length ∧ w'.ownsRow w.heap.size 9 1 (.slice a n c) n (xs.map Value.string) ∧ Below w.heap.size w w'
theorem srchIn_start {P D : Nat} (hP1 : 1 ≤ P) (hP3 : P ≤ 3) (l d : Int) : SrchIn D D (colsF l d P []) (List.replicate P ⟨#[]⟩) := by
  refine ⟨by simp; omega, by simp; omega, fun s hs => ?_, fun c hc => ?_, colsF_bd l d P [] hP3⟩
  · have := List.eq_of_mem_replicate hs
    subst this
    exact ⟨by show 0 + D = D; omega, by decide⟩
  · have hz := colsF_size l d P [] c hc
    refine ⟨by rw [hz]; simp, ?_⟩
    obtain ⟨q, hq, rfl⟩ := List.mem_map.1 hc
    exact txtC_word _ (by rw [← txtC_size, hz]; simp; omega)
theorem make_strs {n : Nat} (hn : n ≤ 6) : ∃ MI : Array Value, MI.size = n ∧ MI.toList = (List.replicate n (⟨#[]⟩ : ByteArray)).map Value.string ∧ ∀ W : World, (Instr.makeSlice 23 (.int .i64 (n : Int)) (.int .i64 (n : Int))).run Try.prog W = .ok (.slice (some ⟨W.heap.size, 0, none⟩) n n) (W.alloc (.cells MI 9)) := by
  obtain ⟨i0, hi, hz0, hz1, hz2⟩ := info_parts infoStrC
  refine ⟨madeCells (Value.string ⟨#[]⟩).cells (n * 1), by simp [size_madeCells], ?_, fun W => ?_⟩
  · rw [Nat.mul_one, List.map_replicate]; exact toList_madeCells_one _ _
  · have := run_make (P := Try.prog) W 23 9 i0 (.string ⟨#[]⟩) Try.underlying23 hi hz0 .i64 .i64 n n (by omega) (Int.le_refl _) (by rw [hz2]; omega) (by omega)
    rw [hz1] at this
    simpa using this
set_option maxHeartbeats 6400000 in
theorem specFirst_any (ms : List Mk) (v : Value) (P D l d : Int) (w : World) (h : IsMarks w v ms) (hl : ms.length ≤ 1048576) :
    Calls Try.prog 84 #[v, .int .i64 P, .int .i64 D, .agg #[.int .i64 l, .int .i64 d]] w (FirstP ms P D l d w) := by
  have HASK := Lib.hid (fun W (hI : IsMarks W v ms) => specAsk_any ms v P D l d W hI hl)
  have HM := Lib.hid (fun W (hI : IsMarks W v ms) => specMachineOf_any ms v W hI hl)
  have X0 := Lib.hid (NdBox.new w l d 29)
  have Q0 := Lib.hid (show Below w.heap.size w (w.alloc (.cells #[.int .i64 l, .int .i64 d] 29)) from (Below.refl _ _).alloc (Nat.le_refl _) _)
  have H := Lib.hid h
  obtain ⟨av, nv, cv, rfl⟩ := h.slice
  clear h
  go_enter Try.func84, Try.ntmps84
  go_wp2_with fail
  refine (HASK.out _ (H.out.below Q0.out)).mono ?_
  rintro e w2 ⟨⟨m, bm, hio, rfl⟩, hb2⟩
  have HIO := Lib.hid hio
  have X2 := Lib.hid (X0.out.below hb2)
  have B2 := Lib.hid (Q0.out.trans (hb2.mono Q0.out.size))
  clear hio hb2
  cases hask : askB bm P D l d with
  | false =>
    have HE := Lib.hid (frst_no1 (m := m) hask)
    clear hask
    go_wp2_with fail
    go_ret2
    exact ⟨m, bm, [], false, _, 0, 0, HIO.out, HE.out, rfl, rfl, World.ownsRow_lit w2 #[] 0 B2.out.size (Nat.zero_le _) rfl, B2.out.alloc B2.out.size _⟩
  | true =>
    obtain ⟨hbm, ⟨hP1, hP3⟩, ⟨hD0, hD5⟩, -⟩ := askB_iff.1 hask
    subst hbm
    obtain ⟨p, rfl⟩ := Int.eq_ofNat_of_zero_le (show 0 ≤ P by omega)
    obtain ⟨dd, rfl⟩ := Int.eq_ofNat_of_zero_le hD0
    have HAK := Lib.hid hask
    clear hask HASK
    go_wp2_with fail
    refine (HM.out _ (H.out.below B2.out)).mono ?_
    rintro e w3 hof
    obtain ⟨m', bm', a1, a2, c1, c2, hio, rfl, hi1, hi2, hb3⟩ := hof.reads
    obtain ⟨rfl, rfl⟩ := hio.one HIO.out
    have hmok := hio.len.2.2.2.1 rfl
    have HK := Lib.hid hmok
    have HSH := Lib.hid (M.ok_shape hmok)
    have hal := (Below.refl w3.heap.size w3).alloc (Nat.le_refl _) (.cells #[.int .i64 m'.st, .slice a1 m'.next.length c1, .slice a2 m'.ends.length c2] 115)
    have Y3 := Lib.hid (McBox.new w3 m'.st (.slice a1 m'.next.length c1) (.slice a2 m'.ends.length c2) 115)
    have X3 := Lib.hid ((X2.out.below hb3).below hal)
    have B3 := Lib.hid ((B2.out.trans (hb3.mono B2.out.size)).trans (hal.mono (B2.out.trans (hb3.mono B2.out.size)).size))
    have I1 := Lib.hid (hi1.below hal)
    have I2 := Lib.hid (hi2.below hal)
    clear hio hof hb3 hi1 hi2 hmok hal
    have HW := Lib.hid (fun W hi hb => l6Many_any m' 0 dd (.slice a1 m'.next.length c1) (.slice a2 m'.ends.length c2) W hi hb (M.ok_good HK.out) (by omega) (by have := HSH.out; omega) (by omega))
    have y0 := Y3.out.c0
    have y1 := Y3.out.c1
    have y2 := Y3.out.c2
    go_wp2_with fail
    refine (HW.out _ I1.out I2.out).mono ?_
    rintro e w5 ⟨rfl, hb5⟩
    have Y5 := Lib.hid (Y3.out.below hb5)
    have X5 := Lib.hid (X3.out.below hb5)
    have B5 := Lib.hid (B3.out.trans (hb5.mono B3.out.size))
    have J1 := Lib.hid (I1.out.below hb5)
    have J2 := Lib.hid (I2.out.below hb5)
    clear hb5 y0 y1 y2
    by_cases hz : m'.ways dd 0 = 0
    · have hz1 : (m'.ways dd 0 == 0) = true := beq_iff_eq.2 hz
      have HE := Lib.hid (frst_no2 (bm := true) (P := (p : Int)) (D := (dd : Int)) (l := l) (d := d) hz)
      clear hz
      go_wp2_with fail
      go_ret2
      exact ⟨m', true, [], false, _, 0, 0, HIO.out, HE.out, rfl, rfl, World.ownsRow_lit w5 #[] 0 B5.out.size (Nat.zero_le _) rfl, B5.out.alloc B5.out.size _⟩
    · have hz1 : (m'.ways dd 0 == 0) = false := by rw [beq_eq_false_iff_ne]; exact hz
      have HE := Lib.hid (frst_yes HAK.out hz)
      clear hz
      obtain ⟨MI, hmi1, hmi2, hmI⟩ := make_strs (n := p) (by omega)
      have HCOL : Hid (∀ W, Calls Try.prog 102 #[.int .i64 (p : Int), .agg #[.int .i64 l, .int .i64 d], .string ⟨#[]⟩] W fun e w' => ∃ (a : Option Addr) (c : Nat), e = .returned (.slice a (colsF l d p []).length c) ∧ w'.ownsRow W.heap.size 9 1 (.slice a (colsF l d p []).length c) (colsF l d p []).length ((colsF l d p []).map Value.string) ∧ Below W.heap.size W w') :=
        Lib.hid (fun W => specColumns_any p (by omega) l d p [] (by simp) (fun x hx => by cases hx) W)
      have HS : Hid (∀ (W : World) (_ : Below w5.heap.size w5 W) (g : Nat) (ca : Option Addr) (cc : Nat), W.ownsRow w.heap.size 9 1 (.slice (some ⟨g, 0, none⟩) p p) p ((List.replicate p (⟨#[]⟩ : ByteArray)).map Value.string) → IsStrs W (.slice ca (colsF l d p []).length cc) (colsF l d p []) →
          Calls Try.prog 101 #[.agg #[.int .i64 m'.st, .slice a1 m'.next.length c1, .slice a2 m'.ends.length c2], .slice (some ⟨g, 0, none⟩) p p, .int .i64 (dd : Int), .slice ca (colsF l d p []).length cc, .int .i64 1] W fun e w' => ∃ (a : Option Addr) (c n q : Nat), e = .returned (.tuple #[.slice a n c, .int .i64 (q : Int)]) ∧ n = ((rosR m' p dd l d).headD []).length ∧ q = min 1 (rosR m' p dd l d).length ∧ w'.ownsRow w.heap.size 9 1 (.slice a n c) n (((rosR m' p dd l d).headD []).map Value.string) ∧ Below W.heap.size W w') := by
        refine Lib.hid (fun W hb g ca cc hrow hcs => ?_)
        have := specSearch_any m' HK.out dd (by omega) (colsF l d p []) a1 a2 c1 c2 (.slice ca (colsF l d p []).length cc) w.heap.size dd (List.replicate p ⟨#[]⟩) (srchIn_start (by omega) (by omega) l d) 1 (by omega) (by omega) (some ⟨g, 0, none⟩) p W (B5.out.trans (hb.mono B5.out.size)).size (by rw [List.length_replicate]; exact hrow) (J1.out.below hb) (J2.out.below hb) hcs
        rw [List.length_replicate, show ((1 : Nat) : Int) = 1 from rfl] at this
        exact this
      have XX : Hid (∀ W, Below w5.heap.size w5 W → (W.cell? ⟨w.heap.size, 0, none⟩ = some (.int .i64 l) ∧ W.cell? ⟨w.heap.size, 1, none⟩ = some (.int .i64 d)) ∧ W.cell? ⟨w3.heap.size, 0, none⟩ = some (.int .i64 m'.st) ∧ W.cell? ⟨w3.heap.size, 1, none⟩ = some (.slice a1 m'.next.length c1) ∧ W.cell? ⟨w3.heap.size, 2, none⟩ = some (.slice a2 m'.ends.length c2)) :=
        Lib.hid (fun W hb => ⟨⟨(X5.out.below hb).c0, (X5.out.below hb).c1⟩, (Y5.out.below hb).c0, (Y5.out.below hb).c1, (Y5.out.below hb).c2⟩)
      have BD := Lib.hid ((Below.refl w5.heap.size w5).drew)
      have BA : Hid (Below w5.heap.size w5 (w5.alloc (.cells MI 9)).drew) := Lib.hid (((Below.refl w5.heap.size w5).alloc (Nat.le_refl _) (.cells MI 9)).drew)
      have BA2 : Hid (Below w5.heap.size w5 (w5.alloc (.cells MI 9))) := Lib.hid ((Below.refl w5.heap.size w5).alloc (Nat.le_refl _) (.cells MI 9))
      have HLIT : Hid (∀ W : World, w.heap.size ≤ W.heap.size → (W.alloc (.cells MI 9)).ownsRow w.heap.size 9 1 (.slice (some ⟨W.heap.size, 0, none⟩) p p) p ((List.replicate p (⟨#[]⟩ : ByteArray)).map Value.string)) := by
        refine Lib.hid (fun W hW => ?_)
        rw [← hmi2]
        exact World.ownsRow_lit W MI p hW (by unfold maxLen; omega) (by rw [hmi1, Nat.mul_one])
      have RA := Lib.hid (owns_belowX (HLIT.out w5 B5.out.size) ((Below.refl _ _).drew))
      have y0 := Y5.out.c0
      have y1 := Y5.out.c1
      have y2 := Y5.out.c2
      have x0 := X5.out.c0
      have x1 := X5.out.c1
      clear hmi1 hmi2
      generalize rosR m' p dd l d = R at *
      generalize colsF l d p [] = cols at *
      go_wp2_with fail
      go_region_held3 (fun w' => (w'.cell? ⟨w.heap.size, 0, none⟩ = some (.int .i64 l) ∧ w'.cell? ⟨w.heap.size, 1, none⟩ = some (.int .i64 d)) ∧ w'.cell? ⟨w3.heap.size, 0, none⟩ = some (.int .i64 m'.st) ∧ w'.cell? ⟨w3.heap.size, 1, none⟩ = some (.slice a1 m'.next.length c1) ∧ w'.cell? ⟨w3.heap.size, 2, none⟩ = some (.slice a2 m'.ends.length c2))
        (first | exact XX.out _ (Below.refl _ _) | exact XX.out _ BD.out | exact XX.out _ BA.out | exact XX.out _ BA2.out | exact XX.out _ K8.out | exact XX.out _ kb.out | exact XX.out _ kb2.out)
        (first | (go_at_call 102; with_reducible refine Calls.mono (HCOL.out _) ?_; rintro e w6 ⟨ca, cc, rfl, ho6, hb6⟩; have kb : Hid (Below w5.heap.size w5 w6) := Lib.hid (BA.out.trans (hb6.mono BA.out.size)); have IS6 := Lib.hid (IsStrs.of_owns ho6); have RA6 := Lib.hid (owns_belowX RA.out hb6); clear ho6 hb6) | (go_at_call 102; with_reducible refine Calls.mono (HCOL.out _) ?_; rintro e w6 ⟨ca, cc, rfl, ho6, hb6⟩; have kb : Hid (Below w5.heap.size w5 w6) := Lib.hid (BD.out.trans (hb6.mono BD.out.size)); have IS6 := Lib.hid (IsStrs.of_owns ho6); have RB6 := Lib.hid (HLIT.out w6 (B5.out.trans (kb.out.mono B5.out.size)).size); have kb2 := Lib.hid (kb.out.alloc kb.out.size (.cells MI 9)); have IB6 := Lib.hid (IS6.out.below ((Below.refl _ _).alloc (Nat.le_refl _) (.cells MI 9))); clear ho6 hb6) | (go_at_call 101; with_reducible refine Calls.mono (HS.out _ kb.out _ _ _ RA6.out IS6.out) ?_; rintro e w8 ⟨a8, c8, n8, q8, rfl, hn8, hq8, ho8, hb8⟩; have K8 : Hid (Below w5.heap.size w5 w8) := Lib.hid (kb.out.trans (hb8.mono kb.out.size)); have HN8 := Lib.hid hn8; have HQ8 := Lib.hid hq8; have HO8 := Lib.hid ho8; clear hn8 hq8 ho8 hb8) | (go_at_call 101; with_reducible refine Calls.mono (HS.out _ kb2.out _ _ _ RB6.out IB6.out) ?_; rintro e w8 ⟨a8, c8, n8, q8, rfl, hn8, hq8, ho8, hb8⟩; have K8 : Hid (Below w5.heap.size w5 w8) := Lib.hid (kb2.out.trans (hb8.mono kb2.out.size)); have HN8 := Lib.hid hn8; have HQ8 := Lib.hid hq8; have HO8 := Lib.hid ho8; clear hn8 hq8 ho8 hb8))
      all_goals
        have B8 := Lib.hid (B5.out.trans (K8.out.mono B5.out.size))
        by_cases hq : q8 = 0
        · have hR : R = [] := by
            have := HQ8.out
            exact List.eq_nil_of_length_eq_zero (by omega)
          have HRN := Lib.hid hR
          subst hq
          clear hR
          go_wp2_with fail
          go_ret2
          exact ⟨m', true, [], false, _, 0, 0, HIO.out, by rw [HE.out, HRN.out]; rfl, rfl, rfl, World.ownsRow_lit w8 #[] 0 B8.out.size (Nat.zero_le _) rfl, B8.out.alloc B8.out.size _⟩
        · have hq1 : ((q8 : Int) == 0) = false := by rw [beq_eq_false_iff_ne]; omega
          have hR : decide (R ≠ []) = true := by
            rw [decide_eq_true_eq]
            intro e
            have := HQ8.out
            rw [e] at this
            simp at this
            omega
          have HRN := Lib.hid hR
          clear hR
          go_wp2_with fail
          go_ret2
          exact ⟨m', true, R.headD [], true, a8, n8, c8, HIO.out, by rw [HE.out, HRN.out], rfl, HN8.out, HO8.out, B8.out⟩
end Go.Proofs.Ytlbblfbiiceofaa

namespace Go.Proofs.Ytlbblfbiiceofaa
open Go.RowKit

theorem owns_keepsG {w w' : World} {base R sz : Nat} {e : TypeId} {v : Value} {n : Nat} {xs : List Value} (h : w.ownsRow base e sz v n xs) (hk : KeepsBut R w w') (hR : R < base) : w'.ownsRow base e sz v n xs := by
  refine ⟨h.1, h.2.imp id ?_⟩
  rintro ⟨g, cap, cur, rfl, h1, h2, h3⟩
  exact ⟨g, cap, cur, rfl, h1, (hk.block g (World.ownsRow.lt h g rfl).2 (by omega)).trans h2, h3⟩
theorem NdBox.keeps {B R : Nat} {l d : Int} {w w' : World} (h : NdBox B l d w) (hk : KeepsBut R w w') (hne : B ≠ R) : NdBox B l d w' :=
  ⟨(hk.cell (p := ⟨B, 0, none⟩) h.lt hne).trans h.c0, (hk.cell (p := ⟨B, 1, none⟩) h.lt hne).trans h.c1, Nat.lt_of_lt_of_le h.lt hk.size⟩
/-- what drawing needs leaves -/
def NeedsDrawn (B R : Nat) (a : Option Addr) (len cap k : Nat) (w : World) (e : Ending) (w' : World) : Prop :=
  ∃ l d : Int, e = .returned (.agg #[.int .i64 l, .int .i64 d]) ∧ -2 ≤ l ∧ l ≤ 6 ∧ -2 ≤ d ∧ d ≤ 6 ∧ ∃ k', k ≤ k' ∧ k' ≤ k + 4 ∧ RdAt B R a len cap k' w' ∧ KeepsBut R w w'

set_option maxHeartbeats 1600000 in
theorem l20Needs_any (B R : Nat) (a : Option Addr) (len cap k : Nat) (w : World) (H : RdAt B R a len cap k w) (hk : k ≤ 900000) :
    Calls Try.prog 83 #[.pointer (some ⟨R, 0, none⟩)] w (NeedsDrawn B R a len cap k w) := by
  have hal : Below w.heap.size w (w.alloc (.cells #[.int .i64 0, .int .i64 0] 29)) := (Below.refl _ _).alloc (Nat.le_refl _) _
  have H0 := Lib.hid (H.keeps hal)
  have KA := Lib.hid (KeepsBut.of_below (R := R) hal)
  have HRW := Lib.hid H.hR
  have hRne : w.heap.size ≠ R := by have := H.hR; omega
  have HNE := Lib.hid hRne
  have c0 : (w.alloc (.cells #[.int .i64 0, .int .i64 0] 29)).cell? ⟨w.heap.size, 0, none⟩ = some (.int .i64 0) := World.cell?_alloc_new w _ _ 0
  have c1 : (w.alloc (.cells #[.int .i64 0, .int .i64 0] 29)).cell? ⟨w.heap.size, 1, none⟩ = some (.int .i64 0) := World.cell?_alloc_new w _ _ 1
  have f0 : ∀ i, (w.alloc (.cells #[.int .i64 0, .int .i64 0] 29)).frozen? ⟨w.heap.size, i, none⟩ = false := fun i => World.frozen?_alloc_new w _ _ i
  have HL := Lib.hid (show w.heap.size < (w.alloc (.cells #[.int .i64 0, .int .i64 0] 29)).heap.size by simp)
  have HC0 := Lib.hid c0
  have HC1 := Lib.hid c1
  have HF0 := Lib.hid f0
  clear H hal hRne c0 c1 f0
  go_enter Try.func83, Try.ntmps83
  go_wp2_with fail
  refine (pick_any B R a len cap k 3 _ H0.out (by omega) (by omega) (by omega)).mono ?_
  rintro e w1 ⟨p1, rfl, hp10, hp11, hR1, hK1⟩
  have hp1 := hp11 (by omega)
  have K1 := Lib.hid hK1
  clear hp11 hK1
  go_wp2_with fail
  refine (pick_any B R a len cap (k + 1) 40 _ hR1 (by omega) (by omega) (by omega)).mono ?_
  rintro e w2 ⟨p2, rfl, hp20, hp21, hR2, hK2⟩
  have hp2 := hp21 (by omega)
  have K2 := Lib.hid (K1.out.trans hK2)
  clear hp21 hK2 hR1
  have hr2 : p2.tdiv 39 = p2 / 39 := Int.tdiv_eq_ediv_of_nonneg hp20
  go_wp2_with fail
  refine (pick_any B R a len cap (k + 1 + 1) 2 _ hR2 (by omega) (by omega) (by omega)).mono ?_
  rintro e w3 ⟨p3, rfl, hp30, hp31, hR3, hK3⟩
  have hp3 := hp31 (by omega)
  have K3 := Lib.hid (K2.out.trans hK3)
  clear hp31 hK3 hR2
  go_wp2_with fail
  refine (pick_any B R a len cap (k + 1 + 1 + 1) 40 _ hR3 (by omega) (by omega) (by omega)).mono ?_
  rintro e w4 ⟨p4, rfl, hp40, hp41, hR4, hK4⟩
  have hp4 := hp41 (by omega)
  have hK := K3.out.trans hK4
  have hr4 : p4.tdiv 39 = p4 / 39 := Int.tdiv_eq_ediv_of_nonneg hp40
  have d0 := (hK.cell (p := ⟨w.heap.size, 0, none⟩) HL.out HNE.out).trans HC0.out
  have d1 := (hK.cell (p := ⟨w.heap.size, 1, none⟩) HL.out HNE.out).trans HC1.out
  have g0 := (hK.frozen (p := ⟨w.heap.size, 0, none⟩) HL.out HNE.out).trans (HF0.out 0)
  have g1 := (hK.frozen (p := ⟨w.heap.size, 1, none⟩) HL.out HNE.out).trans (HF0.out 1)
  have HKK := Lib.hid (KA.out.trans hK)
  have HR4 := Lib.hid hR4
  clear hp41 hK4 hR3 hK hR4
  obtain ⟨l, hl⟩ : ∃ l, l = p1 + p2 / 39 * 4 := ⟨_, rfl⟩
  obtain ⟨d, hd⟩ : ∃ d, d = p3 - p4 / 39 * 2 := ⟨_, rfl⟩
  have hlb : -2 ≤ l ∧ l ≤ 6 := by omega
  have hdb : -2 ≤ d ∧ d ≤ 6 := by omega
  go_wp2_with fail
  rw [← hl, ← hd]
  have r0 : ((w4.setCell ⟨w.heap.size, 0, none⟩ (.int .i64 l)).setCell ⟨w.heap.size, 1, none⟩ (.int .i64 d)).cell? ⟨w.heap.size, 0, none⟩ = some (.int .i64 l) := by go_simp
  have r1 : ((w4.setCell ⟨w.heap.size, 0, none⟩ (.int .i64 l)).setCell ⟨w.heap.size, 1, none⟩ (.int .i64 d)).cell? ⟨w.heap.size, 1, none⟩ = some (.int .i64 d) := by go_simp
  refine bodyPost_ret (v := .agg #[.int .i64 l, .int .i64 d]) ?_ rfl ⟨l, d, rfl, hlb.1, hlb.2, hdb.1, hdb.2, k + 1 + 1 + 1 + 1, by omega, by omega, ?_, ?_⟩
  · simp [results, Try.results83, go_sem, r0, r1]
  · exact (HR4.out.grown (grown_setCell w4 w.heap.size 0 (.int .i64 l)) (fun k e => by cases e; exact HRW.out)).grown (grown_setCell _ w.heap.size 1 (.int .i64 d)) (fun k e => by cases e; exact HRW.out)
  · exact (HKK.out.grown (grown_setCell w4 w.heap.size 0 (.int .i64 l)) (fun k e => by cases e; exact Nat.le_refl _)).grown (grown_setCell _ w.heap.size 1 (.int .i64 d)) (fun k e => by cases e; exact Nat.le_refl _)
end Go.Proofs.Ytlbblfbiiceofaa

namespace Go.Proofs.Ytlbblfbiiceofaa
open Go.RowKit

theorem rosW_shape {m : M} {D : Nat} (hD : D ≤ 5) {cols : List ByteArray} : ∀ (k : Nat) (A : List ByteArray), SrchIn D k cols A → ∀ X ∈ rosW m cols k A, X.length = A.length ∧ ∀ s ∈ X, s.size = D
  | 0, A, h, X, hX => by
    have : X = A := by simpa [rosW] using hX
    subst this
    exact ⟨rfl, fun s hs => by have := (h.aw s hs).1; omega⟩
  | k + 1, A, h, X, hX => by
    simp only [rosW, List.mem_flatMap] at hX
    obtain ⟨c, hc, hX⟩ := hX
    obtain ⟨hin, hl⟩ := h.ext hD hc
    split at hX
    · obtain ⟨h1, h2⟩ := rosW_shape hD k _ hin X hX
      exact ⟨by rw [h1, hl], h2⟩
    · cases hX
theorem frst_small {m : M} {bm : Bool} {P D l d : Int} {xs : List ByteArray} {b : Bool} (h : frst m bm P D l d = (xs, b)) : xs.length ≤ 3 ∧ ∀ s ∈ xs, s.size ≤ 5 := by
  unfold frst at h
  split at h
  · rename_i hc
    obtain ⟨-, ⟨hP1, hP3⟩, ⟨hD0, hD5⟩, -⟩ := askB_iff.1 hc.1
    simp only [Prod.mk.injEq] at h
    obtain ⟨rfl, -⟩ := h
    have hs := rosW_shape (m := m) (show D.toNat ≤ 5 by omega) D.toNat _ (srchIn_start (P := P.toNat) (D := D.toNat) (by omega) (by omega) l d)
    unfold rosR
    cases hR : rosW m (colsF l d P.toNat []) D.toNat (List.replicate P.toNat ⟨#[]⟩) with
    | nil => exact ⟨Nat.zero_le _, fun s hs => by cases hs⟩
    | cons X T =>
      obtain ⟨h1, h2⟩ := hs X (by rw [hR]; exact List.mem_cons_self ..)
      simp only [List.headD_cons]
      exact ⟨by rw [h1, List.length_replicate]; omega, fun s hs => by rw [h2 s hs]; omega⟩
  · simp only [Prod.mk.injEq] at h
    obtain ⟨rfl, -⟩ := h
    exact ⟨Nat.zero_le _, fun s hs => by cases hs⟩
theorem exch_small {xs : List ByteArray} {a b : Int} (h : SmallB 5 xs) : SmallR (exch xs a b) := by
  cases hx : exchOk xs a b with
  | false => rw [exch_no hx]; exact ⟨Nat.zero_le _, fun s hs => by cases hs⟩
  | true =>
    obtain ⟨-, h2, h3, -⟩ := exchOk_iff.1 hx
    refine ⟨by rw [(exch_roster hx).2.2]; exact h.1, fun s hs => ?_⟩
    rw [exch, if_pos hx] at hs
    have := h.2 s ((exchTo_perm (by omega) (by omega) s).1 hs)
    omega

/-- what a drawing call has under way: the reader, the term's row, the box of needs, the cell of its result -/
structure RtAt (B R : Nat) (a : Option Addr) (len cap k : Nat) (w : World) (ms : List Mk) (v : Value) (b : Nat) (l d : Int) (W : World) : Prop where
  rd : RdAt B R a len cap k W
  keep : KeepsBut R w W
  row : W.ownsRow (w.heap.size + 1) 81 5 v ms.length (cellsM ms)
  box : NdBox b l d W
  hR : R < w.heap.size
  hb : w.heap.size < b
  z0 : W.cell? ⟨w.heap.size, 0, none⟩ = some (.int .i64 0)
  z1 : W.cell? ⟨w.heap.size, 1, none⟩ = some (.int .i64 0)
  f0 : W.frozen? ⟨w.heap.size, 0, none⟩ = false
  f1 : W.frozen? ⟨w.heap.size, 1, none⟩ = false
  hz : w.heap.size < W.heap.size
section
variable {B R : Nat} {a : Option Addr} {len cap k k' : Nat} {w : World} {ms : List Mk} {v : Value} {b : Nat} {l d : Int} {W W' : World}
theorem RtAt.picked (h : RtAt B R a len cap k w ms v b l d W) (hr : RdAt B R a len cap k' W') (hk : KeepsBut R W W') : RtAt B R a len cap k' w ms v b l d W' :=
  have hR := h.hR
  have hb := h.hb
  ⟨hr, h.keep.trans hk, owns_keepsG h.row hk (by omega), h.box.keeps hk (by omega), h.hR, h.hb,
    (hk.cell (p := ⟨w.heap.size, 0, none⟩) h.hz (by show w.heap.size ≠ R; omega)).trans h.z0, (hk.cell (p := ⟨w.heap.size, 1, none⟩) h.hz (by show w.heap.size ≠ R; omega)).trans h.z1,
    (hk.frozen (p := ⟨w.heap.size, 0, none⟩) h.hz (by show w.heap.size ≠ R; omega)).trans h.f0, (hk.frozen (p := ⟨w.heap.size, 1, none⟩) h.hz (by show w.heap.size ≠ R; omega)).trans h.f1, Nat.lt_of_lt_of_le h.hz hk.size⟩
theorem RtAt.below (h : RtAt B R a len cap k w ms v b l d W) (hb : Below W.heap.size W W') : RtAt B R a len cap k w ms v b l d W' := h.picked (h.rd.keeps hb) (KeepsBut.of_below hb)
theorem RtAt.marks (h : RtAt B R a len cap k w ms v b l d W) : IsMarks W v ms := IsMarks.of_owns h.row
end
/-- what drawing a term, a roster and needs leaves -/
def RightDrawn (R : Nat) (w : World) (e : Ending) (w' : World) : Prop :=
  ∃ (ms : List Mk) (tv : Value) (xs : List ByteArray) (rv : Value) (l d : Int), e = .returned (.tuple #[tv, rv, .agg #[.int .i64 l, .int .i64 d]]) ∧ ms.length ≤ 10 ∧ (∀ m ∈ ms, m.wf) ∧ SmallR xs ∧ -2 ≤ l ∧ l ≤ 6 ∧ -2 ≤ d ∧ d ≤ 6 ∧
    w'.ownsRow (w.heap.size + 1) 81 5 tv ms.length (cellsM ms) ∧ w'.ownsRow (w.heap.size + 1) 9 1 rv xs.length (xs.map Value.string) ∧ KeepsBut R w w'
theorem owns_set {w : World} {base sz z : Nat} {e : TypeId} {v : Value} {n : Nat} {xs : List Value} (h : w.ownsRow base e sz v n xs) (hz : z < base) (j : Nat) (u : Value) : (w.setCell ⟨z, j, none⟩ u).ownsRow base e sz v n xs :=
  h.kept (row := some z) (grown_setCell w z j u) (.inr fun e => by
    have := (World.ownsRow.lt h z e).1
    omega)
theorem RtAt.fin {B R : Nat} {a : Option Addr} {len cap k : Nat} {w : World} {ms : List Mk} {v : Value} {b : Nat} {l d : Int} {W : World} {xs : List ByteArray} {rv : Value} {n : Nat} (h : RtAt B R a len cap k w ms v b l d W) (hn : n = xs.length)
    (hr : W.ownsRow (w.heap.size + 1) 9 1 rv n (xs.map Value.string)) :
    (((W.setCell ⟨w.heap.size, 0, none⟩ (.int .i64 l)).setCell ⟨w.heap.size, 1, none⟩ (.int .i64 d)).ownsRow (w.heap.size + 1) 81 5 v ms.length (cellsM ms)) ∧ (((W.setCell ⟨w.heap.size, 0, none⟩ (.int .i64 l)).setCell ⟨w.heap.size, 1, none⟩ (.int .i64 d)).ownsRow (w.heap.size + 1) 9 1 rv xs.length (xs.map Value.string)) ∧ KeepsBut R w ((W.setCell ⟨w.heap.size, 0, none⟩ (.int .i64 l)).setCell ⟨w.heap.size, 1, none⟩ (.int .i64 d)) ∧
    ((W.setCell ⟨w.heap.size, 0, none⟩ (.int .i64 l)).setCell ⟨w.heap.size, 1, none⟩ (.int .i64 d)).cell? ⟨w.heap.size, 0, none⟩ = some (.int .i64 l) ∧ ((W.setCell ⟨w.heap.size, 0, none⟩ (.int .i64 l)).setCell ⟨w.heap.size, 1, none⟩ (.int .i64 d)).cell? ⟨w.heap.size, 1, none⟩ = some (.int .i64 d) := by
  subst hn
  have z0 := h.z0
  have z1 := h.z1
  refine ⟨owns_set (owns_set h.row (Nat.lt_succ_self _) _ _) (Nat.lt_succ_self _) _ _, owns_set (owns_set hr (Nat.lt_succ_self _) _ _) (Nat.lt_succ_self _) _ _, ?_, ?_, ?_⟩
  · exact (h.keep.grown (grown_setCell W w.heap.size 0 (.int .i64 l)) (fun k e => by cases e; exact Nat.le_refl _)).grown (grown_setCell _ w.heap.size 1 (.int .i64 d)) (fun k e => by cases e; exact Nat.le_refl _)
  · go_simp
  · go_simp

set_option maxHeartbeats 12800000 in
set_option maxRecDepth 20000 in
theorem l20Right_any (B R : Nat) (a : Option Addr) (len cap k : Nat) (w : World) (H : RdAt B R a len cap k w) (hk : k ≤ 700000) :
    Calls Try.prog 60 #[.pointer (some ⟨R, 0, none⟩)] w (RightDrawn R w) := by
  have hal : Below w.heap.size w (w.alloc (.cells #[.int .i64 0, .int .i64 0] 29)) := (Below.refl _ _).alloc (Nat.le_refl _) _
  have H0 := Lib.hid (H.keeps hal)
  have KA := Lib.hid (KeepsBut.of_below (R := R) hal)
  have HRW := Lib.hid H.hR
  have c0 : (w.alloc (.cells #[.int .i64 0, .int .i64 0] 29)).cell? ⟨w.heap.size, 0, none⟩ = some (.int .i64 0) := World.cell?_alloc_new w _ _ 0
  have c1 : (w.alloc (.cells #[.int .i64 0, .int .i64 0] 29)).cell? ⟨w.heap.size, 1, none⟩ = some (.int .i64 0) := World.cell?_alloc_new w _ _ 1
  have f0 : ∀ i, (w.alloc (.cells #[.int .i64 0, .int .i64 0] 29)).frozen? ⟨w.heap.size, i, none⟩ = false := fun i => World.frozen?_alloc_new w _ _ i
  have HC0 := Lib.hid c0
  have HC1 := Lib.hid c1
  have HF0 := Lib.hid f0
  have HSZ := Lib.hid (show (w.alloc (.cells #[.int .i64 0, .int .i64 0] 29)).heap.size = w.heap.size + 1 by simp)
  clear H hal c0 c1 f0
  go_enter Try.func60, Try.ntmps60
  go_wp2_with fail
  refine (l20Term_any B R a len cap k 14 _ H0.out (by omega) (by omega) (by omega)).mono ?_
  rintro e w1 ⟨ms, tv, k1, rfl, hml, hmw, hk1, hk2, hO⟩
  obtain ⟨ta, tc, rfl⟩ := ownsRow_sliceR (hO.row 0 (by simp) rfl)
  have hlt0 := fun j e => ((hO.ap.ltAt 0 (by simp)) j e).1
  have HROW : Hid (w1.ownsRow (w.heap.size + 1) 81 5 (.slice ta ms.length tc) ms.length (cellsM ms)) := Lib.hid (ownsRow_base (hO.row 0 (by simp) rfl) (fun j e => by have := hlt0 j e; rw [HSZ.out] at this; exact this))
  have RD1 := Lib.hid hO.rd
  have K1 := Lib.hid hO.keep
  have HML := Lib.hid hml
  have HMW := Lib.hid hmw
  clear hO hmw hlt0
  go_wp2_with fail
  refine (l20Needs_any B R a len cap k1 _ RD1.out (by omega)).mono ?_
  rintro e w2 ⟨l, d, rfl, hl1, hl2, hd1, hd2, k2, hk3, hk4, hR2, hK2⟩
  have HLD : Hid (-2 ≤ l ∧ l ≤ 6 ∧ -2 ≤ d ∧ d ≤ 6) := Lib.hid ⟨hl1, hl2, hd1, hd2⟩
  have hal2 := (Below.refl w2.heap.size w2).alloc (Nat.le_refl _) (.cells #[.int .i64 l, .int .i64 d] 29)
  have T2 : Hid (RtAt B R a len cap k2 w ms (.slice ta ms.length tc) w2.heap.size l d (w2.alloc (.cells #[.int .i64 l, .int .i64 d] 29))) := by
    have hs1 : w.heap.size + 1 ≤ w1.heap.size := by have := K1.out.size; rw [HSZ.out] at this; exact this
    have hs2 := hK2.size
    have hRw := HRW.out
    have kk := K1.out.trans hK2
    have q0 := (kk.cell (p := ⟨w.heap.size, 0, none⟩) (by show w.heap.size < _; rw [HSZ.out]; exact Nat.lt_succ_self _) (by show w.heap.size ≠ R; omega)).trans HC0.out
    have q1 := (kk.cell (p := ⟨w.heap.size, 1, none⟩) (by show w.heap.size < _; rw [HSZ.out]; exact Nat.lt_succ_self _) (by show w.heap.size ≠ R; omega)).trans HC1.out
    have g0 := (kk.frozen (p := ⟨w.heap.size, 0, none⟩) (by show w.heap.size < _; rw [HSZ.out]; exact Nat.lt_succ_self _) (by show w.heap.size ≠ R; omega)).trans (HF0.out 0)
    have g1 := (kk.frozen (p := ⟨w.heap.size, 1, none⟩) (by show w.heap.size < _; rw [HSZ.out]; exact Nat.lt_succ_self _) (by show w.heap.size ≠ R; omega)).trans (HF0.out 1)
    have hz2 : w.heap.size < w2.heap.size := by omega
    exact Lib.hid ⟨hR2.keeps hal2, ((KA.out.trans K1.out).trans hK2).trans (KeepsBut.of_below hal2), owns_belowX (owns_keepsG HROW.out hK2 (by omega)) hal2, NdBox.new w2 l d 29, hRw, hz2,
      (hal2.cell (p := ⟨w.heap.size, 0, none⟩) hz2).trans q0, (hal2.cell (p := ⟨w.heap.size, 1, none⟩) hz2).trans q1, (hal2.frozen (p := ⟨w.heap.size, 0, none⟩) hz2).trans g0, (hal2.frozen (p := ⟨w.heap.size, 1, none⟩) hz2).trans g1, Nat.lt_of_lt_of_le hz2 hal2.size⟩
  clear hR2 hK2 hal2 H0 KA HROW RD1 K1 HC0 HC1 HF0 hl1 hl2 hd1 hd2
  go_upto_region 3 with fail
  generalize hW2 : (w2.alloc (.cells #[.int .i64 l, .int .i64 d] 29)) = W2 at *
  generalize hb2 : w2.heap.size = b2 at *
  clear hW2 hb2
  have x0 := T2.out.box.c0
  have x1 := T2.out.box.c1
  have TD := Lib.hid (T2.out.below ((Below.refl _ _).drew))
  have HPK : Hid (∀ (kk : Nat) (n : Int) (W : World), RdAt B R a len cap kk W → kk ≤ 900000 → 1 ≤ n → n ≤ 1000 → Calls Try.prog 59 #[.pointer (some ⟨R, 0, none⟩), .int .i64 n] W fun e w' => ∃ x : Int, e = .returned (.int .i64 x) ∧ 0 ≤ x ∧ x < n ∧ RdAt B R a len cap (kk + 1) w' ∧ KeepsBut R W w') := by
    refine Lib.hid (fun kk n W hr h1 h2 h3 => (pick_any B R a len cap kk n W hr (by omega) (by omega) (by omega)).mono ?_)
    rintro e w' ⟨x, he, h0, h4, h5, h6⟩
    exact ⟨x, he, h0, h4 (by omega), h5, h6⟩
  have HFI : Hid (∀ (W : World) (P D : Int), IsMarks W (.slice ta ms.length tc) ms → w.heap.size < W.heap.size → Calls Try.prog 84 #[.slice ta ms.length tc, .int .i64 P, .int .i64 D, .agg #[.int .i64 l, .int .i64 d]] W fun e w' => ∃ (xs : List ByteArray) (b : Bool) (a : Option Addr) (n c : Nat), e = .returned (.tuple #[.slice a n c, .bool b]) ∧ SmallB 5 xs ∧ n = xs.length ∧ w'.ownsRow (w.heap.size + 1) 9 1 (.slice a n c) n (xs.map Value.string) ∧ Below W.heap.size W w') := by
    refine Lib.hid (fun W P D hm hz => (specFirst_any ms (.slice ta ms.length tc) P D l d W hm (by have := HML.out; omega)).mono ?_)
    rintro e w' ⟨mM, bM, xs, ok, ra, rn, rc, hio, hfr, he, hrn, ho5, hb5⟩
    have hs := frst_small hfr
    exact ⟨xs, ok, ra, rn, rc, he, ⟨by omega, hs.2⟩, hrn, ownsRow_base ho5 (fun j e => Nat.le_trans (Nat.succ_le_of_lt hz) (World.ownsRow.lt ho5 j e).1), hb5⟩
  have HRO : Hid (∀ (W : World) (kk : Nat), RdAt B R a len cap kk W → kk ≤ 900000 → w.heap.size < W.heap.size → Calls Try.prog 52 #[.pointer (some ⟨R, 0, none⟩), .int .i64 9] W fun e w' => ∃ (xs : List ByteArray) (a' : Option Addr) (c : Nat), e = .returned (.slice a' xs.length c) ∧ SmallR xs ∧ w'.ownsRow (w.heap.size + 1) 9 1 (.slice a' xs.length c) xs.length (xs.map Value.string) ∧ ∃ k', RdAt B R a len cap k' w' ∧ KeepsBut R W w') := by
    refine Lib.hid (fun W kk hr h1 hz => (l20Roster_any B R a len cap kk 9 W hr h1 (by omega) (by omega)).mono ?_)
    rintro e w' ⟨xs, v', rfl, hs, ho, k', -, -, h5, h6⟩
    obtain ⟨a', c, rfl, -, -, -⟩ := drawnR_form ho
    exact ⟨xs, a', c, rfl, hs, ownsRow_base ho (fun j e => Nat.le_trans (Nat.succ_le_of_lt hz) (World.ownsRow.lt ho j e).1), k', h5, h6⟩
  go_region_held3 (fun w' => w'.cell? ⟨b2, 0, none⟩ = some (.int .i64 l) ∧ w'.cell? ⟨b2, 1, none⟩ = some (.int .i64 d))
    (refine ⟨?_, ?_⟩ <;> go_simp)
    (first | (go_at_call 84; with_reducible refine Calls.mono (HFI.out w4 (IntKind.i64.wrap (1 + p3)) p4 T4.out.marks T4.out.hz) ?_; rintro e w5 ⟨xs, ok, ra, rn, rc, rfl, hfr, hrn, ho5, hb5⟩; have T5 := Lib.hid (T4.out.below hb5); have HFR := Lib.hid hfr; have HRN := Lib.hid hrn; have O5 := Lib.hid ho5; have y0 := T5.out.box.c0; have y1 := T5.out.box.c1; clear hfr hrn ho5 hb5) | (go_at_call 59; with_reducible refine Calls.mono (HPK.out k2 3 _ TD.out.rd (by omega) (by omega) (by omega)) ?_; rintro e w3 ⟨p3, rfl, hp30, hp3, hR3, hK3⟩; have T3 := Lib.hid (TD.out.picked hR3 hK3); have u0 := T3.out.box.c0; have u1 := T3.out.box.c1; clear hR3 hK3) | (go_at_call 59; with_reducible refine Calls.mono (HPK.out (k2 + 1) 5 _ T3.out.rd (by omega) (by omega) (by omega)) ?_; rintro e w4 ⟨p4, rfl, hp40, hp4, hR4, hK4⟩; have T4 := Lib.hid (T3.out.picked hR4 hK4); have v0 := T4.out.box.c0; have v1 := T4.out.box.c1; clear hR4 hK4))
  all_goals
    clear x0 x1 u0 u1 v0 v1 y0 y1
    obtain rfl := HRN.out
    have hn3 := HFR.out.1
    cases ok with
    | false =>
      have z0 := T5.out.z0
      have z1 := T5.out.z1
      have g0 := T5.out.f0
      have g1 := T5.out.f1
      have x0 := T5.out.box.c0
      have x1 := T5.out.box.c1
      have hbz : w.heap.size ≠ b2 := by have := T5.out.hb; omega
      have hbz2 : b2 ≠ w.heap.size := fun e => hbz e.symm
      have TE := Lib.hid (T5.out.below ((Below.refl _ _).drew))
      go_wp2_with fail
      go_region_held3 (fun w' => w'.cell? ⟨b2, 0, none⟩ = some (.int .i64 l) ∧ w'.cell? ⟨b2, 1, none⟩ = some (.int .i64 d))
        (refine ⟨?_, ?_⟩ <;> go_simp)
        (first | (go_at_call 52; with_reducible refine Calls.mono (HRO.out _ (k2 + 1 + 1) TE.out.rd (by omega) TE.out.hz) ?_; rintro e w9 ⟨ys, ya, yc, rfl, hys, ho9, k9, hR9, hK9⟩; have T9 := Lib.hid (TE.out.picked hR9 hK9); have O9 := Lib.hid ho9; have SY := Lib.hid hys; have s0 := T9.out.z0; have s1 := T9.out.z1; have h0 := T9.out.f0; have h1 := T9.out.f1; have i0 := T9.out.box.c0; have i1 := T9.out.box.c1; clear hys ho9 hR9 hK9))
      all_goals
        have FN := Lib.hid (T9.out.fin rfl O9.out)
        go_wp2_with fail
        obtain ⟨r1, r2, r3, r4, r5⟩ := FN.out
        refine bodyPost_ret (v := .tuple #[.slice ta ms.length tc, .slice ya ys.length yc, .agg #[.int .i64 l, .int .i64 d]]) ?_ rfl ⟨ms, _, ys, _, l, d, rfl, HML.out, HMW.out, SY.out, HLD.out.1, HLD.out.2.1, HLD.out.2.2.1, HLD.out.2.2.2, ?_, ?_, ?_⟩
        · simp [results, Try.results60, go_sem, r4, r5]
        · first | exact r1 | exact owns_belowX r1 ((Below.refl _ _).drew)
        · first | exact r2 | exact owns_belowX r2 ((Below.refl _ _).drew)
        · first | exact r3 | exact r3.trans (KeepsBut.of_below ((Below.refl _ _).drew))
    | true =>
      go_wp2_with fail
      refine (HPK.out (k2 + 1 + 1) 3 w5 T5.out.rd (by omega) (by omega) (by omega)).mono ?_
      rintro e w6 ⟨p5, rfl, hp50, hp5, hR6, hK6⟩
      have T6 := Lib.hid (T5.out.picked hR6 hK6)
      have O6 := Lib.hid (owns_keepsG O5.out hK6 (by have := HRW.out; omega))
      clear hR6 hK6
      by_cases hpos : 0 < p5
      · have hd1 : decide (0 < p5) = true := decide_eq_true hpos
        by_cases hn1 : 1 < xs.length
        · have hd2 : decide ((1 : Int) < (xs.length : Int)) = true := decide_eq_true (by omega)
          go_wp2_with fail
          refine (HPK.out (k2 + 1 + 1 + 1) 2 w6 T6.out.rd (by omega) (by omega) (by omega)).mono ?_
          rintro e w7 ⟨p6, rfl, hp60, hp6, hR7, hK7⟩
          have T7 := Lib.hid (T6.out.picked hR7 hK7)
          have O7 := Lib.hid (owns_keepsG O6.out hK7 (by have := HRW.out; omega))
          clear hR7 hK7
          by_cases h60 : p6 = 0
          · have hd3 : (p6 == 0) = true := beq_iff_eq.2 h60
            go_wp2_with fail
            refine (specExch_any (.slice ra xs.length rc) xs (HFR.out.more (by omega) : SmallR xs).short 0 1 w7 (IsStrs.of_owns O7.out)).mono ?_
            rintro e w8 ⟨u, rfl, ho8, hb8⟩
            obtain ⟨ua, uc, rfl, -, -, -⟩ := drawnR_form ho8
            have T8 := Lib.hid (T7.out.below hb8)
            have O8 := Lib.hid (ownsRow_base (B := w.heap.size + 1) ho8 (fun j e => Nat.le_trans (Nat.succ_le_of_lt T7.out.hz) (World.ownsRow.lt ho8 j e).1))
            have SM8 := Lib.hid (exch_small (a := 0) (b := 1) HFR.out)
            clear ho8 hb8
            generalize exch xs 0 1 = zs at *
            have z0 := T8.out.z0
            have z1 := T8.out.z1
            have g0 := T8.out.f0
            have g1 := T8.out.f1
            have x0 := T8.out.box.c0
            have x1 := T8.out.box.c1
            have hbz : w.heap.size ≠ b2 := by have := T8.out.hb; omega
            have hbz2 : b2 ≠ w.heap.size := fun e => hbz e.symm
            have FN := Lib.hid (T8.out.fin rfl O8.out)
            go_wp2_with fail
            go_region
            all_goals
              go_wp2_with fail
              obtain ⟨r1, r2, r3, r4, r5⟩ := FN.out
              refine bodyPost_ret (v := .tuple #[.slice ta ms.length tc, .slice ua zs.length uc, .agg #[.int .i64 l, .int .i64 d]]) ?_ rfl ⟨ms, _, zs, _, l, d, rfl, HML.out, HMW.out, SM8.out, HLD.out.1, HLD.out.2.1, HLD.out.2.2.1, HLD.out.2.2.2, ?_, ?_, ?_⟩
              · simp [results, Try.results60, go_sem, r4, r5]
              · first | exact r1 | exact owns_belowX r1 ((Below.refl _ _).drew)
              · first | exact r2 | exact owns_belowX r2 ((Below.refl _ _).drew)
              · first | exact r3 | exact r3.trans (KeepsBut.of_below ((Below.refl _ _).drew))
          · have hd3 : (p6 == 0) = false := by rw [beq_eq_false_iff_ne]; exact h60
            have z0 := T7.out.z0
            have z1 := T7.out.z1
            have g0 := T7.out.f0
            have g1 := T7.out.f1
            have x0 := T7.out.box.c0
            have x1 := T7.out.box.c1
            have hbz : w.heap.size ≠ b2 := by have := T7.out.hb; omega
            have hbz2 : b2 ≠ w.heap.size := fun e => hbz e.symm
            have FN := Lib.hid (T7.out.fin rfl O7.out)
            go_wp2_with fail
            go_region
            all_goals
              go_wp2_with fail
              obtain ⟨r1, r2, r3, r4, r5⟩ := FN.out
              refine bodyPost_ret (v := .tuple #[.slice ta ms.length tc, .slice ra xs.length rc, .agg #[.int .i64 l, .int .i64 d]]) ?_ rfl ⟨ms, _, xs, _, l, d, rfl, HML.out, HMW.out, (HFR.out.more (by omega)), HLD.out.1, HLD.out.2.1, HLD.out.2.2.1, HLD.out.2.2.2, ?_, ?_, ?_⟩
              · simp [results, Try.results60, go_sem, r4, r5]
              · first | exact r1 | exact owns_belowX r1 ((Below.refl _ _).drew)
              · first | exact r2 | exact owns_belowX r2 ((Below.refl _ _).drew)
              · first | exact r3 | exact r3.trans (KeepsBut.of_below ((Below.refl _ _).drew))
        · have hd2 : decide ((1 : Int) < (xs.length : Int)) = false := decide_eq_false (by omega)
          have z0 := T6.out.z0
          have z1 := T6.out.z1
          have g0 := T6.out.f0
          have g1 := T6.out.f1
          have x0 := T6.out.box.c0
          have x1 := T6.out.box.c1
          have hbz : w.heap.size ≠ b2 := by have := T6.out.hb; omega
          have hbz2 : b2 ≠ w.heap.size := fun e => hbz e.symm
          have FN := Lib.hid (T6.out.fin rfl O6.out)
          go_wp2_with fail
          go_region
          all_goals
            go_wp2_with fail
            obtain ⟨r1, r2, r3, r4, r5⟩ := FN.out
            refine bodyPost_ret (v := .tuple #[.slice ta ms.length tc, .slice ra xs.length rc, .agg #[.int .i64 l, .int .i64 d]]) ?_ rfl ⟨ms, _, xs, _, l, d, rfl, HML.out, HMW.out, (HFR.out.more (by omega)), HLD.out.1, HLD.out.2.1, HLD.out.2.2.1, HLD.out.2.2.2, ?_, ?_, ?_⟩
            · simp [results, Try.results60, go_sem, r4, r5]
            · first | exact r1 | exact owns_belowX r1 ((Below.refl _ _).drew)
            · first | exact r2 | exact owns_belowX r2 ((Below.refl _ _).drew)
            · first | exact r3 | exact r3.trans (KeepsBut.of_below ((Below.refl _ _).drew))
      · have hd1 : decide (0 < p5) = false := decide_eq_false hpos
        have z0 := T6.out.z0
        have z1 := T6.out.z1
        have g0 := T6.out.f0
        have g1 := T6.out.f1
        have x0 := T6.out.box.c0
        have x1 := T6.out.box.c1
        have hbz : w.heap.size ≠ b2 := by have := T6.out.hb; omega
        have hbz2 : b2 ≠ w.heap.size := fun e => hbz e.symm
        have TE := Lib.hid (T6.out.below ((Below.refl _ _).drew))
        go_wp2_with fail
        go_region_held3 (fun w' => w'.cell? ⟨b2, 0, none⟩ = some (.int .i64 l) ∧ w'.cell? ⟨b2, 1, none⟩ = some (.int .i64 d))
          (refine ⟨?_, ?_⟩ <;> go_simp)
          (first | (go_at_call 52; with_reducible refine Calls.mono (HRO.out _ (k2 + 1 + 1 + 1) TE.out.rd (by omega) TE.out.hz) ?_; rintro e w9 ⟨ys, ya, yc, rfl, hys, ho9, k9, hR9, hK9⟩; have T9 := Lib.hid (TE.out.picked hR9 hK9); have O9 := Lib.hid ho9; have SY := Lib.hid hys; have s0 := T9.out.z0; have s1 := T9.out.z1; have h0 := T9.out.f0; have h1 := T9.out.f1; have i0 := T9.out.box.c0; have i1 := T9.out.box.c1; clear hys ho9 hR9 hK9))
        all_goals
          have FN := Lib.hid (T9.out.fin rfl O9.out)
          go_wp2_with fail
          obtain ⟨r1, r2, r3, r4, r5⟩ := FN.out
          refine bodyPost_ret (v := .tuple #[.slice ta ms.length tc, .slice ya ys.length yc, .agg #[.int .i64 l, .int .i64 d]]) ?_ rfl ⟨ms, _, ys, _, l, d, rfl, HML.out, HMW.out, SY.out, HLD.out.1, HLD.out.2.1, HLD.out.2.2.1, HLD.out.2.2.2, ?_, ?_, ?_⟩
          · simp [results, Try.results60, go_sem, r4, r5]
          · first | exact r1 | exact owns_belowX r1 ((Below.refl _ _).drew)
          · first | exact r2 | exact owns_belowX r2 ((Below.refl _ _).drew)
          · first | exact r3 | exact r3.trans (KeepsBut.of_below ((Below.refl _ _).drew))
end Go.Proofs.Ytlbblfbiiceofaa

namespace Go.Proofs.Ytlbblfbiiceofaa
open Go.RowKit

def CovGot (w : World) (e : Ending) (w' : World) : Prop := ∃ (xs : List ByteArray) (v : Value) (l d : Int), e = .returned (.tuple #[v, .agg #[.int .i64 l, .int .i64 d]]) ∧ SmallR xs ∧ -2 ≤ l ∧ l ≤ 6 ∧ -2 ≤ d ∧ d ≤ 6 ∧ w'.ownsRow w.heap.size 9 1 v xs.length (xs.map Value.string) ∧ Below w.heap.size w w'
def KeepGot (w : World) (e : Ending) (w' : World) : Prop := ∃ (ms : List Mk) (tv : Value) (xs : List ByteArray) (v : Value), e = .returned (.tuple #[tv, v]) ∧ ms.length ≤ 10 ∧ (∀ m ∈ ms, m.wf) ∧ SmallR xs ∧ w'.ownsRow w.heap.size 81 5 tv ms.length (cellsM ms) ∧ w'.ownsRow w.heap.size 9 1 v xs.length (xs.map Value.string) ∧ Below w.heap.size w w'
def RightGot (w : World) (e : Ending) (w' : World) : Prop := ∃ (ms : List Mk) (tv : Value) (xs : List ByteArray) (v : Value) (l d : Int), e = .returned (.tuple #[tv, v, .agg #[.int .i64 l, .int .i64 d]]) ∧ ms.length ≤ 10 ∧ (∀ m ∈ ms, m.wf) ∧ SmallR xs ∧ -2 ≤ l ∧ l ≤ 6 ∧ -2 ≤ d ∧ d ≤ 6 ∧ w'.ownsRow w.heap.size 81 5 tv ms.length (cellsM ms) ∧ w'.ownsRow w.heap.size 9 1 v xs.length (xs.map Value.string) ∧ Below w.heap.size w w'

set_option maxHeartbeats 3200000 in
theorem drawKeepsAll_any (a : Option Addr) (len cap : Nat) (zs : List Int) (w : World) (h : IsRow .u8 w a len cap zs) :
    Calls Try.prog 32 #[.slice a len cap] w (KeepGot w) := by
  have HO := Lib.hid (l20Open_any a len cap zs _ h)
  clear h
  go_enter Try.func32, Try.ntmps32
  go_wp2_with fail
  refine HO.out.mono ?_
  clear HO
  rintro e w1 ⟨a1, len1, cap1, rfl, hR, hb1⟩
  have B1 := Lib.hid hb1
  clear hb1
  go_wp2_with fail
  refine (l20Right_any _ _ a1 len1 cap1 0 w1 hR (by omega)).mono ?_
  rintro e w2 ⟨ms, tv, xs, rv, l, d, rfl, hml, hmw, hxs, hl1, hl2, hd1, hd2, hot, hor, hK⟩
  obtain ⟨ra, rc, rfl, -, -, -⟩ := drawnR_form hor
  obtain ⟨ta, tc, rfl⟩ := ownsRow_sliceR hot
  have B2 := Lib.hid (B1.out.trans (hK.below (Nat.le_refl _) B1.out.size))
  have HT := Lib.hid hot
  have HR := Lib.hid hor
  have HB := Lib.hid (show w.heap.size ≤ w1.heap.size from B1.out.size)
  have HMW := Lib.hid hmw
  clear hK hR hot hor hmw
  have hal := (Below.refl w2.heap.size w2).alloc (Nat.le_refl _) (.cells #[.int .i64 l, .int .i64 d] 29)
  have B3 := Lib.hid (B2.out.trans (hal.mono B2.out.size))
  have HT3 := Lib.hid (owns_belowX HT.out hal)
  have HR3 := Lib.hid (owns_belowX HR.out hal)
  clear hal
  have HLE : Hid (w.heap.size ≤ w1.heap.size + 1) := Lib.hid (Nat.le_succ_of_le HB.out)
  go_wp2_with fail
  go_ret2
  exact ⟨ms, _, xs, _, rfl, hml, HMW.out, hxs, ownsRow_base HT3.out (fun j e => Nat.le_trans HLE.out (World.ownsRow.lt HT3.out j e).1), ownsRow_base HR3.out (fun j e => Nat.le_trans HLE.out (World.ownsRow.lt HR3.out j e).1), B3.out⟩

set_option maxHeartbeats 3200000 in
theorem drawRightOk_any (a : Option Addr) (len cap : Nat) (zs : List Int) (w : World) (h : IsRow .u8 w a len cap zs) :
    Calls Try.prog 37 #[.slice a len cap] w (RightGot w) := by
  have H0 := h.belowN ((Below.refl w.heap.size w).alloc (Nat.le_refl _) (.cells #[.int .i64 0, .int .i64 0] 29))
  have HO := Lib.hid (l20Open_any a len cap zs _ H0)
  clear H0 h
  go_enter Try.func37, Try.ntmps37
  go_wp2_with fail
  refine HO.out.mono ?_
  clear HO
  rintro e w1 ⟨a1, len1, cap1, rfl, hR, hb1⟩
  simp only [World.size_alloc] at hR hb1
  have hRR := hR.hR
  have c0 : w1.cell? ⟨w.heap.size, 0, none⟩ = some (.int .i64 0) := (hb1.cell (p := ⟨w.heap.size, 0, none⟩) (Nat.lt_succ_self _)).trans (World.cell?_alloc_new w _ _ 0)
  have c1 : w1.cell? ⟨w.heap.size, 1, none⟩ = some (.int .i64 0) := (hb1.cell (p := ⟨w.heap.size, 1, none⟩) (Nat.lt_succ_self _)).trans (World.cell?_alloc_new w _ _ 1)
  have f0 : ∀ i, w1.frozen? ⟨w.heap.size, i, none⟩ = false := fun i => (hb1.frozen (p := ⟨w.heap.size, i, none⟩) (Nat.lt_succ_self _)).trans (World.frozen?_alloc_new w _ _ i)
  have hbw : Below w.heap.size w w1 := ((Below.refl w.heap.size w).alloc (Nat.le_refl _) _).trans (hb1.mono (Nat.le_succ _))
  have HL := Lib.hid (show w.heap.size < w1.heap.size by have := hb1.size; omega)
  have HC0 := Lib.hid c0
  have HC1 := Lib.hid c1
  have HF0 := Lib.hid f0
  have B1 := Lib.hid hbw
  clear hb1 hbw c0 c1 f0
  go_wp2_with fail
  refine (l20Right_any _ _ a1 len1 cap1 0 w1 hR (by omega)).mono ?_
  rintro e w2 ⟨ms, tv, xs, rv, l, d, rfl, hml, hmw, hxs, hl1, hl2, hd1, hd2, hot, hor, hK⟩
  obtain ⟨ra, rc, rfl, -, -, -⟩ := drawnR_form hor
  obtain ⟨ta, tc, rfl⟩ := ownsRow_sliceR hot
  have d0 := (hK.cell (p := ⟨w.heap.size, 0, none⟩) HL.out (by show w.heap.size ≠ _; omega)).trans HC0.out
  have d1 := (hK.cell (p := ⟨w.heap.size, 1, none⟩) HL.out (by show w.heap.size ≠ _; omega)).trans HC1.out
  have g0 := (hK.frozen (p := ⟨w.heap.size, 0, none⟩) HL.out (by show w.heap.size ≠ _; omega)).trans (HF0.out 0)
  have g1 := (hK.frozen (p := ⟨w.heap.size, 1, none⟩) HL.out (by show w.heap.size ≠ _; omega)).trans (HF0.out 1)
  have hsz := hK.size
  have HLT := Lib.hid (show w.heap.size < w2.heap.size by have := HL.out; omega)
  have B2 := Lib.hid (B1.out.trans (hK.below (by omega) (by have := HL.out; omega)))
  have HT := Lib.hid hot
  have HR := Lib.hid hor
  have HB := Lib.hid (show w.heap.size ≤ w1.heap.size from B1.out.size)
  have HMW := Lib.hid hmw
  clear hK hR hot hor hmw
  go_wp2_with fail
  have r0 : (((w2).setCell ⟨w.heap.size, 0, none⟩ (.int .i64 l)).setCell ⟨w.heap.size, 1, none⟩ (.int .i64 d)).cell? ⟨w.heap.size, 0, none⟩ = some (.int .i64 l) := by go_simp
  have r1 : (((w2).setCell ⟨w.heap.size, 0, none⟩ (.int .i64 l)).setCell ⟨w.heap.size, 1, none⟩ (.int .i64 d)).cell? ⟨w.heap.size, 1, none⟩ = some (.int .i64 d) := by go_simp
  have BF := Lib.hid ((B2.out.setCell (p := ⟨w.heap.size, 0, none⟩) (Nat.le_refl _) (.int .i64 l)).setCell (p := ⟨w.heap.size, 1, none⟩) (Nat.le_refl _) (.int .i64 d))
  have RF := Lib.hid (owns_set (owns_set HR.out (Nat.lt_succ_of_le HB.out) 0 (.int .i64 l)) (Nat.lt_succ_of_le HB.out) 1 (.int .i64 d))
  have TF := Lib.hid (owns_set (owns_set HT.out (Nat.lt_succ_of_le HB.out) 0 (.int .i64 l)) (Nat.lt_succ_of_le HB.out) 1 (.int .i64 d))
  have HLE : Hid (w.heap.size ≤ w1.heap.size + 1) := Lib.hid (Nat.le_succ_of_le HB.out)
  refine bodyPost_ret (v := .tuple #[.slice ta ms.length tc, .slice ra xs.length rc, .agg #[.int .i64 l, .int .i64 d]]) ?_ rfl ⟨ms, _, xs, _, l, d, rfl, hml, HMW.out, hxs, hl1, hl2, hd1, hd2, ?_, ?_, BF.out⟩
  · simp [results, Try.results37, go_sem, r0, r1]
  · exact ownsRow_base TF.out (fun j e => Nat.le_trans HLE.out (World.ownsRow.lt TF.out j e).1)
  · exact ownsRow_base RF.out (fun j e => Nat.le_trans HLE.out (World.ownsRow.lt RF.out j e).1)

set_option maxHeartbeats 3200000 in
theorem drawCoverOk_any (a : Option Addr) (len cap : Nat) (zs : List Int) (w : World) (h : IsRow .u8 w a len cap zs) :
    Calls Try.prog 27 #[.slice a len cap] w (CovGot w) := by
  have H0 := h.belowN ((Below.refl w.heap.size w).alloc (Nat.le_refl _) (.cells #[.int .i64 0, .int .i64 0] 29))
  have HO := Lib.hid (l20Open_any a len cap zs _ H0)
  clear H0 h
  go_enter Try.func27, Try.ntmps27
  go_wp2_with fail
  refine HO.out.mono ?_
  clear HO
  rintro e w1 ⟨a1, len1, cap1, rfl, hR, hb1⟩
  simp only [World.size_alloc] at hR hb1
  have hRR := hR.hR
  have c0 : w1.cell? ⟨w.heap.size, 0, none⟩ = some (.int .i64 0) := (hb1.cell (p := ⟨w.heap.size, 0, none⟩) (Nat.lt_succ_self _)).trans (World.cell?_alloc_new w _ _ 0)
  have c1 : w1.cell? ⟨w.heap.size, 1, none⟩ = some (.int .i64 0) := (hb1.cell (p := ⟨w.heap.size, 1, none⟩) (Nat.lt_succ_self _)).trans (World.cell?_alloc_new w _ _ 1)
  have f0 : ∀ i, w1.frozen? ⟨w.heap.size, i, none⟩ = false := fun i => (hb1.frozen (p := ⟨w.heap.size, i, none⟩) (Nat.lt_succ_self _)).trans (World.frozen?_alloc_new w _ _ i)
  have hbw : Below w.heap.size w w1 := ((Below.refl w.heap.size w).alloc (Nat.le_refl _) _).trans (hb1.mono (Nat.le_succ _))
  have HL := Lib.hid (show w.heap.size < w1.heap.size by have := hb1.size; omega)
  have HC0 := Lib.hid c0
  have HC1 := Lib.hid c1
  have HF0 := Lib.hid f0
  have B1 := Lib.hid hbw
  clear hb1 hbw c0 c1 f0
  go_wp2_with fail
  refine (l20Right_any _ _ a1 len1 cap1 0 w1 hR (by omega)).mono ?_
  rintro e w2 ⟨ms, tv, xs, rv, l, d, rfl, hml, hmw, hxs, hl1, hl2, hd1, hd2, hot, hor, hK⟩
  obtain ⟨ra, rc, rfl, -, -, -⟩ := drawnR_form hor
  obtain ⟨ta, tc, rfl⟩ := ownsRow_sliceR hot
  have d0 := (hK.cell (p := ⟨w.heap.size, 0, none⟩) HL.out (by show w.heap.size ≠ _; omega)).trans HC0.out
  have d1 := (hK.cell (p := ⟨w.heap.size, 1, none⟩) HL.out (by show w.heap.size ≠ _; omega)).trans HC1.out
  have g0 := (hK.frozen (p := ⟨w.heap.size, 0, none⟩) HL.out (by show w.heap.size ≠ _; omega)).trans (HF0.out 0)
  have g1 := (hK.frozen (p := ⟨w.heap.size, 1, none⟩) HL.out (by show w.heap.size ≠ _; omega)).trans (HF0.out 1)
  have hsz := hK.size
  have HLT := Lib.hid (show w.heap.size < w2.heap.size by have := HL.out; omega)
  have B2 := Lib.hid (B1.out.trans (hK.below (by omega) (by have := HL.out; omega)))
  have HT := Lib.hid hot
  have HR := Lib.hid hor
  have HB := Lib.hid (show w.heap.size ≤ w1.heap.size from B1.out.size)
  have HMW := Lib.hid hmw
  clear hK hR hot hor hmw
  have hal := (Below.refl w2.heap.size w2).alloc (Nat.le_refl _) (.cells #[.int .i64 l, .int .i64 d] 29)
  have B3 := Lib.hid (B2.out.trans (hal.mono B2.out.size))
  have HT3 := Lib.hid (owns_belowX HT.out hal)
  have HR3 := Lib.hid (owns_belowX HR.out hal)
  have hlt2 := HLT.out
  have e0 := (hal.cell (p := ⟨w.heap.size, 0, none⟩) HLT.out).trans d0
  have e1 := (hal.cell (p := ⟨w.heap.size, 1, none⟩) HLT.out).trans d1
  have k0 := (hal.frozen (p := ⟨w.heap.size, 0, none⟩) HLT.out).trans g0
  have k1 := (hal.frozen (p := ⟨w.heap.size, 1, none⟩) HLT.out).trans g1
  have x0 : (w2.alloc (.cells #[.int .i64 l, .int .i64 d] 29)).cell? ⟨w2.heap.size, 0, none⟩ = some (.int .i64 l) := World.cell?_alloc_new w2 _ _ 0
  have x1 : (w2.alloc (.cells #[.int .i64 l, .int .i64 d] 29)).cell? ⟨w2.heap.size, 1, none⟩ = some (.int .i64 d) := World.cell?_alloc_new w2 _ _ 1
  have hne1 : w.heap.size ≠ w2.heap.size := by omega
  have hne2 : w2.heap.size ≠ w.heap.size := by omega
  clear hal
  go_upto_region 2 with fail
  generalize (w2.alloc (.cells #[.int .i64 l, .int .i64 d] 29)) = W3 at *
  generalize hb3 : w2.heap.size = b3 at *
  clear hb3
  go_region
  have r0 : (((W3).setCell ⟨w.heap.size, 0, none⟩ (.int .i64 l)).setCell ⟨w.heap.size, 1, none⟩ (.int .i64 d)).cell? ⟨w.heap.size, 0, none⟩ = some (.int .i64 l) := by go_simp
  have r1 : (((W3).setCell ⟨w.heap.size, 0, none⟩ (.int .i64 l)).setCell ⟨w.heap.size, 1, none⟩ (.int .i64 d)).cell? ⟨w.heap.size, 1, none⟩ = some (.int .i64 d) := by go_simp
  have BF := Lib.hid ((B3.out.setCell (p := ⟨w.heap.size, 0, none⟩) (Nat.le_refl _) (.int .i64 l)).setCell (p := ⟨w.heap.size, 1, none⟩) (Nat.le_refl _) (.int .i64 d))
  have RF := Lib.hid (owns_set (owns_set HR3.out (Nat.lt_succ_of_le HB.out) 0 (.int .i64 l)) (Nat.lt_succ_of_le HB.out) 1 (.int .i64 d))
  have TF := Lib.hid (owns_set (owns_set HT3.out (Nat.lt_succ_of_le HB.out) 0 (.int .i64 l)) (Nat.lt_succ_of_le HB.out) 1 (.int .i64 d))
  have HLE : Hid (w.heap.size ≤ w1.heap.size + 1) := Lib.hid (Nat.le_succ_of_le HB.out)
  all_goals
    go_wp2_with fail
    refine bodyPost_ret (v := .tuple #[.slice ra xs.length rc, .agg #[.int .i64 l, .int .i64 d]]) ?_ rfl ⟨xs, _, l, d, rfl, hxs, hl1, hl2, hd1, hd2, ?_, ?_⟩
    · simp [results, Try.results27, go_sem, r0, r1]
    · exact ownsRow_base (owns_belowX RF.out ((Below.refl _ _).drew)) (fun j e => Nat.le_trans HLE.out (World.ownsRow.lt RF.out j e).1)
    · exact BF.out.trans ((Below.refl _ _).drew.mono BF.out.size)
end Go.Proofs.Ytlbblfbiiceofaa
