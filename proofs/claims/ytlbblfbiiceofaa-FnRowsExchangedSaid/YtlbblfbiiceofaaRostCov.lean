/- CoverOk of the program and of the model: what each returns, for every argument. No condition. -/
import Derived.Test.YtlbblfbiiceofaaRostDay
import Derived.Deep.RegionHeld3
import Derived.Outline
import Derived.Deep.CutRange
import Derived.Deep.CutBlock
namespace Go.Proofs.Ytlbblfbiiceofaa
open Go.RowKit

/-- the box of needs -/
structure NdBox (B : Nat) (l d : Int) (w : World) : Prop where
  c0 : w.cell? ⟨B, 0, none⟩ = some (.int .i64 l)
  c1 : w.cell? ⟨B, 1, none⟩ = some (.int .i64 d)
  lt : B < w.heap.size
theorem NdBox.new (w : World) (l d : Int) (t : TypeId) : NdBox w.heap.size l d (w.alloc (.cells #[.int .i64 l, .int .i64 d] t)) := ⟨World.cell?_alloc_new w _ _ 0, World.cell?_alloc_new w _ _ 1, by simp⟩
theorem NdBox.below {B : Nat} {l d : Int} {w w' : World} (h : NdBox B l d w) (hb : Below w.heap.size w w') : NdBox B l d w' :=
  ⟨(hb.cell (p := ⟨B, 0, none⟩) h.lt).trans h.c0, (hb.cell (p := ⟨B, 1, none⟩) h.lt).trans h.c1, Nat.lt_of_lt_of_le h.lt hb.size⟩

set_option maxHeartbeats 1600000 in
theorem specCovers_any (s : ByteArray) (l d : Int) (w : World) (hs : s.size ≤ maxLen) :
    Calls Try.prog 61 #[.string s, .agg #[.int .i64 l, .int .i64 d]] w fun e w' => e = .returned (.bool (covers s l d)) ∧ Below w.heap.size w w' := by
  have HA := Lib.hid (fun W => specCountOf_any s ⟨#[100]⟩ W hs)
  have HB := Lib.hid (fun W => specCountOf_any s ⟨#[110]⟩ W hs)
  have HE : Hid (covers s l d = (countOf s ⟨#[100]⟩ == l && countOf s ⟨#[110]⟩ == d)) := Lib.hid rfl
  generalize countOf s ⟨#[100]⟩ = a at HA HE
  generalize countOf s ⟨#[110]⟩ = b at HB HE
  have X0 := Lib.hid (NdBox.new w l d 29)
  have Q0 : Hid (Below w.heap.size w (w.alloc (.cells #[.int .i64 l, .int .i64 d] 29))) := Lib.hid ((Below.refl _ _).alloc (Nat.le_refl _) _)
  by_cases h1 : (a == l) = true
  · have hr : covers s l d = (b == d) := by rw [HE.out, h1, Bool.true_and]
    have HR := Lib.hid hr
    clear hr
    go_enter Try.func61, Try.ntmps61
    go_upto_region 1 with fail
    generalize (w.alloc (.cells #[.int .i64 l, .int .i64 d] 29)) = W0 at *
    have BD := Lib.hid ((Below.refl W0.heap.size W0).drew)
    have c0 := X0.out.c0; have c1 := X0.out.c1
    go_region_held3 (fun w' => w'.cell? ⟨w.heap.size, 0, none⟩ = some (.int .i64 l) ∧ w'.cell? ⟨w.heap.size, 1, none⟩ = some (.int .i64 d))
      (refine ⟨?_, ?_⟩ <;> go_simp)
      (first | (go_at_call 85; with_reducible refine Calls.mono (HA.out _) ?_; rintro e w1 ⟨rfl, hb1⟩; have B1 := Lib.hid (BD.out.trans (hb1.mono BD.out.size)); clear hb1; have x0 := (X0.out.below B1.out).c0; have x1 := (X0.out.below B1.out).c1) | (go_at_call 85; with_reducible refine Calls.mono (HB.out _) ?_; rintro e w2 ⟨rfl, hb2⟩; have B2 := Lib.hid (B1.out.trans (hb2.mono B1.out.size)); clear hb2; have y0 := (X0.out.below B2.out).c0; have y1 := (X0.out.below B2.out).c1))
    all_goals
      go_wp2_with fail
      go_ret
      exact ⟨ret_bool (by rw [HR.out]), Q0.out.trans (B2.out.mono Q0.out.size)⟩
  · have h1f : (a == l) = false := by simpa using h1
    have hr : covers s l d = false := by rw [HE.out, h1f, Bool.false_and]
    have HR := Lib.hid hr
    clear hr h1 HB
    go_enter Try.func61, Try.ntmps61
    go_upto_region 1 with fail
    generalize (w.alloc (.cells #[.int .i64 l, .int .i64 d] 29)) = W0 at *
    have BD := Lib.hid ((Below.refl W0.heap.size W0).drew)
    have c0 := X0.out.c0; have c1 := X0.out.c1
    first | (go_region_with (go_at_call 85; with_reducible refine Calls.mono (HA.out _) ?_; rintro e w1 ⟨rfl, hb1⟩; have B1 := Lib.hid (BD.out.trans (hb1.mono BD.out.size)); clear hb1; have x0 := (X0.out.below B1.out).c0; have x1 := (X0.out.below B1.out).c1)) | fail
    all_goals
      go_wp2_with fail
      go_ret
      exact ⟨ret_bool HR.out.symm, Q0.out.trans (B1.out.mono Q0.out.size)⟩

theorem coverOk_all {xs : List ByteArray} {l d : Int} (h1 : rosterOk xs = true) (h2 : needsOk l d = true) (h : coverTo xs l d (daysOf xs) = true) : coverOk xs l d = true := by rw [coverOk, h1, h2, h]; rfl

set_option maxHeartbeats 3200000 in
theorem specCoverOk_any (v : Value) (xs : List ByteArray) (hwf : Short xs) (l d : Int) (w : World) (h : IsStrs w v xs) :
    Calls Try.prog 29 #[v, .agg #[.int .i64 l, .int .i64 d]] w fun e w' => e = .returned (.bool (coverOk xs l d)) ∧ Below w.heap.size w w' := by
  have HR := Lib.hid (fun W hI => specRosterOk_any v xs hwf W hI)
  have HN := Lib.hid (fun W => specNeedsOk_any l d W)
  have HDY := Lib.hid (fun W hI k => specDayOf_any v xs hwf k W hI)
  have H := Lib.hid h
  obtain ⟨a, cap, rfl, hcp, hmx⟩ := h.form
  have X0 := Lib.hid (NdBox.new w l d 29)
  have Q0 : Hid (Below w.heap.size w (w.alloc (.cells #[.int .i64 l, .int .i64 d] 29))) := Lib.hid ((Below.refl _ _).alloc (Nat.le_refl _) _)
  cases hb : rosterOk xs with
  | false =>
    have HE := Lib.hid (coverOk_no1 (l := l) (d := d) hb)
    rw [hb] at HR
    go_enter Try.func29, Try.ntmps29
    go_wp2_with fail
    refine (HR.out _ (H.out.below Q0.out)).mono ?_
    rintro e w1 ⟨rfl, hb1⟩
    go_wp2_with fail
    go_ret
    exact ⟨ret_bool HE.out.symm, Q0.out.trans (hb1.mono Q0.out.size)⟩
  | true =>
    rw [hb] at HR
    cases hn : needsOk l d with
    | false =>
      have HE := Lib.hid (coverOk_no2 (xs := xs) hn)
      rw [hn] at HN
      go_enter Try.func29, Try.ntmps29
      go_wp2_with fail
      refine (HR.out _ (H.out.below Q0.out)).mono ?_
      rintro e w1 ⟨rfl, hb1⟩
      have x0 := (X0.out.below hb1).c0; have x1 := (X0.out.below hb1).c1
      have B1 := Lib.hid (Q0.out.trans (hb1.mono Q0.out.size))
      clear hb1
      go_wp2_with fail
      refine (HN.out _).mono ?_
      rintro e w2 ⟨rfl, hb2⟩
      go_wp2_with fail
      go_ret
      exact ⟨ret_bool HE.out.symm, B1.out.trans (hb2.mono B1.out.size)⟩
    | true =>
      rw [hn] at HN
      obtain ⟨hn1, hn4, hd12, -⟩ := rosterOk_iff.1 hb
      have hd0 := daysOf_get (xs := xs) (by omega)
      obtain ⟨g, off, rfl, hg, hc⟩ := h.at (by omega)
      have HC := Lib.hid (hc 0 (by omega))
      have HG := Lib.hid hg
      have HFA : Hid (∀ k, k < daysOf xs → covers (dayStr xs k) l d = false → coverOk xs l d = false) := Lib.hid (fun k hk h => coverOk_false hk h)
      have HTR : Hid (coverTo xs l d (daysOf xs) = true → coverOk xs l d = true) := Lib.hid (fun h => coverOk_all hb hn h)
      have HDS : Hid (∀ k : Nat, k < daysOf xs → dayOf xs (k : Int) = dayStr xs k) := Lib.hid (fun k hk => dayOf_yes hb hk)
      have HSM : Hid (∀ k : Nat, k < daysOf xs → (dayStr xs k).size ≤ maxLen) := Lib.hid (fun k _ => by rw [dayStr_size]; unfold maxLen; omega)
      have hs12 : xs[0].size ≤ 12 := by omega
      rw [hd0] at HFA HTR HDS HSM
      have h0 : 0 < xs.length := by omega
      clear hb hn h hc hd0 hd12 hg
      generalize xs[0] = s0 at *
      go_enter Try.func29, Try.ntmps29
      go_wp2_with fail
      refine (HR.out _ (H.out.below Q0.out)).mono ?_
      rintro e w1 ⟨rfl, hb1⟩
      have X1 := Lib.hid (X0.out.below hb1)
      have x0 := X1.out.c0; have x1 := X1.out.c1
      have B1 := Lib.hid (Q0.out.trans (hb1.mono Q0.out.size))
      clear hb1
      go_wp2_with fail
      refine (HN.out _).mono ?_
      rintro e w2 ⟨rfl, hb2⟩
      have X2 := Lib.hid (X1.out.below hb2)
      have B2 := Lib.hid (B1.out.trans (hb2.mono B1.out.size))
      clear hb2 x0 x1
      go_wp2_with fail
      go_loopw [5] (fun iv wr => ∃ k : Nat, k ≤ s0.size ∧ iv = .int .i64 (k : Int) ∧ Hid (coverTo xs l d k = true) ∧ Hid (Below w.heap.size w wr) ∧ Hid (NdBox w.heap.size l d wr)) (fun iv _ => s0.size - (intOf iv).toNat)
      case atStart => exact ⟨0, Nat.zero_le _, rfl, Lib.hid rfl, B2, X2⟩
      case round =>
        obtain ⟨k, hk, rfl, HCT, BB, XX⟩ := hrel
        have c0 : wr.cell? ⟨g, off, none⟩ = some (.string s0) := (BB.out.cell (p := ⟨g, off, none⟩) HG.out).trans HC.out
        by_cases hlt : k < s0.size
        · have HDK := Lib.hid (fun W hI => HDY.out W hI (k : Int))
          rw [HDS.out k hlt] at HDK
          have HCV := Lib.hid (fun W => specCovers_any (dayStr xs k) l d W (HSM.out k hlt))
          have HF := Lib.hid (HFA.out k hlt)
          have HST := Lib.hid (coverTo_succ xs l d k)
          generalize dayStr xs k = ds at *
          have HKF : ∀ b, covers ds l d = b → Hid (∀ W, Calls Try.prog 61 #[.string ds, .agg #[.int .i64 l, .int .i64 d]] W fun e w' => e = .returned (.bool b) ∧ Below W.heap.size W w') := fun b hb => Lib.hid (fun W => by have := HCV.out W; rwa [hb] at this)
          go_wp2_with fail
          have BD := Lib.hid ((Below.refl wr.heap.size wr).drew)
          have z0 := XX.out.c0; have z1 := XX.out.c1
          cases hcv : covers ds l d with
          | false =>
            have HCV2 := HKF _ hcv
            have HE := Lib.hid (HF.out hcv)
            clear HKF hcv
            go_region_with (first | (go_at_call 26; with_reducible refine Calls.mono (HDK.out _ (H.out.below (BB.out.trans (BD.out.mono BB.out.size)))) ?_; rintro e w3 ⟨rfl, hb3⟩; have B3 := Lib.hid (BD.out.trans (hb3.mono BD.out.size)); clear hb3; have y0 := (XX.out.below B3.out).c0; have y1 := (XX.out.below B3.out).c1) | (go_at_call 61; with_reducible refine Calls.mono (HCV2.out _) ?_; rintro e w4 ⟨rfl, hb4⟩; have B4 := Lib.hid (B3.out.trans (hb4.mono B3.out.size)); clear hb4))
            all_goals
              go_wp2_with fail
              go_ret
              exact ⟨ret_bool HE.out.symm, BB.out.trans (B4.out.mono BB.out.size)⟩
          | true =>
            have HCV2 := HKF _ hcv
            have HE : Hid (coverTo xs l d (k + 1) = true) := by
              have : coverTo xs l d (k + 1) = true := by rw [HST.out, HCT.out, hcv]; rfl
              exact Lib.hid this
            clear HKF hcv
            go_region_with (first | (go_at_call 26; with_reducible refine Calls.mono (HDK.out _ (H.out.below (BB.out.trans (BD.out.mono BB.out.size)))) ?_; rintro e w3 ⟨rfl, hb3⟩; have B3 := Lib.hid (BD.out.trans (hb3.mono BD.out.size)); clear hb3; have y0 := (XX.out.below B3.out).c0; have y1 := (XX.out.below B3.out).c1) | (go_at_call 61; with_reducible refine Calls.mono (HCV2.out _) ?_; rintro e w4 ⟨rfl, hb4⟩; have B4 := Lib.hid (B3.out.trans (hb4.mono B3.out.size)); clear hb4))
            all_goals
              go_wp2_with fail
              go_roundw
              case rel => exact ⟨k + 1, by omega, by go_num, HE, Lib.hid (BB.out.trans (B4.out.mono BB.out.size)), Lib.hid (XX.out.below B4.out)⟩
              case measure => simp [intOf]; omega
        · obtain rfl : k = s0.size := by omega
          have HE := Lib.hid (HTR.out HCT.out)
          go_wp2_with fail
          go_ret
          exact ⟨ret_bool HE.out.symm, BB.out⟩

theorem covers_parts {s : ByteArray} {l d a b : Int} (ha : countOf s ⟨#[100]⟩ = a) (hb : countOf s ⟨#[110]⟩ = b) : covers s l d = (a == l && b == d) := by rw [covers, ha, hb]

set_option maxHeartbeats 3200000 in
theorem implCoverOk_any (v : Value) (xs : List ByteArray) (hwf : Short xs) (l d : Int) (hl : (Lit.int .i64 l).wf = true) (hd : (Lit.int .i64 d).wf = true) (w : World) (h : IsStrs w v xs) :
    Calls Try.prog 28 #[v, .agg #[.int .i64 l, .int .i64 d]] w fun e w' => e = .returned (.bool (coverOk xs l d)) ∧ Below w.heap.size w w' := by
  have HR := Lib.hid (fun W hI => implRosterOk_any v xs hwf W hI)
  have HN := Lib.hid (fun W => implNeedsOk_any l d W hl hd)
  have HDY := Lib.hid (fun W hI k => implDayOf_any v xs hwf k W hI)
  have H := Lib.hid h
  obtain ⟨a, cap, rfl, hcp, hmx⟩ := h.form
  have X0 := Lib.hid (NdBox.new w l d 29)
  have Q0 : Hid (Below w.heap.size w (w.alloc (.cells #[.int .i64 l, .int .i64 d] 29))) := Lib.hid ((Below.refl _ _).alloc (Nat.le_refl _) _)
  clear hl hd
  cases hb : rosterOk xs with
  | false =>
    have HE := Lib.hid (coverOk_no1 (l := l) (d := d) hb)
    rw [hb] at HR
    go_enter Try.func28, Try.ntmps28
    go_wp2_with fail
    refine (HR.out _ (H.out.below Q0.out)).mono ?_
    rintro e w1 ⟨rfl, hb1⟩
    go_wp2_with fail
    go_ret
    exact ⟨ret_bool HE.out.symm, Q0.out.trans (hb1.mono Q0.out.size)⟩
  | true =>
    rw [hb] at HR
    cases hn : needsOk l d with
    | false =>
      have HE := Lib.hid (coverOk_no2 (xs := xs) hn)
      rw [hn] at HN
      go_enter Try.func28, Try.ntmps28
      go_wp2_with fail
      refine (HR.out _ (H.out.below Q0.out)).mono ?_
      rintro e w1 ⟨rfl, hb1⟩
      have x0 := (X0.out.below hb1).c0; have x1 := (X0.out.below hb1).c1
      have B1 := Lib.hid (Q0.out.trans (hb1.mono Q0.out.size))
      clear hb1
      go_wp2_with fail
      refine (HN.out _).mono ?_
      rintro e w2 ⟨rfl, hb2⟩
      go_wp2_with fail
      go_ret
      exact ⟨ret_bool HE.out.symm, B1.out.trans (hb2.mono B1.out.size)⟩
    | true =>
      rw [hn] at HN
      obtain ⟨hn1, hn4, hd12, -⟩ := rosterOk_iff.1 hb
      have hd0 := daysOf_get (xs := xs) (by omega)
      obtain ⟨g, off, rfl, hg, hc⟩ := h.at (by omega)
      have HC := Lib.hid (hc 0 (by omega))
      have HG := Lib.hid hg
      have HFA : Hid (∀ k, k < daysOf xs → covers (dayStr xs k) l d = false → coverOk xs l d = false) := Lib.hid (fun k hk h => coverOk_false hk h)
      have HTR : Hid (coverTo xs l d (daysOf xs) = true → coverOk xs l d = true) := Lib.hid (fun h => coverOk_all hb hn h)
      have HDS : Hid (∀ k : Nat, k < daysOf xs → dayOf xs (k : Int) = dayStr xs k) := Lib.hid (fun k hk => dayOf_yes hb hk)
      have HSM : Hid (∀ k : Nat, k < daysOf xs → (dayStr xs k).size ≤ maxLen) := Lib.hid (fun k _ => by rw [dayStr_size]; unfold maxLen; omega)
      have hs12 : xs[0].size ≤ 12 := by omega
      rw [hd0] at HFA HTR HDS HSM
      have h0 : 0 < xs.length := by omega
      clear hb hn h hc hd0 hd12 hg
      generalize xs[0] = s0 at *
      go_enter Try.func28, Try.ntmps28
      go_wp2_with fail
      refine (HR.out _ (H.out.below Q0.out)).mono ?_
      rintro e w1 ⟨rfl, hb1⟩
      have X1 := Lib.hid (X0.out.below hb1)
      have x0 := X1.out.c0; have x1 := X1.out.c1
      have B1 := Lib.hid (Q0.out.trans (hb1.mono Q0.out.size))
      clear hb1
      go_wp2_with fail
      refine (HN.out _).mono ?_
      rintro e w2 ⟨rfl, hb2⟩
      have X2 := Lib.hid (X1.out.below hb2)
      have B2 := Lib.hid (B1.out.trans (hb2.mono B1.out.size))
      have c2 : w2.cell? ⟨g, off, none⟩ = some (.string s0) := (B2.out.cell (p := ⟨g, off, none⟩) HG.out).trans HC.out
      clear hb2 x0 x1
      go_wp2_with fail
      go_loopw [5, 6, 19] (fun _ _ iv wr => ∃ k : Nat, k ≤ s0.size ∧ iv = .int .i64 (k : Int) ∧ Hid (coverTo xs l d k = true) ∧ Hid (Below w.heap.size w wr) ∧ Hid (NdBox w.heap.size l d wr)) (fun _ _ iv _ => s0.size - (intOf iv).toNat)
      case atStart => exact ⟨0, Nat.zero_le _, rfl, Lib.hid rfl, B2, X2⟩
      case round =>
        obtain ⟨k, hk, rfl, HCT, BB, XX⟩ := hrel
        by_cases hlt : k < s0.size
        · have HDK := Lib.hid (HDY.out wr (H.out.below BB.out) (k : Int))
          rw [HDS.out k hlt] at HDK
          have HA := Lib.hid (fun W => implCountOf_any (dayStr xs k) ⟨#[100]⟩ W (HSM.out k hlt) (by decide))
          have HB := Lib.hid (fun W => implCountOf_any (dayStr xs k) ⟨#[110]⟩ W (HSM.out k hlt) (by decide))
          have HF := Lib.hid (HFA.out k hlt)
          have HST := Lib.hid (coverTo_succ xs l d k)
          generalize dayStr xs k = ds at *
          have HCV := Lib.hid (fun a b (ha : countOf ds ⟨#[100]⟩ = a) (hb : countOf ds ⟨#[110]⟩ = b) => covers_parts (l := l) (d := d) ha hb)
          have HCV2 := Lib.hid (HCV.out _ _ rfl rfl)
          generalize countOf ds ⟨#[100]⟩ = p at HA HCV2
          generalize countOf ds ⟨#[110]⟩ = q at HB HCV2
          clear HCV
          go_wp2_with fail
          refine HDK.out.mono ?_
          rintro e w3 ⟨rfl, hb3⟩
          have B3 := Lib.hid (BB.out.trans (hb3.mono BB.out.size))
          have X3 := Lib.hid (XX.out.below hb3)
          clear hb3
          go_wp2_with fail
          have BD := Lib.hid ((Below.refl w3.heap.size w3).drew)
          have z0 := X3.out.c0; have z1 := X3.out.c1
          by_cases h1 : (p == l) = true
          · have h1' : (p != l) = false := by simpa using h1
            by_cases h2 : (q == d) = true
            · have h2' : (q != d) = false := by simpa using h2
              have HE : Hid (coverTo xs l d (k + 1) = true) := by
                have : coverTo xs l d (k + 1) = true := by rw [HST.out, HCT.out, HCV2.out, h1, h2]; rfl
                exact Lib.hid this
              clear h1 h2
              go_region_held3 (fun w' => w'.cell? ⟨w.heap.size, 0, none⟩ = some (.int .i64 l) ∧ w'.cell? ⟨w.heap.size, 1, none⟩ = some (.int .i64 d))
                (refine ⟨?_, ?_⟩ <;> go_simp)
                (first | (go_at_call 30; with_reducible refine Calls.mono (HA.out _) ?_; rintro e w4 ⟨rfl, hb4⟩; have B4 := Lib.hid (BD.out.trans (hb4.mono BD.out.size)); clear hb4; have x0 := (X3.out.below B4.out).c0; have x1 := (X3.out.below B4.out).c1) | (go_at_call 30; with_reducible refine Calls.mono (HB.out _) ?_; rintro e w5 ⟨rfl, hb5⟩; have B5 := Lib.hid (B4.out.trans (hb5.mono B4.out.size)); clear hb5; have y0 := (X3.out.below B5.out).c0; have y1 := (X3.out.below B5.out).c1))
              all_goals
                go_wp2_with fail
                go_roundw
                case rel => exact ⟨k + 1, by omega, by go_num, HE, Lib.hid (B3.out.trans (B5.out.mono B3.out.size)), Lib.hid (X3.out.below B5.out)⟩
                case measure => simp [intOf]; omega
            · have h2f : (q == d) = false := by simpa using h2
              have h2' : (q != d) = true := by simpa using h2
              have HE : Hid (coverOk xs l d = false) := by
                have : coverOk xs l d = false := HF.out (by rw [HCV2.out, h2f, Bool.and_false])
                exact Lib.hid this
              clear h1 h2 h2f
              go_region_held3 (fun w' => w'.cell? ⟨w.heap.size, 0, none⟩ = some (.int .i64 l) ∧ w'.cell? ⟨w.heap.size, 1, none⟩ = some (.int .i64 d))
                (refine ⟨?_, ?_⟩ <;> go_simp)
                (first | (go_at_call 30; with_reducible refine Calls.mono (HA.out _) ?_; rintro e w4 ⟨rfl, hb4⟩; have B4 := Lib.hid (BD.out.trans (hb4.mono BD.out.size)); clear hb4; have x0 := (X3.out.below B4.out).c0; have x1 := (X3.out.below B4.out).c1) | (go_at_call 30; with_reducible refine Calls.mono (HB.out _) ?_; rintro e w5 ⟨rfl, hb5⟩; have B5 := Lib.hid (B4.out.trans (hb5.mono B4.out.size)); clear hb5; have y0 := (X3.out.below B5.out).c0; have y1 := (X3.out.below B5.out).c1))
              all_goals
                go_wp2_with fail
                go_ret
                exact ⟨ret_bool HE.out.symm, B3.out.trans (B5.out.mono B3.out.size)⟩
          · have h1f : (p == l) = false := by simpa using h1
            have h1' : (p != l) = true := by simpa using h1
            have HE : Hid (coverOk xs l d = false) := by
              have : coverOk xs l d = false := HF.out (by rw [HCV2.out, h1f, Bool.false_and])
              exact Lib.hid this
            clear h1 HB
            first | (go_region_with (go_at_call 30; with_reducible refine Calls.mono (HA.out _) ?_; rintro e w4 ⟨rfl, hb4⟩; have B4 := Lib.hid (BD.out.trans (hb4.mono BD.out.size)); clear hb4; have x0 := (X3.out.below B4.out).c0; have x1 := (X3.out.below B4.out).c1)) | fail
            all_goals
              go_wp2_with fail
              go_ret
              exact ⟨ret_bool HE.out.symm, B3.out.trans (B4.out.mono B3.out.size)⟩
        · obtain rfl : k = s0.size := by omega
          have HE := Lib.hid (HTR.out HCT.out)
          go_wp2_with fail
          go_ret
          exact ⟨ret_bool HE.out.symm, BB.out⟩
end Go.Proofs.Ytlbblfbiiceofaa
