/- FairerSwap of the program: what it returns, for every argument. No condition. -/
import Derived.Test.YtggohgkjdnnndaaSwapF
import Derived.Deep.RegionWith
namespace Go.Proofs.Ytggohgkjdnnndaa
open Go.RowKit

/-- the first day and pair of which a test holds -/
def IsF3 (P : Nat → Nat → Nat → Bool) (D n : Nat) : Option (Nat × Nat × Nat) → Prop
  | none => ∀ d a b, d < D → a < n → b < n → P d a b = false
  | some (d, a, b) => d < D ∧ a < n ∧ b < n ∧ P d a b = true ∧ ∀ d' a' b', d' < D → a' < n → b' < n → (d' < d ∨ d' = d ∧ (a' < a ∨ a' = a ∧ b' < b)) → P d' a' b' = false
theorem IsF3.one {P : Nat → Nat → Nat → Bool} {D n : Nat} {r q : Option (Nat × Nat × Nat)} (h : IsF3 P D n r) (g : IsF3 P D n q) : r = q := by
  rcases r with _ | ⟨x, a, b⟩ <;> rcases q with _ | ⟨y, c, d⟩
  · rfl
  · obtain ⟨g0, g1, g2, g3, -⟩ := g
    rw [h y c d g0 g1 g2] at g3; cases g3
  · obtain ⟨h0, h1, h2, h3, -⟩ := h
    rw [g x a b h0 h1 h2] at h3; cases h3
  · obtain ⟨h0, h1, h2, h3, h4⟩ := h
    obtain ⟨g0, g1, g2, g3, g4⟩ := g
    by_cases e1 : y < x ∨ y = x ∧ (c < a ∨ c = a ∧ d < b)
    · rw [h4 y c d g0 g1 g2 e1] at g3; cases g3
    · by_cases e2 : x < y ∨ x = y ∧ (a < c ∨ a = c ∧ b < d)
      · rw [g4 x a b h0 h1 h2 e2] at h3; cases h3
      · have e3 : x = y := by omega
        have e4 : a = c := by omega
        have e5 : b = d := by omega
        subst e3 e4 e5; rfl
def fsP (xs : List ByteArray) (t : ByteArray) (d a b : Nat) : Bool := faP (dayStr xs d) (byteAt t 0) (loadRow xs t) a b
def fsD (xs : List ByteArray) (t : ByteArray) : Nat := if (rosterOk xs && letterOk t) = true then daysOf xs else 0
def fsV : Option (Nat × Nat × Nat) → Value
  | none => .tuple #[.int .i64 (-1), .int .i64 (-1), .int .i64 (-1), .bool false]
  | some (d, a, b) => .tuple #[.int .i64 (d : Int), .int .i64 (a : Int), .int .i64 (b : Int), .bool true]
def FairP (xs : List ByteArray) (t : ByteArray) (w : World) (e : Ending) (w' : World) : Prop := (∃ r, IsF3 (fsP xs t) (fsD xs t) xs.length r ∧ e = .returned (fsV r)) ∧ Below w.heap.size w w'
theorem FairP.no {xs : List ByteArray} {t : ByteArray} {w w' : World} (h : (rosterOk xs && letterOk t) = false) (hb : Below w.heap.size w w') : FairP xs t w (.returned (.tuple #[.int .i64 (-1), .int .i64 (-1), .int .i64 (-1), .bool false])) w' := by
  refine ⟨⟨none, fun d a b hd => ?_, rfl⟩, hb⟩
  rw [fsD, h] at hd
  exact absurd hd (Nat.not_lt_zero d)
theorem fsD_yes {xs : List ByteArray} {t : ByteArray} (h : rosterOk xs = true) (g : letterOk t = true) : fsD xs t = daysOf xs := by simp [fsD, h, g]
theorem results_tmp4 {fn : Func} {t u v x : Tmp} (h : fn.results = #[.tmp t, .tmp u, .tmp v, .tmp x]) (tmps : Array Value) (P : Program) (w : World) :
    (results fn tmps).run P w = .ok (.tuple #[tmps.getD t undef, tmps.getD u undef, tmps.getD v undef, tmps.getD x undef]) w := by
  simp [results, h]

set_option maxHeartbeats 6400000 in
theorem implFairer_any (v : Value) (xs : List ByteArray) (hx : Short xs) (t : ByteArray) (ht : t.size ≤ maxLen) (w : World) (h : IsStrs w v xs) :
    Calls Try.prog 32 #[v, .string t] w (FairP xs t w) := by
  have HR := Lib.hid (implRosterOk_any v xs hx w h)
  have HL := Lib.hid (fun W => implLetterOk_any t W ht)
  have HI := Lib.hid h
  have HLO := Lib.hid (fun W hI => implLoads_any v xs hx t ht W hI)
  have HDX := Lib.hid (fun d W hI => implDayOf_any v xs hx d W hI)
  obtain ⟨a, c, rfl, hc1, hm1⟩ := h.form
  cases hr : rosterOk xs with
  | false =>
    rw [hr] at HR
    have HN : Hid (∀ w', Below w.heap.size w w' → FairP xs t w (.returned (.tuple #[.int .i64 (-1), .int .i64 (-1), .int .i64 (-1), .bool false])) w') := Lib.hid (fun w' hb => FairP.no (by rw [hr]; rfl) hb)
    clear h hx ht hr
    go_enter Try.func32, Try.ntmps32
    go_wp2_with fail
    refine HR.out.mono ?_
    rintro e w1 ⟨rfl, hb1⟩
    go_wp2_with fail
    (try simp only [Exit.inBlock, Exit.then])
    refine bodyPost_ret (results_tmp4 rfl _ _ _) rfl ?_
    exact HN.out _ hb1
  | true =>
    rw [hr] at HR
    cases hl : letterOk t with
    | false =>
      rw [hl] at HL
      have HN : Hid (∀ w', Below w.heap.size w w' → FairP xs t w (.returned (.tuple #[.int .i64 (-1), .int .i64 (-1), .int .i64 (-1), .bool false])) w') := Lib.hid (fun w' hb => FairP.no (by rw [hl, Bool.and_false]) hb)
      clear h hx ht hr hl
      go_enter Try.func32, Try.ntmps32
      go_wp2_with fail
      refine HR.out.mono ?_
      rintro e w1 ⟨rfl, hb1⟩
      go_wp2_with fail
      refine (HL.out w1).mono ?_
      rintro e w' ⟨rfl, rfl⟩
      go_wp2_with fail
      (try simp only [Exit.inBlock, Exit.then])
      refine bodyPost_ret (results_tmp4 rfl _ _ _) rfl ?_
      exact HN.out _ hb1
    | true =>
      rw [hl] at HL
      have HE := Lib.hid (loadsFor_yes hr hl)
      have HDE := Lib.hid (fsD_yes hr hl)
      rw [loadsFor_yes hr hl] at HLO
      have h10 := (rosterOk_iff.1 hr).1
      have h14 := (rosterOk_iff.1 hr).2.1
      have h12 := (rosterOk_iff.1 hr).2.2.1
      have HRR := Lib.hid hr
      have hsz : t.size = 1 := by
        simp only [letterOk, Bool.and_eq_true, decide_eq_true_eq] at hl
        exact hl.1
      have ht0 : (0 : Int) < (t.size : Int) := by omega
      have ht0n : 0 < t.size := by omega
      have HBY := Lib.hid (byteAt_eq t 0 ht0n)
      have HLB := Lib.hid (loadRow_bd hr hl)
      have HLL := Lib.hid (loadRow_length xs t)
      have k1 : 0 < xs.length := h10
      obtain ⟨g, o, rfl, hg, hd⟩ := h.at k1
      have hs0 := daysOf_get (xs := xs) k1
      have e0 := hd 0 k1
      have HC0 := Lib.hid (fun W (hb : Below w.heap.size w W) => (hb.cell (p := ⟨g, o, none⟩) hg).trans e0)
      have HS0 := Lib.hid hs0
      have h012 : xs[0].size ≤ 12 := by omega
      clear h hx ht hr hl hg hd hs0 e0 h12 hsz
      generalize xs[0] = s0 at *
      go_enter Try.func32, Try.ntmps32
      go_wp2_with fail
      refine HR.out.mono ?_
      rintro e w1 ⟨rfl, hb1⟩
      have B1 := Lib.hid hb1
      clear hb1
      go_wp2_with fail
      refine (HL.out w1).mono ?_
      rintro e w' ⟨rfl, rfl⟩
      go_wp2_with fail
      refine (HLO.out _ (HI.out.below B1.out)).mono ?_
      rintro e w2 ⟨vl, rfl, ho, hb2⟩
      have B2 := Lib.hid (B1.out.trans (hb2.mono B1.out.size))
      have J2 := Lib.hid (IsInts.of_owns ho)
      obtain ⟨al, nl, cl, rfl⟩ : ∃ a n c, vl = .slice a n c := by obtain ⟨a, cap, rfl, -⟩ := IsInts.of_owns ho; exact ⟨a, _, cap, rfl⟩
      have c0 := HC0.out _ B2.out
      clear ho hb2
      go_wp2_with fail
      clear c0
      go_loopw [28] (fun iv wr => ∃ (k : Nat), k ≤ s0.size ∧ iv = .int .i64 (k : Int) ∧ Hid (∀ d a b, d < k → a < xs.length → b < xs.length → fsP xs t d a b = false) ∧ Hid (Below w2.heap.size w2 wr)) (fun iv _ => s0.size - (intOf iv).toNat)
      case atStart => exact ⟨0, Nat.zero_le _, rfl, Lib.hid (fun d a b hd => absurd hd (Nat.not_lt_zero d)), Lib.hid (Below.refl _ _)⟩
      case round =>
        obtain ⟨k, hk, rfl, HK, HB⟩ := hrel
        by_cases hlt : k < s0.size
        · have hki : (k : Int) < (s0.size : Int) := by omega
          have hkx : k < daysOf xs := by have := HS0.out; omega
          have KX := Lib.hid (fun W hI => HDX.out (k : Int) W hI)
          rw [dayOf_yes HRR.out hkx] at KX
          obtain ⟨r, hr⟩ := isF2_ex (faP (dayStr xs k) (byteAt t 0) (loadRow xs t)) (dayStr xs k).size
          have HF := Lib.hid (fun W hI => fairerOn_at (dayStr xs k) t[0] (.slice al nl cl) (loadRow xs t) W hI (by rw [HLL.out, dayStr_size]) (by rw [dayStr_size]; exact h14) (by rw [HLL.out]; exact k1) HLB.out r (by rw [HBY.out]; exact hr))
          have HRR2 := Lib.hid hr
          rw [dayStr_size] at HRR2
          have BD := Lib.hid (HB.out.trans (((Below.refl wr.heap.size wr).drew).mono HB.out.size))
          have ID := Lib.hid (HI.out.below (B2.out.trans (BD.out.mono B2.out.size)))
          clear hr
          rcases r with _ | ⟨ra, rb⟩
          · simp only [faV] at HF
            have HN : Hid (∀ d a b, d < k + 1 → a < xs.length → b < xs.length → fsP xs t d a b = false) := by
              have : ∀ d a b, d < k + 1 → a < xs.length → b < xs.length → fsP xs t d a b = false := fun d a b hd ha hb => by
                by_cases e : d = k
                · rw [e]; exact HRR2.out a b ha hb
                · exact HK.out d a b (by omega) ha hb
              exact Lib.hid this
            go_wp2_with fail
            go_region_held3 (fun _ => True) (exact True.intro) (first | (go_at_call 19; with_reducible refine Calls.mono (KX.out _ ID.out) ?_; rintro e w3 ⟨rfl, hb3⟩; have B3 := Lib.hid (BD.out.trans (hb3.mono BD.out.size)); clear hb3) | (go_at_call 70; with_reducible refine Calls.mono (HF.out _ (J2.out.below B3.out)) ?_; rintro e w4 ⟨rfl, hb4⟩; have B4 := Lib.hid (B3.out.trans (hb4.mono B3.out.size)); clear hb4))
            all_goals
              go_wp2_with fail
              go_roundw
              case rel => exact ⟨k + 1, by omega, by go_num, HN, B4⟩
              case measure => simp [intOf]; omega
          · simp only [faV] at HF
            have HN : Hid (IsF3 (fsP xs t) (fsD xs t) xs.length (some (k, ra, rb))) := by
              have : IsF3 (fsP xs t) (fsD xs t) xs.length (some (k, ra, rb)) := by
                obtain ⟨h1, h2, h3, h4⟩ := HRR2.out
                refine ⟨by rw [HDE.out]; exact hkx, h1, h2, h3, fun d' a' b' hd ha hb hor => ?_⟩
                rcases hor with h5 | ⟨rfl, h5⟩
                · exact HK.out d' a' b' h5 ha hb
                · exact h4 a' b' ha hb h5
              exact Lib.hid this
            go_wp2_with fail
            go_region_held3 (fun _ => True) (exact True.intro) (first | (go_at_call 19; with_reducible refine Calls.mono (KX.out _ ID.out) ?_; rintro e w3 ⟨rfl, hb3⟩; have B3 := Lib.hid (BD.out.trans (hb3.mono BD.out.size)); clear hb3) | (go_at_call 70; with_reducible refine Calls.mono (HF.out _ (J2.out.below B3.out)) ?_; rintro e w4 ⟨rfl, hb4⟩; have B4 := Lib.hid (B3.out.trans (hb4.mono B3.out.size)); clear hb4))
            all_goals
              go_wp2_with fail
              (try simp only [Exit.inBlock, Exit.then])
              refine bodyPost_ret (results_tmp4 rfl _ _ _) rfl ?_
              exact ⟨⟨_, HN.out, rfl⟩, B2.out.trans (B4.out.mono B2.out.size)⟩
        · obtain rfl : k = s0.size := by omega
          have HN : Hid (IsF3 (fsP xs t) (fsD xs t) xs.length none) := by
            have : IsF3 (fsP xs t) (fsD xs t) xs.length none := fun d a b hd ha hb => HK.out d a b (by rw [HDE.out, HS0.out] at hd; exact hd) ha hb
            exact Lib.hid this
          go_wp2_with fail
          (try simp only [Exit.inBlock, Exit.then])
          refine bodyPost_ret (results_tmp4 rfl _ _ _) rfl ?_
          exact ⟨⟨_, HN.out, rfl⟩, B2.out.trans (HB.out.mono B2.out.size)⟩
end Go.Proofs.Ytggohgkjdnnndaa
