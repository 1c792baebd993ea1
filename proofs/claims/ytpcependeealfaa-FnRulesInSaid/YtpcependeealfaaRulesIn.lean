/- RulesIn of the program and of the model: what each returns, for every row of marks. No condition. -/
import Derived.Test.YtpcependeealfaaTermI
namespace Go.Proofs.Ytpcependeealfaa
open Go.RowKit

/-- how many of the first marks are rules -/
def cntR (ms : List Mk) (k : Nat) : Int := ((ms.take k).countP fun m => m.kind == 0 : Nat)
theorem cntR_zero (ms : List Mk) : cntR ms 0 = 0 := by simp [cntR]
theorem cntR_bd (ms : List Mk) (k : Nat) : 0 ≤ cntR ms k ∧ cntR ms k ≤ k := by
  have h1 := List.countP_le_length (p := fun m : Mk => m.kind == 0) (l := ms.take k)
  rw [List.length_take] at h1
  unfold cntR
  omega
theorem cntR_yes {ms : List Mk} {k : Nat} (h : k < ms.length) (hk : ms[k].kind = 0) : cntR ms (k + 1) = cntR ms k + 1 := by
  rw [cntR, take_succ' h, List.countP_append]
  simp [cntR, hk]
theorem cntR_no {ms : List Mk} {k : Nat} (h : k < ms.length) (hk : ms[k].kind ≠ 0) : cntR ms (k + 1) = cntR ms k := by
  rw [cntR, take_succ' h, List.countP_append]
  simp [cntR, hk]
/-- RulesIn -/
def rulesIn (ms : List Mk) : Int := if termOk ms = true then cntR ms ms.length else -1

theorem ruClosure_any (i k a : Int) (b c : ByteArray) (d : Int) (w : World) :
    Calls Try.prog 75 #[.int .i64 i, .agg #[.int .i64 k, .int .i64 a, .string b, .string c, .int .i64 d]] w fun e w' => e = .returned (.bool (k == 0)) ∧ Below w.heap.size w w' := by
  go_enter Try.func75, Try.ntmps75
  go_wp2
  go_ret
  exact ⟨rfl, Go.Joins.below_alloc1 _ _⟩

set_option maxHeartbeats 1600000 in
theorem countMarks_any (ms : List Mk) (v : Value) (w : World) (h : IsMarks w v ms) :
    Calls Try.prog 74 #[v, .func (.func 75) #[] #[]] w
      fun e w' => e = .returned (.int .i64 (cntR ms ms.length)) ∧ Below w.heap.size w w' := by
  obtain ⟨a, cap, rfl, ha1, ha2, ha⟩ := h
  have HA := Lib.hid ha
  unfold maxLen at ha2
  clear ha
  go_enter Try.func74, Try.ntmps74
  go_wp2_with fail
  go_loopw [5, 10] (fun l i wr => ∃ (k : Nat), k ≤ ms.length ∧ i = .int .i64 k ∧ l = .int .i64 (cntR ms k) ∧ Below w.heap.size w wr) (fun _ i _ => ms.length - (intOf i).toNat)
  case atStart => exact ⟨0, Nat.zero_le _, rfl, by rw [cntR_zero], Below.refl _ _⟩
  case round =>
    obtain ⟨k, hk, rfl, rfl, hbel⟩ := hrel
    have hbd := cntR_bd ms k
    by_cases hlt : k < ms.length
    · obtain ⟨g, off, rfl, hg, hc⟩ := HA.out.resolve_left (fun h => by rw [h] at hlt; exact absurd hlt (Nat.not_lt_zero k))
      obtain ⟨c0, c1, c2, c3, c4⟩ := (hc k hlt).below hbel hg
      have HY := Lib.hid (cntR_yes hlt)
      have HN := Lib.hid (cntR_no hlt)
      have BB := Lib.hid hbel
      clear hc hbel
      generalize ms[k] = m at *
      obtain ⟨k1, r1, l1, t1, n1⟩ := m
      have HU2 := Lib.hid (fun W => ruClosure_any k k1 r1 l1 t1 n1 W)
      simp only at c0 c1 c2 c3 c4
      go_wp2_with fail
      refine (HU2.out _).mono ?_
      rintro e w2 ⟨rfl, hb2⟩
      have B2 := Lib.hid (BB.out.trans (((Below.refl wr.heap.size wr).alloc (Nat.le_refl _) _).trans (hb2.mono (by simp)) |>.mono BB.out.size))
      clear hb2 c0 c1 c2 c3 c4
      by_cases h0 : k1 = 0
      · have hs := HY.out h0
        have hb : (k1 == 0) = true := by simpa using h0
        rw [hb]
        clear hb h0 HN HY
        have HS := Lib.hid hs
        clear hs
        generalize cntR ms k = x at *
        go_wp2_with fail
        go_roundw
        case rel => exact ⟨k + 1, by omega, by go_num, by rw [HS.out], B2.out⟩
        case measure => simp [intOf]; omega
      · have hs := HN.out h0
        have hb : (k1 == 0) = false := by simpa using h0
        rw [hb]
        clear hb h0 HN HY
        have HS := Lib.hid hs
        clear hs
        generalize cntR ms k = x at *
        go_wp2_with fail
        go_roundw
        case rel => exact ⟨k + 1, by omega, by go_num, by rw [HS.out], B2.out⟩
        case measure => simp [intOf]; omega
    · obtain rfl : k = ms.length := by omega
      go_wp2_with fail
      go_ret
      exact ⟨rfl, hbel⟩

theorem implRulesIn_any (ms : List Mk) (hwf : ∀ m ∈ ms, m.wf) (v : Value) (w : World) (h : IsMarks w v ms) :
    Calls Try.prog 32 #[v] w fun e w' => e = .returned (.int .i64 (rulesIn ms)) ∧ Below w.heap.size w w' := by
  have HM := Lib.hid h
  obtain ⟨a, cap, rfl, -, -, -⟩ := h
  have HT := Lib.hid (implTermOk_any ms hwf _ w HM.out)
  by_cases hok : termOk ms = true
  · have HE : Hid (rulesIn ms = cntR ms ms.length) := Lib.hid (by rw [rulesIn, if_pos hok])
    rw [hok] at HT
    clear hok
    go_enter Try.func32, Try.ntmps32
    go_wp2_with fail
    refine HT.out.mono ?_
    rintro e w1 ⟨rfl, hb1⟩
    have B1 := Lib.hid hb1
    clear hb1
    go_wp2_with fail
    refine (countMarks_any ms _ w1 (HM.out.below B1.out)).mono ?_
    rintro e w2 ⟨rfl, hb2⟩
    have B2 := Lib.hid (B1.out.trans (hb2.mono B1.out.size))
    go_wp2_with fail
    go_ret
    exact ⟨ret_int HE.out.symm, B2.out⟩
  · have hok' : termOk ms = false := by simpa using hok
    have HE : Hid (rulesIn ms = -1) := Lib.hid (by rw [rulesIn, if_neg hok])
    rw [hok'] at HT
    clear hok hok'
    go_enter Try.func32, Try.ntmps32
    go_wp2_with fail
    refine HT.out.mono ?_
    rintro e w1 ⟨rfl, hb1⟩
    have B1 := Lib.hid hb1
    clear hb1
    go_wp2_with fail
    go_ret
    exact ⟨ret_int HE.out.symm, B1.out⟩

set_option maxHeartbeats 1600000 in
theorem specRulesIn_any (ms : List Mk) (v : Value) (w : World) (h : IsMarks w v ms) (hx : ms.length ≤ 1048576) :
    Calls Try.prog 33 #[v] w fun e w' => e = .returned (.int .i64 (rulesIn ms)) ∧ Below w.heap.size w w' := by
  have HM := Lib.hid h
  obtain ⟨a, cap, rfl, ha1, ha2, ha⟩ := h
  have HA := Lib.hid ha
  unfold maxLen at ha2
  clear ha
  have HT := Lib.hid (specTermOk_any ms _ w HM.out hx)
  by_cases hok : termOk ms = true
  · have HE : Hid (rulesIn ms = cntR ms ms.length) := Lib.hid (by rw [rulesIn, if_pos hok])
    rw [hok] at HT
    clear hok
    go_enter Try.func33, Try.ntmps33
    go_wp2_with fail
    refine HT.out.mono ?_
    rintro e w1 ⟨rfl, hb1⟩
    have B1 := Lib.hid hb1
    clear hb1
    go_wp2_with fail
    go_loopw [3, 4] (fun l i wr => ∃ (k : Nat), k ≤ ms.length ∧ i = .int .i64 k ∧ l = .int .i64 (cntR ms k) ∧ Below w.heap.size w wr) (fun _ i _ => ms.length - (intOf i).toNat)
    case atStart => exact ⟨0, Nat.zero_le _, rfl, by rw [cntR_zero], B1.out⟩
    case round =>
      obtain ⟨k, hk, rfl, rfl, hbel⟩ := hrel
      have hbd := cntR_bd ms k
      by_cases hlt : k < ms.length
      · obtain ⟨g, off, rfl, hg, hc⟩ := HA.out.resolve_left (fun h => by rw [h] at hlt; exact absurd hlt (Nat.not_lt_zero k))
        obtain ⟨c0, c1, c2, c3, c4⟩ := (hc k hlt).below hbel hg
        have HY := Lib.hid (cntR_yes hlt)
        have HN := Lib.hid (cntR_no hlt)
        have BB := Lib.hid hbel
        clear hc hbel
        generalize ms[k] = m at *
        obtain ⟨k1, r1, l1, t1, n1⟩ := m
        simp only at c0 c1 c2 c3 c4
        by_cases h0 : k1 = 0
        · have hs := HY.out h0
          subst h0
          have HS := Lib.hid hs
          clear hs HN HY
          generalize cntR ms k = x at *
          go_wp2_with fail
          go_roundw
          case rel => exact ⟨k + 1, by omega, by go_num, by rw [HS.out], BB.out⟩
          case measure => simp [intOf]; omega
        · have hs := HN.out h0
          have hb : (k1 == 0) = false := by simpa using h0
          have HS := Lib.hid hs
          clear h0 HN HY hs
          generalize cntR ms k = x at *
          go_wp2_with fail
          go_roundw
          case rel => exact ⟨k + 1, by omega, by go_num, by rw [HS.out], BB.out⟩
          case measure => simp [intOf]; omega
      · obtain rfl : k = ms.length := by omega
        go_wp2_with fail
        go_ret
        exact ⟨ret_int HE.out.symm, hbel⟩
  · have hok' : termOk ms = false := by simpa using hok
    have HE : Hid (rulesIn ms = -1) := Lib.hid (by rw [rulesIn, if_neg hok])
    rw [hok'] at HT
    clear hok hok'
    go_enter Try.func33, Try.ntmps33
    go_wp2_with fail
    refine HT.out.mono ?_
    rintro e w1 ⟨rfl, hb1⟩
    have B1 := Lib.hid hb1
    clear hb1
    go_wp2_with fail
    go_ret
    exact ⟨ret_int HE.out.symm, B1.out⟩
end Go.Proofs.Ytpcependeealfaa
