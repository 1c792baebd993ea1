/- The walk of FnRulesIn: true at every code. No condition. -/
import Derived.Test.YtpcependeealfaaDrawT2
import Derived.Test.YtpcependeealfaaRulesIn
namespace Go.Proofs.Ytpcependeealfaa
open Go.RowKit

theorem aliveT_any (w : World) : Calls Try.prog 23 #[] w fun e w' => e = .returned (.bool true) ∧ w = w' := by
  have h1 : wordOk ⟨#[114, 100, 110]⟩ = true := by decide +kernel
  have h2 : wordOk ⟨#[120]⟩ = false := by decide +kernel
  go_enter Try.func23, Try.ntmps23
  go_wp2_with (go_at_call 45; refine (implWordOk_any _ _ (by decide)).mono ?_; rintro e w' ⟨rfl, rfl⟩)
  go_ret
  exact ⟨rfl, rfl⟩
theorem rowT_len {w : World} {a : Option Addr} {len cap : Nat} {zs : List Int} (h : IsRow .u8 w a len cap zs) : len ≤ 9223372036854775807 := by
  rcases h with ⟨_, rfl, _⟩ | ⟨x, _, h1, h2, _⟩
  · exact Nat.zero_le _
  · exact Nat.le_trans h1 h2

/-- what drawing a term returns -/
def TermRes (w : World) (e : Ending) (w' : World) : Prop :=
  ∃ (ms : List Mk) (v : Value), e = .returned v ∧ ms.length ≤ 10 ∧ (∀ m ∈ ms, m.wf) ∧ IsMarks w' v ms ∧ Below w.heap.size w w'
theorem TermDrawn.res {B R : Nat} {a : Option Addr} {len cap k : Nat} {w0 w : World} {e : Ending} {w' : World} (h : TermDrawn B R a len cap k w e w') (hb : Below w0.heap.size w0 w) (hB : w0.heap.size ≤ R) : TermRes w0 e w' := by
  obtain ⟨ms, v, k', he, h1, h2, _, _, hO⟩ := h
  exact ⟨ms, v, he, h1, h2, IsMarks.of_owns (hO.row 0 (by simp) rfl), hb.trans (hO.keep.below hB hb.size)⟩

theorem drawTermOk_any (a : Option Addr) (len cap : Nat) (zs : List Int) (w : World) (h : IsRow .u8 w a len cap zs) :
    Calls Try.prog 28 #[.slice a len cap] w (TermRes w) := by
  have HO := Lib.hid (l20Open_any a len cap zs w h)
  clear h
  go_enter Try.func28, Try.ntmps28
  go_wp2_with fail
  refine HO.out.mono ?_
  clear HO
  rintro e w1 ⟨a1, len1, cap1, rfl, hR, hb⟩
  go_wp2_with fail
  refine (l20Term_any _ _ _ _ _ 0 2 _ hR (by omega) (by omega) (by omega)).mono ?_
  intro e w2 hT
  obtain ⟨ms, v, rfl, h1, h2, h3, h4⟩ := hT.res hb (Nat.le_refl _)
  go_wp2_with fail
  go_ret
  exact ⟨ms, v, rfl, h1, h2, h3, h4⟩
theorem drawRulesIn_any (a : Option Addr) (len cap : Nat) (zs : List Int) (w : World) (h : IsRow .u8 w a len cap zs) :
    Calls Try.prog 31 #[.slice a len cap] w (TermRes w) := by
  have HO := Lib.hid (l20Open_any a len cap zs w h)
  clear h
  go_enter Try.func31, Try.ntmps31
  go_wp2_with fail
  refine HO.out.mono ?_
  clear HO
  rintro e w1 ⟨a1, len1, cap1, rfl, hR, hb⟩
  go_wp2_with fail
  refine (l20Term_any _ _ _ _ _ 0 9 _ hR (by omega) (by omega) (by omega)).mono ?_
  intro e w2 hT
  obtain ⟨ms, v, rfl, h1, h2, h3, h4⟩ := hT.res hb (Nat.le_refl _)
  go_wp2_with fail
  go_ret
  exact ⟨ms, v, rfl, h1, h2, h3, h4⟩

/-- how many of the first marks are nots -/
def cntN (ms : List Mk) (k : Nat) : Int := ((ms.take k).countP fun m => m.kind == 3 : Nat)
theorem cntN_zero (ms : List Mk) : cntN ms 0 = 0 := by simp [cntN]
theorem cntN_bd (ms : List Mk) (k : Nat) : 0 ≤ cntN ms k ∧ cntN ms k ≤ k := by
  have h1 := List.countP_le_length (p := fun m : Mk => m.kind == 3) (l := ms.take k)
  rw [List.length_take] at h1
  unfold cntN
  omega
theorem cntN_yes {ms : List Mk} {k : Nat} (h : k < ms.length) (hk : ms[k].kind = 3) : cntN ms (k + 1) = cntN ms k + 1 := by
  rw [cntN, take_succ' h, List.countP_append]
  simp [cntN, hk]
theorem cntN_no {ms : List Mk} {k : Nat} (h : k < ms.length) (hk : ms[k].kind ≠ 3) : cntN ms (k + 1) = cntN ms k := by
  rw [cntN, take_succ' h, List.countP_append]
  simp [cntN, hk]
/-- a tree has one rule more than marks that put two together -/
theorem tree_count (T : Tm) : 1 ≤ T.post.countP (fun m => m.kind == 0) ∧ T.post.countP (fun m => m.kind == 0) + T.post.countP (fun m => m.kind == 3) + T.post.countP (fun m => m.kind == 0) = T.post.length + 1 := by
  induction T with
  | rule r => exact ⟨Nat.le_refl _, rfl⟩
  | not a ih =>
    have e0 : [markOf 3].countP (fun m => m.kind == 0) = 0 := rfl
    have e3 : [markOf 3].countP (fun m => m.kind == 3) = 1 := rfl
    simp only [Tm.post, List.countP_append, List.length_append, List.length_singleton, e0, e3]
    omega
  | two o a b iha ihb =>
    cases o
    · have e0 : [markOf 1].countP (fun m => m.kind == 0) = 0 := rfl
      have e3 : [markOf 1].countP (fun m => m.kind == 3) = 0 := rfl
      have e : (Tm.two false a b).post = a.post ++ b.post ++ [markOf 1] := rfl
      rw [e]
      simp only [List.countP_append, List.length_append, List.length_singleton, e0, e3]
      omega
    · have e0 : [markOf 2].countP (fun m => m.kind == 0) = 0 := rfl
      have e3 : [markOf 2].countP (fun m => m.kind == 3) = 0 := rfl
      have e : (Tm.two true a b).post = a.post ++ b.post ++ [markOf 2] := rfl
      rw [e]
      simp only [List.countP_append, List.length_append, List.length_singleton, e0, e3]
      omega
theorem term_count {ms : List Mk} (h : termOk ms = true) : 1 ≤ rulesIn ms ∧ rulesIn ms + cntN ms ms.length + rulesIn ms - 1 = ms.length ∧ rulesIn ms ≤ ms.length := by
  obtain ⟨T, _, hp, _⟩ := tree_of h
  have hc := tree_count T
  have hb := cntR_bd ms ms.length
  rw [hp] at hc
  rw [rulesIn, if_pos h]
  have h1 : cntR ms ms.length = ((ms.countP fun m => m.kind == 0 : Nat) : Int) := by rw [cntR, List.take_length]
  have h2 : cntN ms ms.length = ((ms.countP fun m => m.kind == 3 : Nat) : Int) := by rw [cntN, List.take_length]
  rw [h1] at hb ⊢
  rw [h2]
  omega

set_option maxHeartbeats 3200000 in
theorem lawRulesIn_walk {w : World} (a : Option Addr) (len cap : Nat) (zs : List Int) (h : IsRow .u8 w a len cap zs) :
    Calls Try.prog 5 #[.slice a len cap] w fun e w' => e = .returned (.bool true) ∧ Below w.heap.size w w' := by
  have HD := Lib.hid (drawRulesIn_any a len cap zs w h)
  have hl := rowT_len h
  clear h
  by_cases hbig : 1048576 < len
  · go_enter Try.func5, Try.ntmps5
    go_wp2_with fail
    go_ret
    exact ⟨rfl, Below.refl _ _⟩
  · go_enter Try.func5, Try.ntmps5
    go_wp2_with fail
    refine HD.out.mono ?_
    clear HD
    rintro e w1 ⟨ms, v, rfl, hml, hwf, hM, hb1⟩
    have HWF := Lib.hid hwf
    have M1 := Lib.hid hM
    have B1 := Lib.hid hb1
    obtain ⟨va, vc, rfl, -, -, -⟩ := hM
    clear hwf hb1
    go_wp2_with fail
    refine (implRulesIn_any ms HWF.out _ _ M1.out).mono ?_
    rintro e w2 ⟨rfl, hb2⟩
    have M2 := Lib.hid (M1.out.below hb2)
    have B2 := Lib.hid (B1.out.trans (hb2.mono B1.out.size))
    clear hb2
    go_wp2_with fail
    refine (specRulesIn_any ms _ _ M2.out (by omega)).mono ?_
    rintro e w3 ⟨rfl, hb3⟩
    have M3 := Lib.hid (M2.out.below hb3)
    have B3 := Lib.hid (B2.out.trans (hb3.mono B2.out.size))
    clear hb3
    by_cases hok : termOk ms = true
    · obtain ⟨t1, t2, t3⟩ := term_count hok
      have HT2 := Lib.hid t2
      have hn0 : ¬ rulesIn ms < 0 := by omega
      have hn1 : rulesIn ms ≤ 10 := by omega
      generalize rulesIn ms = n at *
      clear hok t2 t3
      go_wp2_with fail
      go_loopw [5, 6] (fun c i wr => ∃ k : Nat, k ≤ ms.length ∧ i = .int .i64 k ∧ c = .int .i64 (cntN ms k) ∧ wr = w3) (fun _ i _ => ms.length - (intOf i).toNat)
      case atStart => exact ⟨0, Nat.zero_le _, rfl, by rw [cntN_zero], rfl⟩
      case round =>
        obtain ⟨k, hk, rfl, rfl, rfl⟩ := hrel
        have hcb := cntN_bd ms k
        by_cases hlt : k < ms.length
        · obtain ⟨a', c', e1, -, -, hr⟩ := M3.out
          simp only [Value.slice.injEq, true_and] at e1
          obtain ⟨rfl, rfl⟩ := e1
          obtain ⟨g, off, rfl, hg, hc⟩ := hr.resolve_left (fun h => by rw [h] at hlt; exact absurd hlt (Nat.not_lt_zero k))
          obtain ⟨c0, -, -, -, -⟩ := hc k hlt
          by_cases h3 : ms[k].kind = 3
          · have HS := Lib.hid (cntN_yes hlt h3)
            rw [h3] at c0
            clear h3 hc
            generalize cntN ms k = c at *
            go_wp2_with fail
            go_roundw
            case rel => exact ⟨k + 1, by omega, by go_num, by rw [HS.out], by first | rfl | trivial⟩
            case measure => simp [intOf]; omega
          · have HS := Lib.hid (cntN_no hlt h3)
            have h3b : (ms[k].kind == 3) = false := by simpa using h3
            generalize ms[k].kind = kk at *
            clear h3 hc
            generalize cntN ms k = c at *
            go_wp2_with fail
            go_roundw
            case rel => exact ⟨k + 1, by omega, by go_num, by rw [HS.out], by first | rfl | trivial⟩
            case measure => simp [intOf]; omega
        · obtain rfl : k = ms.length := by omega
          have HF : Hid (n + cntN ms ms.length + n - 1 = (ms.length : Int)) := HT2
          have hfin := HF.out
          generalize cntN ms ms.length = c at *
          have hw1 : IntKind.i64.wrap (n + c) = n + c := IntWalk.i64_in _ (by omega)
          have hw2 : IntKind.i64.wrap (n + c + n) = n + c + n := IntWalk.i64_in _ (by omega)
          have hw3 : IntKind.i64.wrap (n + c + n - 1) = n + c + n - 1 := IntWalk.i64_in _ (by omega)
          go_wp2_with fail
          go_ret
          exact ⟨rfl, B3.out⟩
    · have hokf : termOk ms = false := by simpa using hok
      have hn : rulesIn ms = -1 := by rw [rulesIn, hokf]; rfl
      have HTO := Lib.hid (fun W h => implTermOk_any ms HWF.out (.slice va ms.length vc) W h)
      rw [hokf] at HTO
      rw [hn]
      clear hok hokf hn
      go_wp2_with (first | (go_at_call 29; refine (HTO.out _ M3.out).mono ?_; rintro e w4 ⟨rfl, hb4⟩; have B4 := Lib.hid (B3.out.trans (hb4.mono B3.out.size)); clear hb4) | (go_at_call 23; refine (aliveT_any _).mono ?_; rintro e w' ⟨rfl, rfl⟩))
      go_ret
      exact ⟨rfl, B4.out⟩
end Go.Proofs.Ytpcependeealfaa
