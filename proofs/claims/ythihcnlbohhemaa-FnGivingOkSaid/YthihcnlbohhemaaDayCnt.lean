/- impl.CountGivings: what it returns, for every day. No condition. -/
import Derived.Test.YthihcnlbohhemaaDayGiv
import Derived.Deep.RegionWith
namespace Go.Proofs.Ythihcnlbohhemaa
open Go.RowKit

theorem sm_bd {n B : Nat} {f : Nat → Nat} (h : ∀ e, e < n → f e ≤ B) : sm n f ≤ n * B := by
  induction n with
  | zero => simp [sm]
  | succ n ih =>
    have := ih (fun e he => h e (by omega)); have := h n (by omega)
    simp only [sm]; rw [Nat.succ_mul]; omega
theorem cg_bd (n : Nat) : ∀ (cs : List Nat) (u : Nat), cg n cs u ≤ n ^ cs.length := by
  intro cs
  induction cs with
  | nil => intro u; simp [cg, givs]
  | cons c cs ih =>
    intro u
    rw [cg_cons, List.length_cons, Nat.pow_succ, Nat.mul_comm]
    refine sm_bd (fun p _ => ?_)
    split
    · exact ih _
    · exact Nat.zero_le _
/-- the givings by the first p of the people -/
def cgTo (n c : Nat) (cs : List Nat) (u p : Nat) : Nat := sm p (fun q => if c.testBit q && !u.testBit q then cg n cs (u ||| 2 ^ q) else 0)
theorem cgTo_all (n c : Nat) (cs : List Nat) (u : Nat) : cgTo n c cs u n = cg n (c :: cs) u := (cg_cons n c cs u).symm
theorem cgTo_yes {n c u p : Nat} {cs : List Nat} (h : (andn c u).testBit p = true) : cgTo n c cs u (p + 1) = cgTo n c cs u p + cg n cs (u ||| 2 ^ p) := by
  rw [andn_bit] at h
  simp only [cgTo, sm, h, if_true]
theorem cgTo_no {n c u p : Nat} {cs : List Nat} (h : (andn c u).testBit p = false) : cgTo n c cs u (p + 1) = cgTo n c cs u p := by
  rw [andn_bit] at h
  simp only [cgTo, sm, h, Bool.false_eq_true, if_false, Nat.add_zero]
theorem cgTo_bd {n c u p : Nat} {cs : List Nat} (hn : n ≤ 6) (hl : cs.length ≤ 5) (hp : p ≤ 6) : cgTo n c cs u p ≤ 46656 := by
  have h1 : cgTo n c cs u p ≤ p * n ^ cs.length := sm_bd (fun q _ => by
    split
    · exact cg_bd _ _ _
    · exact Nat.zero_le _)
  have h2 : n ^ cs.length ≤ 6 ^ 5 := Nat.le_trans (Nat.pow_le_pow_left hn _) (Nat.pow_le_pow_right (by omega) hl)
  have h3 : p * n ^ cs.length ≤ 6 * 6 ^ 5 := Nat.mul_le_mul hp h2
  omega
theorem cg_small {n u : Nat} {cs : List Nat} (hn : n ≤ 6) (hl : cs.length ≤ 5) : cg n cs u ≤ 46656 := by
  have h2 : n ^ cs.length ≤ 6 ^ 5 := Nat.le_trans (Nat.pow_le_pow_left hn _) (Nat.pow_le_pow_right (by omega) hl)
  have := cg_bd n cs u
  omega

set_option maxHeartbeats 1600000 in
theorem givingsFrom_any {n : Nat} {cs : List Nat} (G : Good n cs) (cv : Value) : ∀ (r k : Nat), k + r = cs.length → ∀ (u : Nat) (w : World), u < 64 → IsNats w cv cs →
    Calls Try.prog 105 #[.agg #[.int .i64 n, cv], .int .i64 k, .int .i64 u] w fun e w' => e = .returned (.int .i64 (cg n (cs.drop k) u)) ∧ Below w.heap.size w w' := by
  intro r
  induction r with
  | zero =>
    intro k hk u w hu h1
    have hk' : ((k : Int) == (cs.length : Int)) = true := by simp; omega
    have HS : Hid (cg n (cs.drop k) u = 1) := by
      have : cg n (cs.drop k) u = 1 := by rw [List.drop_eq_nil_of_le (by omega)]; rfl
      exact Lib.hid this
    have Q0 := Lib.hid ((Below.refl w.heap.size w).alloc (Nat.le_refl _) (.cells #[.int .i64 n, cv] 44))
    obtain ⟨a, cap, rfl, ha1, ha2, _⟩ := h1
    unfold maxLen at ha2
    have hl5 := G.l5
    clear hk
    go_enter Try.func105, Try.ntmps105
    go_wp2_with fail
    go_ret
    exact ⟨ret_int (by rw [HS.out]; rfl), Q0.out⟩
  | succ r ih =>
    intro k hk u w hu h1
    have hklt : k < cs.length := by omega
    have hk' : ((k : Int) == (cs.length : Int)) = false := by simp; omega
    have HD : Hid (cs.drop k = cs[k] :: cs.drop (k + 1)) := Lib.hid (List.drop_eq_getElem_cons hklt)
    have IH := Lib.hid (fun u w hu h => ih (k + 1) (by omega) u w hu h)
    have X0 := Lib.hid (DayBox.new (ppl := (n : Int)) 44 h1.ints)
    have Q0 := Lib.hid ((Below.refl w.heap.size w).alloc (Nat.le_refl _) (.cells #[.int .i64 n, cv] 44))
    have HG := Lib.hid G
    have hl5 := G.l5
    have hn6 := G.n6
    have hkw : IntKind.i64.wrap ((k : Int) + 1) = ((k + 1 : Nat) : Int) := by rw [IntWalk.i64_in _ (by omega)]; simp
    obtain ⟨a, cap, rfl, ha1, ha2, _⟩ := h1
    unfold maxLen at ha2
    clear ih hk G
    go_enter Try.func105, Try.ntmps105
    go_wp2_with fail
    go_loopw [7, 16] (fun m i wr => ∃ p : Nat, p ≤ n ∧ m = .int .i64 (cgTo n cs[k] (cs.drop (k + 1)) u p : Int) ∧ i = .int .i64 p ∧ DayBox w.heap.size n (.slice a cs.length cap) (cs.map Int.ofNat) wr ∧ Below w.heap.size w wr) (fun _ i _ => n - (intOf i).toNat)
    case atStart => exact ⟨0, Nat.zero_le _, rfl, rfl, X0.out, Q0.out⟩
    case round =>
      obtain ⟨p, hp, rfl, rfl, hX, hQ⟩ := hrel
      have X2 := Lib.hid hX
      have Q2 := Lib.hid hQ
      have x0 := hX.c0
      have x1 := hX.c1
      have XD := Lib.hid (X2.out.below (Below.refl _ wr).drew)
      have XN := Lib.hid XD.out.ints.nats
      clear hX hQ
      by_cases hlt : p < n
      · obtain ⟨ab, cb3, hsl, _, _, HA⟩ := X2.out.ints.nats
        simp only [Value.slice.injEq, true_and] at hsl
        obtain ⟨rfl, rfl⟩ := hsl
        obtain ⟨g2, off2, rfl, hg2, hc2⟩ := HA.resolve_left (fun h => by rw [h] at hklt; exact absurd hklt (Nat.not_lt_zero k))
        have hcell2 := hc2 k hklt
        clear hc2
        have hc64 := HG.out.lt64 k hklt
        have hlt' : (p : Int) < (n : Int) := by omega
        obtain ⟨q1, q2⟩ := andNot_is cs[k] u hc64 hu
        have HI := Lib.hid (fun W => inSet_any (andn cs[k] u) p W q2 (by omega))
        by_cases hb : (andn cs[k] u).testBit p = true
        · have HY := Lib.hid (cgTo_yes (n := n) (cs := cs.drop (k + 1)) hb)
          obtain ⟨q3, q4⟩ := or_pow u p hu (by omega)
          obtain ⟨Q, hQ, hQ2, hQ3, hQ4⟩ := pow_small p (by omega)
          have hQw : IntKind.i64.wrap (Q : Int) = Q := IntWalk.i64_in _ (by omega)
          rw [hQ] at q3
          have hb1 := cgTo_bd (n := n) (c := cs[k]) (u := u) (p := p) (cs := cs.drop (k + 1)) hn6 (by rw [List.length_drop]; omega) (by omega)
          have hb2 := cg_small (n := n) (u := u ||| 2 ^ p) (cs := cs.drop (k + 1)) hn6 (by rw [List.length_drop]; omega)
          have CC := Lib.hid (fun W h => IH.out (u ||| 2 ^ p) W q4 h)
          generalize hv1 : cgTo n cs[k] (cs.drop (k + 1)) u p = v1 at *
          generalize hv2 : cg n (cs.drop (k + 1)) (u ||| 2 ^ p) = v2 at *
          have hsum : IntKind.i64.wrap ((v1 : Int) + (v2 : Int)) = ((v1 + v2 : Nat) : Int) := by rw [IntWalk.i64_in _ (by omega)]; simp
          generalize ht2 : u ||| 2 ^ p = t2 at *
          generalize cs[k] = c at *
          generalize andn c u = z at *
          clear q4 ht2 hv1 hv2 hb1 hb2
          go_wp2_with (go_at_call 106; refine (HI.out _).mono ?_; rintro e w' ⟨rfl, rfl⟩)
          go_region_with (go_at_call 105; refine (CC.out _ XN.out).mono ?_; rintro e w3 ⟨rfl, hb3⟩)
          all_goals
            have X3 := Lib.hid (XD.out.below hb3)
            have Q3 := Lib.hid (Q2.out.drew.trans (hb3.mono Q2.out.size))
            go_wp2_with fail
            go_roundw
            case rel => exact ⟨p + 1, by omega, by rw [HY.out, Int.natCast_add], by go_num, X3.out, Q3.out⟩
            case measure => simp [intOf]; omega
        · have hb' : (andn cs[k] u).testBit p = false := by simpa using hb
          have HY := Lib.hid (cgTo_no (n := n) (cs := cs.drop (k + 1)) hb')
          clear hb
          generalize cgTo n cs[k] (cs.drop (k + 1)) u p = v1 at *
          generalize cs[k] = c at *
          generalize andn c u = z at *
          go_wp2_with (go_at_call 106; refine (HI.out _).mono ?_; rintro e w' ⟨rfl, rfl⟩)
          go_roundw
          case rel => exact ⟨p + 1, by omega, by rw [HY.out], by go_num, X2.out, Q2.out⟩
          case measure => simp [intOf]; omega
      · obtain rfl : p = n := by omega
        have HS : Hid (cg p (cs.drop k) u = cgTo p cs[k] (cs.drop (k + 1)) u p) := by
          have : cg p (cs.drop k) u = cgTo p cs[k] (cs.drop (k + 1)) u p := by rw [HD.out, cgTo_all]
          exact Lib.hid this
        generalize cgTo p cs[k] (cs.drop (k + 1)) u p = v1 at *
        go_wp2_with fail
        go_ret
        exact ⟨ret_int (by rw [HS.out]), Q2.out⟩

set_option maxHeartbeats 800000 in
theorem implCountGivings_any (ppl : Int) (xs : List Int) (cv : Value) (w : World) (h1 : IsInts w cv xs) :
    Calls Try.prog 47 #[.agg #[.int .i64 ppl, cv]] w fun e w' => e = .returned (.int .i64 (D.givings ⟨ppl, xs⟩)) ∧ Below w.heap.size w w' := by
  have hB0 : Below w.heap.size w (w.alloc (.cells #[.int .i64 ppl, cv] 44)) := (Below.refl _ _).alloc (Nat.le_refl _) _
  have X0 := Lib.hid (DayBox.new (ppl := ppl) 44 h1)
  have C0 := Lib.hid (implDayOk_any ppl xs cv _ X0.out.ints)
  have Q0 := Lib.hid hB0
  clear hB0
  obtain ⟨a, n0, c0, rfl⟩ := h1.slice
  clear h1
  rcases D.two ppl xs with hok | ⟨hok, n, cs, rfl, rfl, G, hdn, hdc⟩
  · have HS : Hid (D.givings ⟨ppl, xs⟩ = -1) := by
      have : D.givings ⟨ppl, xs⟩ = -1 := by simp [D.givings, hok]
      exact Lib.hid this
    go_enter Try.func47, Try.ntmps47
    go_wp2_with fail
    refine C0.out.mono ?_
    rintro e w1 ⟨rfl, hb1⟩
    have Q1 := Lib.hid (Q0.out.trans (hb1.mono Q0.out.size))
    clear hb1
    go_wp2_with fail
    go_ret
    exact ⟨ret_int HS.out.symm, Q1.out⟩
  · have HS : Hid (D.givings ⟨n, cs.map Int.ofNat⟩ = (cg n (cs.drop 0) 0 : Int)) := by
      have : D.givings ⟨n, cs.map Int.ofNat⟩ = (cg n (cs.drop 0) 0 : Int) := by simp only [D.givings, hok, if_true, hdn, hdc]; rfl
      exact Lib.hid this
    have HG := Lib.hid G
    clear hdn hdc G
    go_enter Try.func47, Try.ntmps47
    go_wp2_with fail
    refine C0.out.mono ?_
    rintro e w1 ⟨rfl, hb1⟩
    have X1 := Lib.hid (X0.out.below hb1)
    have Q1 := Lib.hid (Q0.out.trans (hb1.mono Q0.out.size))
    have C1 := Lib.hid (givingsFrom_any HG.out _ cs.length 0 (by omega) 0 w1 (by omega) X1.out.ints.nats)
    have x0 := X1.out.c0
    have x1 := X1.out.c1
    clear hb1
    go_wp2_with fail
    refine C1.out.mono ?_
    rintro e w2 ⟨rfl, hb2⟩
    go_wp2_with fail
    go_ret
    exact ⟨ret_int HS.out.symm, Q1.out.trans (hb2.mono Q1.out.size)⟩
end Go.Proofs.Ythihcnlbohhemaa
