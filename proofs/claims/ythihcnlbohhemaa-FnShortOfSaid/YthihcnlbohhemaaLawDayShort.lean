/- The walk of FnShortOf: true at every code. No condition. -/
import Derived.Test.YthihcnlbohhemaaDayDrawn
import Derived.Test.YthihcnlbohhemaaDayShortS
import Derived.Test.YthihcnlbohhemaaDayCnt
namespace Go.Proofs.Ythihcnlbohhemaa
open Go.RowKit

theorem cnt_succ (n : Nat) (f : Nat → Bool) : cnt (n + 1) f = cnt n f + b2 (f n) := rfl
theorem full_bit {l k : Nat} (h : k < l) : (2 ^ l - 1).testBit k = true := by rw [Nat.testBit_two_pow_sub_one]; simpa using h
/-- what the law asks of the set that is short -/
structure ShortFacts (n : Nat) (cs : List Nat) (b : Int) (s : Nat) : Prop where
  b0 : 0 ≤ b
  b5 : b ≤ 5
  s32 : s < 64
  par : (cnt cs.length s.testBit : Int) - (cnt n (whoTo cs s cs.length).testBit : Int) = b
  all : (cs.length : Int) - (cnt n (whoTo cs (2 ^ cs.length - 1) cs.length).testBit : Int) ≤ b
  giv : (b = 0) ↔ 0 < (givs n cs 0).length
  none : ∀ k (h : k < cs.length), cs[k] = 0 → 1 ≤ b
theorem short_facts {n : Nat} {cs : List Nat} (G : Good n cs) : ShortFacts n cs (bestTo cs (2 ^ cs.length)).1 (bestTo cs (2 ^ cs.length)).2 := by
  obtain ⟨h1, h2, h3, _⟩ := bestTo_is cs (2 ^ cs.length)
  have hlt := best_lt (cs := cs)
  have hm := best_most G
  have hl5 := G.l5
  have hP : 2 ^ cs.length ≤ 2 ^ 5 := Nat.pow_le_pow_right (by omega) hl5
  have hP0 := Nat.two_pow_pos cs.length
  refine ⟨h2, by omega, by omega, ?_, ?_, ?_, ?_⟩
  · rw [← h3, sh, pc_set (by omega) hlt, pc_set G.n6 (whoTo_lt G _ _)]
  · have h4 := h1 (2 ^ cs.length - 1) (by omega)
    rw [sh, pc_set (by omega) (by omega : 2 ^ cs.length - 1 < 2 ^ cs.length), pc_set G.n6 (whoTo_lt G _ _)] at h4
    have h5 : cnt cs.length (2 ^ cs.length - 1).testBit = cs.length := by
      have : cnt cs.length (2 ^ cs.length - 1).testBit = sm cs.length (fun _ => 1) := sm_congr (fun e he => by rw [full_bit he]; rfl)
      rw [this, sm_one]
    omega
  · rw [givs_pos]; omega
  · intro k hk hc
    have hk2 : 2 ^ k < 2 ^ cs.length := Nat.pow_lt_pow_right (by omega) hk
    have h4 := h1 (2 ^ k) hk2
    rw [sh_is G hk2] at h4
    have h5 : cnt cs.length (2 ^ k).testBit = 1 := by
      refine (sm_single _ k _ hk (fun e _ he => ?_)).trans ?_
      · rw [Nat.testBit_two_pow]; have : ¬ k = e := fun e' => he e'.symm
        simp [this, b2]
      · rw [Nat.testBit_two_pow]; simp [b2]
    have h6 : cnt n (nb cs (2 ^ k).testBit) = 0 := by
      refine (sm_congr (g := fun _ => 0) (fun p _ => ?_)).trans (sm_zero n)
      cases hb : nb cs (2 ^ k).testBit p with
      | false => rfl
      | true =>
        simp only [nb, decide_eq_true_eq] at hb
        obtain ⟨e, he, hb1, hb2⟩ := hb
        rw [Nat.testBit_two_pow, decide_eq_true_eq] at hb1
        subst hb1
        rw [ca_at he, hc, Nat.zero_testBit] at hb2; cases hb2
    omega
theorem tmod_b2 (s p : Nat) : ((s : Int) / 2 ^ p).tmod 2 = (b2 (s.testBit p) : Int) := by
  rw [shr_bit]; cases s.testBit p <;> rfl
theorem cnt_small (n : Nat) (f : Nat → Bool) (h : n ≤ 6) : cnt n f ≤ 6 := Nat.le_trans (cnt_le n f) h

set_option maxRecDepth 20000 in
set_option maxHeartbeats 3200000 in
theorem lawShortOf_walk {w : World} (a : Option Addr) (len cap : Nat) (zs : List Int) (h : IsRow .u8 w a len cap zs) :
    Calls Try.prog 8 #[.slice a len cap] w fun e w' => e = .returned (.bool true) ∧ Below w.heap.size w w' := by
  have HD := Lib.hid (drawShortOf_any a len cap zs w h)
  have hl := rowD_len h
  clear h
  by_cases hbig : 1048576 < len
  · go_enter Try.func8, Try.ntmps8
    go_wp2_with fail
    go_ret
    exact ⟨rfl, Below.refl _ _⟩
  · go_enter Try.func8, Try.ntmps8
    go_wp2_with fail
    refine HD.out.mono ?_
    clear HD
    rintro e w1 ⟨ppl, xs, cv, rfl, hxl, hI, hb⟩
    obtain ⟨va, vn, vc, rfl⟩ := hI.slice
    have hal : Below w1.heap.size w1 (w1.alloc (.cells #[.int .i64 ppl, .slice va vn vc] 44)) := (Below.refl _ _).alloc (Nat.le_refl _) _
    have X1 := Lib.hid (DayBox.new (ppl := ppl) 44 hI)
    have Q1 := Lib.hid (hb.trans (hal.mono hb.size))
    clear hI hb hal
    go_wp2_with fail
    generalize w1.heap.size = b3 at *
    refine (implShortOf_any ppl xs _ _ X1.out.ints).mono ?_
    rintro e w2 ⟨rfl, hb2⟩
    have X2 := Lib.hid (X1.out.below hb2)
    have Q2 := Lib.hid (Q1.out.trans (hb2.mono Q1.out.size))
    have x0 := X2.out.c0
    have x1 := X2.out.c1
    clear hb2 X1 Q1
    go_wp2_with fail
    clear x0 x1
    refine (specShortOf_any ppl xs _ _ X2.out.ints).mono ?_
    rintro e w3 ⟨rfl, hb3⟩
    have X3 := Lib.hid (X2.out.below hb3)
    have Q3 := Lib.hid (Q2.out.trans (hb3.mono Q2.out.size))
    have x0 := X3.out.c0
    have x1 := X3.out.c1
    clear hb3 X2 Q2
    rcases D.two ppl xs with hok | ⟨hok, n, cs, rfl, rfl, G, hdn, hdc⟩
    · have hs : D.short ⟨ppl, xs⟩ = (-1, -1) := by simp [D.short, hok]
      rw [hs, hok]
      have CI := Lib.hid (implDayOk_any ppl xs _ _ X3.out.ints)
      rw [hok] at CI
      clear hs hok
      go_wp2_with fail
      refine CI.out.mono ?_
      rintro e w4 ⟨rfl, hb4⟩
      have Q4 := Lib.hid (Q3.out.trans (hb4.mono Q3.out.size))
      clear hb4
      go_wp2_with (go_at_call 23; refine (aliveD_any _).mono ?_; rintro e w' ⟨rfl, rfl⟩)
      go_ret
      exact ⟨rfl, Q4.out⟩
    · obtain ⟨e1, e2⟩ := short_is2 hok hdc (P := 2 ^ cs.length) rfl
      have SF := Lib.hid (short_facts G)
      have HG := Lib.hid G
      have HGV := Lib.hid (implCountGivings_any (n : Int) (cs.map Int.ofNat))
      have HGI : Hid (D.givings ⟨n, cs.map Int.ofNat⟩ = ((givs n cs 0).length : Int)) := by
        have : D.givings ⟨n, cs.map Int.ofNat⟩ = ((givs n cs 0).length : Int) := by simp only [D.givings, hok, if_true, hdn, hdc]
        exact Lib.hid this
      rw [← e1, ← e2, hok]
      have hl5 := G.l5
      have hn6 := G.n6
      have hb0 := SF.out.b0
      have hb5 := SF.out.b5
      have hs64 := SF.out.s32
      clear e1 e2 hok hdn hdc G
      generalize (bestTo cs (2 ^ cs.length)).1 = bn at *
      generalize (bestTo cs (2 ^ cs.length)).2 = bs at *
      obtain ⟨aa, cp, hsl, hcap1, hcap2, _⟩ := X3.out.ints.nats
      simp only [Value.slice.injEq] at hsl
      obtain ⟨rfl, rfl, rfl⟩ := hsl
      unfold maxLen at hcap2
      clear hxl
      go_wp2_with fail
      clear x0 x1
      go_loopw [10, 11, 12, 13] (fun v10 v11 v12 i wr => ∃ k : Nat, k ≤ cs.length ∧ v10 = .int .i64 (whoTo cs bs k : Int) ∧ v11 = .int .i64 (cnt k bs.testBit : Int) ∧ v12 = .int .i64 (whoTo cs (2 ^ cs.length - 1) k : Int) ∧ i = .int .i64 k ∧ DayBox b3 n (.slice va cs.length vc) (cs.map Int.ofNat) wr ∧ Below w.heap.size w wr) (fun _ _ _ i _ => cs.length - (intOf i).toNat)
      case atStart => exact ⟨0, Nat.zero_le _, rfl, rfl, rfl, rfl, X3.out, Q3.out⟩
      case round =>
        obtain ⟨k, hk, rfl, rfl, rfl, rfl, hX, hQ⟩ := hrel
        have X4 := Lib.hid hX
        have Q4 := Lib.hid hQ
        have x0 := hX.c0
        have x1 := hX.c1
        clear hX hQ
        by_cases hlt : k < cs.length
        · obtain ⟨ab, cb3, hsl, _, _, HA⟩ := X4.out.ints.nats
          simp only [Value.slice.injEq, true_and] at hsl
          obtain ⟨rfl, rfl⟩ := hsl
          obtain ⟨g2, off2, rfl, hg2, hc2⟩ := HA.resolve_left (fun h => by rw [h] at hlt; exact absurd hlt (Nat.not_lt_zero _))
          have hcell := hc2 k hlt
          have hk64 : k < 64 := by omega
          have hor := whoTo_yes HG.out (2 ^ cs.length - 1) k hlt (full_bit hlt)
          have hor2 := whoTo_yes HG.out bs k hlt
          have hno2 := whoTo_no (cs := cs) bs k
          have hsb := shr_bit bs k
          have hcn := cnt_succ k bs.testBit
          have hcs := cnt_small k bs.testBit (by omega)
          have hnz : cs[k] = 0 → 1 ≤ bn := SF.out.none k hlt
          have hcz : ((cs[k] : Int) == 0) = true ∧ 1 ≤ bn ∨ ((cs[k] : Int) == 0) = false := by
            by_cases hz : cs[k] = 0
            · exact .inl ⟨by simp [hz], hnz hz⟩
            · exact .inr (by simpa using hz)
          generalize whoTo cs (2 ^ cs.length - 1) k = al at *
          generalize hal2 : whoTo cs (2 ^ cs.length - 1) (k + 1) = al2 at *
          generalize whoTo cs bs k = wk at *
          generalize hwk2 : whoTo cs bs (k + 1) = wk2 at *
          generalize cnt k bs.testBit = ck at *
          generalize hck2 : cnt (k + 1) bs.testBit = ck2 at *
          have HAL := Lib.hid hal2
          have HWK := Lib.hid hwk2
          have HCK := Lib.hid hck2
          generalize cs[k] = c at *
          clear hc2 HA hnz hal2 hwk2 hck2
          by_cases hb : bs.testBit k = true
          · have hor3 := hor2 hb
            rw [if_pos hb] at hsb
            rw [hb] at hcn
            have hckw : IntKind.i64.wrap ((ck : Int) + 1) = (ck2 : Int) := by
              have : ck2 = ck + 1 := hcn
              rw [IntWalk.i64_in _ (by omega)]; omega
            clear hor2 hno2 hcn hb
            rcases hcz with ⟨hcz, hb1⟩ | hcz
            · go_wp2_with fail
              go_roundw
              case rel => exact ⟨k + 1, by omega, by rw [HWK.out], by rw [HCK.out], by rw [HAL.out], by go_num, X4.out, Q4.out⟩
              case measure => simp [intOf]; omega
            · go_wp2_with fail
              go_roundw
              case rel => exact ⟨k + 1, by omega, by rw [HWK.out], by rw [HCK.out], by rw [HAL.out], by go_num, X4.out, Q4.out⟩
              case measure => simp [intOf]; omega
          · have hb' : bs.testBit k = false := by simpa using hb
            have hno3 := Lib.hid (hno2 hb')
            rw [if_neg hb] at hsb
            rw [hb'] at hcn
            have hck3 : Hid (ck2 = ck) := Lib.hid hcn
            clear hor2 hno2 hcn hb hb'
            rcases hcz with ⟨hcz, hb1⟩ | hcz
            · go_wp2_with fail
              go_roundw
              case rel => exact ⟨k + 1, by omega, by rw [HWK.out, hno3.out], by rw [HCK.out, hck3.out], by rw [HAL.out], by go_num, X4.out, Q4.out⟩
              case measure => simp [intOf]; omega
            · go_wp2_with fail
              go_roundw
              case rel => exact ⟨k + 1, by omega, by rw [HWK.out, hno3.out], by rw [HCK.out, hck3.out], by rw [HAL.out], by go_num, X4.out, Q4.out⟩
              case measure => simp [intOf]; omega
        · obtain rfl : k = cs.length := by omega
          have SFP := SF.out.par
          have SFA := SF.out.all
          have SFG := SF.out.giv
          have hw1 := whoTo_64 HG.out bs cs.length
          have hw2 := whoTo_64 HG.out (2 ^ cs.length - 1) cs.length
          have hcl := cnt_small cs.length bs.testBit (by omega)
          generalize whoTo cs (2 ^ cs.length - 1) cs.length = al at *
          generalize whoTo cs bs cs.length = wk at *
          generalize cnt cs.length bs.testBit = ck at *
          have HSP := Lib.hid SFP
          have HSA := Lib.hid SFA
          have HSG := Lib.hid SFG
          clear SFP SFA SFG
          go_wp2_with fail
          clear x0 x1
          go_loopw [14, 15, 16] (fun v14 v15 i wr => ∃ q : Nat, q ≤ n ∧ v14 = .int .i64 (cnt q wk.testBit : Int) ∧ v15 = .int .i64 (cnt q al.testBit : Int) ∧ i = .int .i64 q ∧ DayBox b3 n (.slice va cs.length vc) (cs.map Int.ofNat) wr ∧ Below w.heap.size w wr) (fun _ _ i _ => n - (intOf i).toNat)
          case atStart => exact ⟨0, Nat.zero_le _, rfl, rfl, rfl, X4.out, Q4.out⟩
          case round =>
            obtain ⟨q, hq, rfl, rfl, rfl, hX, hQ⟩ := hrel
            have X5 := Lib.hid hX
            have Q5 := Lib.hid hQ
            have x0 := hX.c0
            have x1 := hX.c1
            clear hX hQ
            by_cases hqn : q < n
            · have hqn' : (q : Int) < (n : Int) := by omega
              have hq64 : q < 64 := by omega
              have ht1 := tmod_b2 wk q
              have ht2 := tmod_b2 al q
              have hc1 := cnt_succ q wk.testBit
              have hc2 := cnt_succ q al.testBit
              have hb1 := cnt_small q wk.testBit (by omega)
              have hb2 := cnt_small q al.testBit (by omega)
              have hb3 := b2_le (wk.testBit q)
              have hb4 := b2_le (al.testBit q)
              generalize b2 (wk.testBit q) = y1 at *
              generalize b2 (al.testBit q) = y2 at *
              generalize cnt q wk.testBit = p1 at *
              generalize cnt q al.testBit = p2 at *
              generalize hn1 : cnt (q + 1) wk.testBit = p3 at *
              generalize hn2 : cnt (q + 1) al.testBit = p4 at *
              have HN1 := Lib.hid hn1
              have HN2 := Lib.hid hn2
              have hw3 : IntKind.i64.wrap ((p1 : Int) + (y1 : Int)) = (p3 : Int) := by rw [IntWalk.i64_in _ (by omega)]; omega
              have hw4 : IntKind.i64.wrap ((p2 : Int) + (y2 : Int)) = (p4 : Int) := by rw [IntWalk.i64_in _ (by omega)]; omega
              clear hn1 hn2 hc1 hc2
              go_wp2_with fail
              go_roundw
              case rel => exact ⟨q + 1, by omega, by rw [HN1.out], by rw [HN2.out], by go_num, X5.out, Q5.out⟩
              case measure => simp [intOf]; omega
            · obtain rfl : q = n := by omega
              have HC0 := HGV.out (.slice va cs.length vc) _ X5.out.ints
              rw [HGI.out] at HC0
              have HC := Lib.hid HC0
              have hp1 := cnt_small q wk.testBit hn6
              have hp2 := cnt_small q al.testBit hn6
              have h1 := HSP.out
              have h2 := HSA.out
              have h3 := HSG.out
              generalize cnt q wk.testBit = pe at *
              generalize cnt q al.testBit = pa at *
              generalize (givs q cs 0).length = gl at *
              have hw5 : IntKind.i64.wrap ((ck : Int) - (pe : Int)) = bn := by rw [IntWalk.i64_in _ (by omega)]; omega
              have hw6 : IntKind.i64.wrap ((cs.length : Int) - (pa : Int)) = (cs.length : Int) - (pa : Int) := IntWalk.i64_in _ (by omega)
              have HB : Hid ((bn == 0) = true ∧ 0 < (gl : Int) ∨ (bn == 0) = false ∧ ¬ 0 < (gl : Int)) := by
                have : (bn == 0) = true ∧ 0 < (gl : Int) ∨ (bn == 0) = false ∧ ¬ 0 < (gl : Int) := by
                  by_cases hz : bn = 0
                  · have := h3.1 hz
                    exact .inl ⟨by simp [hz], by omega⟩
                  · exact .inr ⟨by simpa using hz, fun h => hz (h3.2 (by omega))⟩
                exact Lib.hid this
              clear HC0 h1 h3
              rcases HB.out with ⟨hz1, hz2⟩ | ⟨hz1, hz2⟩
              · go_wp2_with fail
                refine HC.out.mono ?_
                rintro e w6 ⟨rfl, hb6⟩
                have X6 := Lib.hid (X5.out.below hb6)
                have Q6 := Lib.hid (Q5.out.trans (hb6.mono Q5.out.size))
                have y1 := X6.out.c1
                clear hb6 x0 x1
                go_wp2_with (go_at_call 23; refine (aliveD_any _).mono ?_; rintro e w' ⟨rfl, rfl⟩)
                go_ret
                exact ⟨rfl, Q6.out⟩
              · go_wp2_with fail
                refine HC.out.mono ?_
                rintro e w6 ⟨rfl, hb6⟩
                have X6 := Lib.hid (X5.out.below hb6)
                have Q6 := Lib.hid (Q5.out.trans (hb6.mono Q5.out.size))
                have y1 := X6.out.c1
                clear hb6 x0 x1
                go_wp2_with (go_at_call 23; refine (aliveD_any _).mono ?_; rintro e w' ⟨rfl, rfl⟩)
                go_ret
                exact ⟨rfl, Q6.out⟩
end Go.Proofs.Ythihcnlbohhemaa
