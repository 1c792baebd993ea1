/- The walk of FnCountGivings: true at every code. No condition. -/
import Derived.Test.YthihcnlbohhemaaDayDrawn
import Derived.Test.YthihcnlbohhemaaDayFirstS
import Derived.Deep.RegionLaw
namespace Go.Proofs.Ythihcnlbohhemaa
open Go.RowKit

theorem less_andn (c p : Nat) : less c p = andn c (2 ^ p) := by
  apply Nat.eq_of_testBit_eq
  intro q
  rw [less_bit, andn_bit, Nat.testBit_two_pow]
/-- the numbers of a day without one of the people -/
def lessL (cs : List Nat) (p k : Nat) : List Int := ((cs.take k).map (fun c => andn c (2 ^ p))).map Int.ofNat
theorem lessL_length {cs : List Nat} {p k : Nat} (h : k ≤ cs.length) : (lessL cs p k).length = k := by simp [lessL]; omega
theorem lessL_snoc {cs : List Nat} {p k : Nat} (h : k < cs.length) : (lessL cs p k).map (Value.int .i64) ++ [Value.int .i64 ((andn cs[k] (2 ^ p) : Nat) : Int)] = (lessL cs p (k + 1)).map (Value.int .i64) := by
  simp only [lessL, List.take_succ_eq_append_getElem h, List.map_append, List.map_cons, List.map_nil]; rfl
theorem andn_lt {c t n : Nat} (h : c < 2 ^ n) : andn c t < 2 ^ n := Nat.xor_lt_two_pow h (Nat.lt_of_le_of_lt Nat.and_le_left h)
theorem less_cg {n : Nat} {cs : List Nat} (G : Good n cs) {p m : Nat} : D.givings ⟨n, lessL cs p m⟩ = ((cg n (cs.take m) (2 ^ p) : Nat) : Int) := by
  have hcs : D.cs ⟨n, lessL cs p m⟩ = (cs.take m).map (fun c => less c p) := by
    simp only [D.cs, lessL, List.map_map]
    apply List.map_congr_left
    intro c _
    simp [less_andn]
  have hok : D.ok ⟨n, lessL cs p m⟩ = true := by
    have hn := G.n6
    simp only [D.ok, Bool.and_eq_true, decide_eq_true_eq, List.all_eq_true]
    refine ⟨⟨by omega, by omega⟩, by have := G.l5; simp [lessL]; omega, fun x hx => ?_⟩
    simp only [lessL, List.map_map, List.mem_map, Function.comp] at hx
    obtain ⟨c, hc, rfl⟩ := hx
    have := andn_lt (t := 2 ^ p) (G.lt c (List.mem_of_mem_take hc))
    have e2 : ((2 ^ n : Nat) : Int) = (2 : Int) ^ n := by simp
    simp only [canOk, Bool.and_eq_true, decide_eq_true_eq, Int.ofNat_eq_natCast, Int.toNat_natCast]
    omega
  simp only [D.givings, hok, if_true, hcs]
  have : D.n ⟨n, lessL cs p m⟩ = n := by simp [D.n]
  rw [this]
  have h := cg_less n p (cs.take m) 0
  rw [Nat.zero_or] at h
  rw [← h]; rfl
/-- the givings by who does the last duty, of the first p of the people -/
def lastTo (n c : Nat) (cs : List Nat) (p : Nat) : Nat := sm p (fun q => if c.testBit q then cg n cs (2 ^ q) else 0)
theorem lastTo_all {n m : Nat} {cs : List Nat} (h : cs.length = m + 1) (hm : m < cs.length) : lastTo n cs[m] (cs.take m) n = cg n cs 0 := by
  have e : cs = cs.take m ++ [cs[m]] := by rw [← List.take_succ_eq_append_getElem hm, ← h, List.take_length]
  have h2 := cg_snoc n cs[m] (cs.take m) 0
  rw [← e] at h2
  rw [h2, lastTo]
  refine sm_congr (fun q _ => ?_)
  rw [Nat.zero_testBit, Bool.not_false, Bool.and_true, Nat.zero_or]
theorem lastTo_yes {n c p : Nat} {cs : List Nat} (h : c.testBit p = true) : lastTo n c cs (p + 1) = lastTo n c cs p + cg n cs (2 ^ p) := by simp only [lastTo, sm, h, if_true]
theorem lastTo_no {n c p : Nat} {cs : List Nat} (h : c.testBit p = false) : lastTo n c cs (p + 1) = lastTo n c cs p := by simp only [lastTo, sm, h, Bool.false_eq_true, if_false, Nat.add_zero]
theorem lastTo_bd {n c p : Nat} {cs : List Nat} (hn : n ≤ 6) (hl : cs.length ≤ 5) (hp : p ≤ 6) : lastTo n c cs p ≤ 279936 := by
  have h1 : lastTo n c cs p ≤ p * 46656 := sm_bd (fun q _ => by
    split
    · exact cg_small hn hl
    · exact Nat.zero_le _)
  exact Nat.le_trans h1 (Nat.le_trans (Nat.mul_le_mul_right 46656 hp) (by decide))

set_option maxRecDepth 20000 in
set_option maxHeartbeats 6400000 in
theorem lawCountGivings_walk {w : World} (a : Option Addr) (len cap : Nat) (zs : List Int) (h : IsRow .u8 w a len cap zs) :
    Calls Try.prog 11 #[.slice a len cap] w fun e w' => e = .returned (.bool true) ∧ Below w.heap.size w w' := by
  obtain ⟨i0, hi, hz0, hz1, hz2⟩ := info_parts infoIntD
  have HII := Lib.hid (And.intro hi (And.intro hz0 (And.intro hz1 hz2)))
  clear hi hz0 hz1 hz2
  have HD := Lib.hid (drawCountGivings_any a len cap zs w h)
  have hl := rowD_len h
  clear h
  by_cases hbig : 1048576 < len
  · go_enter Try.func11, Try.ntmps11
    go_wp2_with fail
    go_ret
    exact ⟨rfl, Below.refl _ _⟩
  · go_enter Try.func11, Try.ntmps11
    go_wp2_with fail
    refine HD.out.mono ?_
    clear HD
    rintro e w1 ⟨ppl, xs, cv, rfl, hxl, hI, hb⟩
    obtain ⟨va, vn, vc, rfl⟩ := hI.slice
    have hal : Below w1.heap.size w1 (w1.alloc (.cells #[.int .i64 ppl, .slice va vn vc] 44)) := (Below.refl _ _).alloc (Nat.le_refl _) _
    have X1 := Lib.hid (DayBox.new (ppl := ppl) 44 hI)
    have Q1 := Lib.hid (hb.trans (hal.mono hb.size))
    clear hI hb hal
    go_wp2_with fail
    generalize w1.heap.size = b3 at *
    refine (implCountGivings_any ppl xs _ _ X1.out.ints).mono ?_
    rintro e w2 ⟨rfl, hb2⟩
    have X2 := Lib.hid (X1.out.below hb2)
    have Q2 := Lib.hid (Q1.out.trans (hb2.mono Q1.out.size))
    have x0 := X2.out.c0
    have x1 := X2.out.c1
    clear hb2 X1 Q1
    go_wp2_with fail
    clear x0 x1
    refine (specCountGivings_any ppl xs _ _ X2.out.ints).mono ?_
    rintro e w3 ⟨rfl, hb3⟩
    have X3 := Lib.hid (X2.out.below hb3)
    have Q3 := Lib.hid (Q2.out.trans (hb3.mono Q2.out.size))
    have x0 := X3.out.c0
    have x1 := X3.out.c1
    clear hb3 X2 Q2
    rcases D.two ppl xs with hok | ⟨hok, n, cs, rfl, rfl, G, hdn, hdc⟩
    · have hs : D.givings ⟨ppl, xs⟩ = -1 := by simp [D.givings, hok]
      rw [hs]
      have CI := Lib.hid (implDayOk_any ppl xs _ _ X3.out.ints)
      rw [hok] at CI
      clear hs hok
      go_wp2_with fail
      refine CI.out.mono ?_
      rintro e w4 ⟨rfl, hb4⟩
      have Q4 := Lib.hid (Q3.out.trans (hb4.mono Q3.out.size))
      clear hb4
      go_wp2_with (go_at_call 23; refine (aliveD_any _).mono ?_; rintro e w' ⟨rfl, rfl⟩)
      go_ret
      exact ⟨rfl, Q4.out⟩
    · have hm : D.givings ⟨n, cs.map Int.ofNat⟩ = (cg n cs 0 : Int) := by simp only [D.givings, hok, if_true, hdn, hdc]; rfl
      have HG := Lib.hid G
      rw [hm]
      have hl5 := G.l5
      have hn6 := G.n6
      obtain ⟨aa, cp, hsl, hcap1, hcap2, _⟩ := X3.out.ints.nats
      simp only [Value.slice.injEq] at hsl
      obtain ⟨rfl, rfl, rfl⟩ := hsl
      unfold maxLen at hcap2
      clear hxl hm hdn hdc G hok
      by_cases hc0 : cs.length = 0
      · have hone : cg n cs 0 = 1 := by rw [List.eq_nil_of_length_eq_zero hc0]; rfl
        rw [hone]
        have hlw : IntKind.i64.wrap ((cs.length : Int) - 1) = -1 := by rw [hc0]; decide
        clear hone hc0
        go_wp2_with fail
        go_ret
        exact ⟨rfl, Q3.out⟩
      · obtain ⟨m, hm⟩ : ∃ m, cs.length = m + 1 := ⟨cs.length - 1, by omega⟩
        have hmlt : m < cs.length := by omega
        have HM := Lib.hid hm
        have hlw : IntKind.i64.wrap ((cs.length : Int) - 1) = (m : Int) := by rw [IntWalk.i64_in _ (by omega)]; omega
        have HLA := Lib.hid (lastTo_all (n := n) hm hmlt)
        have htl : (cs.take m).length ≤ 5 := by simp; omega
        clear hc0 hm
        go_wp2_with fail
        clear x0 x1
        go_loopw [6, 7] (fun v i wr => ∃ p : Nat, p ≤ n ∧ v = .int .i64 (lastTo n cs[m] (cs.take m) p : Int) ∧ i = .int .i64 p ∧ DayBox b3 n (.slice va cs.length vc) (cs.map Int.ofNat) wr ∧ Below w.heap.size w wr) (fun _ i _ => n - (intOf i).toNat)
        case atStart => exact ⟨0, Nat.zero_le _, rfl, rfl, X3.out, Q3.out⟩
        case round =>
          obtain ⟨p, hp, rfl, rfl, hX, hQ⟩ := hrel
          obtain ⟨wo, rfl⟩ : ∃ wo, wo = wr := ⟨_, rfl⟩
          have X4 := Lib.hid hX
          have Q4 := Lib.hid hQ
          have x0 := hX.c0
          have x1 := hX.c1
          clear hX hQ
          by_cases hpn : p < n
          · have hpn' : (p : Int) < (n : Int) := by omega
            have hp64 : p < 64 := by omega
            obtain ⟨ab, cb3, hsl, _, _, HA⟩ := X4.out.ints.nats
            simp only [Value.slice.injEq, true_and] at hsl
            obtain ⟨rfl, rfl⟩ := hsl
            obtain ⟨g2, off2, rfl, hg2, hc2⟩ := HA.resolve_left (fun h => by rw [h] at hmlt; exact absurd hmlt (Nat.not_lt_zero _))
            have hcell := hc2 m hmlt
            have hsb := shr_bit cs[m] p
            by_cases hb : cs[m].testBit p = true
            · rw [if_pos hb] at hsb
              have HY := Lib.hid (lastTo_yes (n := n) (cs := cs.take m) hb)
              have hbd1 := lastTo_bd (n := n) (c := cs[m]) (p := p) (cs := cs.take m) hn6 htl (by omega)
              have hbd2 := cg_small (n := n) (u := 2 ^ p) (cs := cs.take m) hn6 htl
              have HLC := Lib.hid (less_cg HG.out (p := p) (m := m))
              obtain ⟨Q, hQ, hQ2, hQ3, hQ4⟩ := pow_small p (by omega)
              have hQw : IntKind.i64.wrap (Q : Int) = Q := IntWalk.i64_in _ (by omega)
              have HAN : Hid (∀ k (h : k < cs.length), bits BinOp.andNot IntKind.i64 (cs[k] : Int) (Q : Int) = ((andn cs[k] (2 ^ p) : Nat) : Int)) := Lib.hid (fun k h => by have := (andNot_is cs[k] Q (HG.out.lt64 k h) (by omega)).1; rw [hQ2]; exact this)
              rw [hQ] at hsb
              generalize hla : lastTo n cs[m] (cs.take m) p = la at *
              generalize hlc : cg n (cs.take m) (2 ^ p) = lc at *
              have hsum : IntKind.i64.wrap ((la : Int) + (lc : Int)) = ((la + lc : Nat) : Int) := by rw [IntWalk.i64_in _ (by omega)]; simp
              have OB := Lib.hid (((Own.nil wo).box #[.int .i64 n, .slice none 0 0] 44).idle 3)
              clear hc2 HA hb hla hlc hQ2
              generalize hc9 : cs[m] = c9 at hcell hsb HY
              go_wp2_with fail
              clear x0 x1
              go_loopw [9] (fun i wr2 => ∃ (k : Nat) (ca : Option Addr) (cc : Nat), k ≤ m ∧ i = .int .i64 k ∧ Own wo [rowT 3 1 (.slice ca k cc) k ((lessL cs p k).map (Value.int .i64)), cellsT wo.heap.size #[.int .i64 n, .slice ca k cc] 44] wr2) (fun i _ => m - (intOf i).toNat)
              case atStart => exact ⟨0, none, 0, Nat.zero_le _, rfl, OB.out⟩
              case round =>
                obtain ⟨k, ca, cc, hk, rfl, hO⟩ := hrel
                obtain ⟨wr2, rfl⟩ : ∃ wo, wo = wr := ⟨_, rfl⟩
                have O5 := Lib.hid hO
                have X5 := Lib.hid (X4.out.below (hO.keep.mono (Nat.le_refl _)))
                have x0 := X5.out.c0
                have x1 := X5.out.c1
                have r0 := cellsT_cell (hO.cells 1 (by simp) rfl) 0
                have r1 := cellsT_cell (hO.cells 1 (by simp) rfl) 1
                simp only [List.getElem?_toArray, List.getElem?_cons_zero, List.getElem?_cons_succ] at r0 r1
                have f1 := cellsT_frozen (hO.cells 1 (by simp) rfl) 1
                have hb8l := ((hO.ap.ltAt 1 (by simp)) wo.heap.size rfl).2
                have hb38 : b3 < wo.heap.size := X4.out.hB
                have hne1 : ¬ b3 = wo.heap.size := by omega
                have hne2 : ¬ wo.heap.size = b3 := by omega
                clear hO
                by_cases hlt : k < m
                · have hltc : k < cs.length := by omega
                  obtain ⟨_, _, hsl, _, _, HA⟩ := X5.out.ints.nats
                  simp only [Value.slice.injEq, true_and] at hsl
                  obtain ⟨rfl, rfl⟩ := hsl
                  obtain ⟨_, _, hgo, hg3, hc3⟩ := HA.resolve_left (fun h => by rw [h] at hltc; exact absurd hltc (Nat.not_lt_zero _))
                  simp only [Option.some.injEq, Addr.mk.injEq, and_true] at hgo
                  obtain ⟨rfl, rfl⟩ := hgo
                  have hcell2 := hc3 k hltc
                  have hor := HAN.out k hltc
                  have HSN := Lib.hid (lessL_snoc (p := p) hltc)
                  generalize hov : andn cs[k] (2 ^ p) = ov at *
                  generalize cs[k] = c8 at hcell2 hor
                  have OD := Lib.hid (O5.out.same (grown_drew wr2 none))
                  have OA := Lib.hid (OD.out.alloc (.cells #[.int .i64 (ov : Int)] 3))
                  clear hc3 HA hov hcell
                  go_wp2_with fail
                  go_region_law (first | (refine step_append_lies _ rfl _ _ 23 rfl 0 3 i0 (.int .i64 0) 1 8 Try.underlying23 HII.out.1 HII.out.2.1 HII.out.2.2.1 HII.out.2.2.2 rfl (by decide) (.slice ca k cc) k ((lessL cs p k).map (Value.int .i64)) rfl (OA.out.row 0 (by simp) rfl) ⟨wr2.heap.size, 0, none⟩ 1 1 [.int .i64 (ov : Int)] rfl rfl (one_newsD wr2.drew _ _) (by simp [Value.oneCell']) (by omega) (by unfold maxLen; omega) (by omega) (Nat.zero_le _) _ rfl ?_; intro g9 cp9 w9 hown hgrow hat hlt9; have O9 := Lib.hid (by have h := OA.out.turnD (i := 0) (by simp) rfl hgrow hown hat; simp only [List.set_cons_zero, HSN.out] at h; exact h); have z1 := cellsT_cell (O9.out.cells 1 (by simp) rfl) 1; have zf := cellsT_frozen (O9.out.cells 1 (by simp) rfl) 1; simp only [List.getElem?_toArray, List.getElem?_cons_zero, List.getElem?_cons_succ] at z1; have O10 := Lib.hid (by have h := O9.out.put (i := 1) (by simp) rfl 1 (.slice (some ⟨g9, 0, none⟩) (k + 1) cp9); simp at h; exact h); clear hown hgrow hat hlt9))
                  all_goals
                    go_wp2_with fail
                    go_roundw
                    case rel => exact ⟨k + 1, _, _, by omega, by go_num, O10.out⟩
                    case measure => simp [intOf]; omega
                · obtain rfl : k = m := by omega
                  have IX := Lib.hid (IsInts.of_ownsN (lessL_length (Nat.le_of_lt hmlt)) (O5.out.row 0 (by simp) rfl))
                  have CM := Lib.hid (implCountGivings_any (n : Int) (lessL cs p k) _ _ IX.out)
                  rw [HLC.out] at CM
                  have Q5 := Lib.hid (Q4.out.trans (O5.out.keep.mono Q4.out.size))
                  go_wp2_with fail
                  refine CM.out.mono ?_
                  rintro e w6 ⟨rfl, hb6⟩
                  have X6 := Lib.hid (X5.out.below hb6)
                  have Q6 := Lib.hid (Q5.out.trans (hb6.mono Q5.out.size))
                  clear hb6 x0 x1 r0 r1 f1
                  go_wp2_with fail
                  go_roundw
                  case rel => exact ⟨p + 1, by omega, by rw [HY.out, Int.natCast_add], by go_num, X6.out, Q6.out⟩
                  case measure => simp [intOf]; omega
            · have hb' : cs[m].testBit p = false := by simpa using hb
              rw [if_neg hb] at hsb
              have HY := Lib.hid (lastTo_no (n := n) (cs := cs.take m) hb')
              clear hc2 HA hb hb'
              generalize hla : lastTo n cs[m] (cs.take m) p = la at *
              generalize hla2 : lastTo n cs[m] (cs.take m) (p + 1) = la2 at *
              have HL2 := Lib.hid hla2
              clear hla hla2
              generalize hc9 : cs[m] = c9 at hcell hsb HY HL2
              go_wp2_with fail
              go_roundw
              case rel => exact ⟨p + 1, by omega, by rw [HL2.out, HY.out], by go_num, X4.out, Q4.out⟩
              case measure => simp [intOf]; omega
          · obtain rfl : p = n := by omega
            rw [HLA.out]
            generalize cg p cs 0 = gg at *
            go_wp2_with fail
            go_ret
            exact ⟨rfl, Q4.out⟩
end Go.Proofs.Ythihcnlbohhemaa
