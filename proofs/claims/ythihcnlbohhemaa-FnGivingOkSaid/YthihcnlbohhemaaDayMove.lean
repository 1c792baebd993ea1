/- spec.l8Move: a duty is given to somebody, and others are moved on. No condition. -/
import Derived.Test.YthihcnlbohhemaaDayGive
import Derived.Test.YthihcnlbohhemaaDayGiv
import Derived.Deep.AppendLies
import Derived.Outline
import Derived.Deep.RegionWith
namespace Go.Proofs.Ythihcnlbohhemaa
open Go.RowKit

theorem infoIntD : (Try.prog.info? 3).map (fun i => (i.zero, i.size, i.bytes)) = some (some (.int .i64 0), 1, 8) := by kernel_rfl
theorem Own.turnD {wB w w' : World} {ts : List Thing} {i g cp n m : Nat} {e : TypeId} {v : Value} {xs ys : List Value} (h : Own wB ts w) (hi : i < ts.length) (he : ts[i] = rowT e 1 v n xs) (hg : w.grownBy w' v.ownBlock)
    (ho : w'.ownsRow 0 e 1 (.slice (some ⟨g, 0, none⟩) m cp) m ys) (hat : v.ownBlock = some g ∨ g = w.heap.size) : Own wB (ts.set i (rowT e 1 (.slice (some ⟨g, 0, none⟩) m cp) m ys)) w' := by
  have hlt := h.ap.ltAt i hi
  rw [he] at hlt
  exact ⟨h.keep.grown hg h.size (fun j e => (hlt j e).1), h.ap.turnAt i hi (by rw [he]; exact hg) _ ho h.size
    (fun j e => ⟨by rw [he]; cases e; exact hat.imp id (fun e => Nat.le_of_eq e.symm), (World.ownsRow.lt ho j e).2⟩)⟩
theorem IsInts.newsD {w : World} {v : Value} {xs : List Int} (h : IsInts w v xs) (h0 : 0 < xs.length) : ∃ (g off cap : Nat), v = .slice (some ⟨g, off, none⟩) xs.length cap ∧ xs.length ≤ cap ∧ cap ≤ maxLen ∧ ∀ V, Below w.heap.size w V → ∀ j u, (xs.map (Value.int .i64))[j]? = some u → V.cell? ((⟨g, off, none⟩ : Addr).add j) = some u := by
  obtain ⟨a, cap, rfl, h1, h2, h3⟩ := h
  obtain ⟨g, off, rfl, hg, hc⟩ := h3.resolve_left (fun h => by rw [h] at h0; exact absurd h0 (Nat.lt_irrefl _))
  refine ⟨g, off, cap, rfl, h1, h2, fun V hV j u hj => ?_⟩
  rw [List.getElem?_map] at hj
  obtain ⟨z, hz, rfl⟩ := Option.map_eq_some_iff.1 hj
  obtain ⟨hjl, rfl⟩ := List.getElem?_eq_some_iff.1 hz
  rw [add_off]
  exact (hV.cell (p := ⟨g, off + j, none⟩) hg).trans (hc j hjl)
theorem ints_one (xs : List Int) : ∀ u ∈ xs.map (Value.int .i64), u.oneCell' = true := fun u hu => by
  obtain ⟨z, _, rfl⟩ := List.mem_map.1 hu; rfl
theorem IsInts.of_ownsN {w : World} {base m : Nat} {e : TypeId} {v : Value} {xs : List Int} (hl : xs.length = m) (h : w.ownsRow base e 1 v m (xs.map (Value.int .i64))) : IsInts w v xs := by
  subst hl; exact IsInts.of_owns h
/-- what a move leaves -/
def MovePost (x : Mv) (w : World) (e : Ending) (w' : World) : Prop := ∃ v, e = .returned (.tuple #[v, .int .i64 (x.2.1 : Int), .bool x.2.2]) ∧ IsInts w' v x.1 ∧ Below w.heap.size w w'

set_option maxHeartbeats 3200000 in
theorem move_loop {n : Nat} {cs : List Nat} (G : Good n cs) {has : List Int} (hH : Has cs n has) (rec : Nat → Nat → Mv) (B : Nat)
    (hM : ∀ d t, d < cs.length → untried n t < B → Moved cs n has d t (rec d t))
    (IH : ∀ (d t : Nat) (cv hvv : Value) (w : World), d < cs.length → untried n t < B → t < 2 ^ n → IsNats w cv cs → IsInts w hvv has →
      Calls Try.prog 101 #[.agg #[.int .i64 n, cv], hvv, .int .i64 d, .int .i64 t] w (MovePost (rec d t) w))
    (duty tried : Nat) (cv hvv : Value) (w : World) (hd : duty < cs.length) (hu : untried n tried ≤ B) (ht : tried < 2 ^ n) (h0 : IsNats w cv cs) (h1 : IsInts w hvv has) :
    Calls Try.prog 101 #[.agg #[.int .i64 n, cv], hvv, .int .i64 duty, .int .i64 tried] w (MovePost (mvL rec (ca cs duty) n duty has n tried) w) := by
  obtain ⟨i0, hi, hz0, hz1, hz2⟩ := info_parts infoIntD
  have HII := Lib.hid (And.intro hi (And.intro hz0 (And.intro hz1 hz2)))
  clear hi hz0 hz1 hz2
  have hB0 : Below w.heap.size w (w.alloc (.cells #[.int .i64 n, cv] 44)) := (Below.refl _ _).alloc (Nat.le_refl _) _
  have X0 := Lib.hid (DayBox.new (ppl := (n : Int)) 44 h0.ints)
  have H0 := Lib.hid (h1.below hB0)
  have Q0 := Lib.hid hB0
  obtain ⟨a, n0, c0, rfl⟩ := h0.slice
  obtain ⟨b, cbp, rfl, hb1, hb2, _⟩ := h1
  have HG := Lib.hid G
  have HHH := Lib.hid hH
  have HM := Lib.hid hM
  have HI := Lib.hid IH
  have hlen := hH.len
  have hn6 := G.n6
  have hl5 := G.l5
  clear G hH hM IH h0 hB0
  go_enter Try.func101, Try.ntmps101
  go_wp2_with fail
  go_loopw [3, 11] (fun t i wr => ∃ (k tr : Nat), k ≤ n ∧ t = .int .i64 tr ∧ i = .int .i64 k ∧ Hid (mvL rec (ca cs duty) n duty has n tried = mvL rec (ca cs duty) n duty has (n - k) tr) ∧ Hid (untried n tr ≤ B) ∧ Hid (tr < 2 ^ n) ∧ DayBox w.heap.size n (.slice a n0 c0) (cs.map Int.ofNat) wr ∧ IsInts wr (.slice b has.length cbp) has ∧ Below w.heap.size w wr) (fun _ i _ => n - (intOf i).toNat)
  case atStart => exact ⟨0, tried, Nat.zero_le _, rfl, rfl, Lib.hid rfl, Lib.hid hu, Lib.hid ht, X0.out, H0.out, Q0.out⟩
  case round =>
    obtain ⟨k, tr, hk, rfl, rfl, HE, HU, HT, hX, hW, hQ⟩ := hrel
    have X2 := Lib.hid hX
    have W2 := Lib.hid hW
    have Q2 := Lib.hid hQ
    have x0 := hX.c0
    have x1 := hX.c1
    clear hX hW hQ hu ht
    by_cases hlt : k < n
    · have hkl : k < has.length := by omega
      have hlt' : (k : Int) < (n : Int) := by omega
      have hk64 : k < 64 := by omega
      obtain ⟨aa, cap, hsl, hcap1, hcap2, HA⟩ := X2.out.ints.nats
      simp only [Value.slice.injEq] at hsl
      obtain ⟨rfl, rfl, rfl⟩ := hsl
      unfold maxLen at hcap2
      obtain ⟨g, off, rfl, hg, hc⟩ := HA.resolve_left (fun h => by rw [h] at hd; exact absurd hd (Nat.not_lt_zero duty))
      have hcell := hc duty hd
      obtain ⟨g2, off2, cb2, hsl, hcb1, hcb2, HN⟩ := W2.out.newsD (by omega)
      simp only [Value.slice.injEq, true_and] at hsl
      obtain ⟨rfl, rfl⟩ := hsl
      have hcell2 : wr.cell? ⟨g2, off2 + k, none⟩ = some (.int .i64 (hv has k)) := by
        have := HN wr (Below.refl _ _) k (.int .i64 (hv has k)) (by simp [hv, List.getD, hkl])
        rwa [add_off] at this
      have HN := Lib.hid HN
      have hcd := Lib.hid (ca_at hd)
      have hc64 := HG.out.lt64 duty hd
      have ht64 := lt64_of hn6 HT.out
      have hcd2 : (ca cs duty).testBit k = cs[duty].testBit k := by rw [hcd.out]
      have hsb := shr_bit cs[duty] k
      have hst := shr_bit tr k
      have hl6 : has.length ≤ 6 := by omega
      clear hc hlen
      by_cases hb1 : cs[duty].testBit k = true
      · rw [if_pos hb1] at hsb
        by_cases hb2 : tr.testBit k = true
        · rw [if_pos hb2] at hst
          have HSK := Lib.hid (mvL_skip (rec := rec) (duty := duty) (c := ca cs duty) (tr := tr) HHH.out.len hlt (by rw [hb2]; simp))
          clear hb1 hb2 hcd2
          generalize cs[duty] = c9 at hcell hc64 hsb
          go_wp2_with fail
          go_roundw
          case rel => exact ⟨k + 1, tr, by omega, rfl, by go_num, Lib.hid (HE.out.trans HSK.out), HU, HT, X2.out, W2.out, Q2.out⟩
          case measure => simp [intOf]; omega
        · have hb2' : tr.testBit k = false := by simpa using hb2
          rw [if_neg hb2] at hst
          have HBB : Hid (((ca cs duty).testBit k && !tr.testBit k) = true) := by
            have : ((ca cs duty).testBit k && !tr.testBit k) = true := by rw [hcd2, hb1, hb2']; rfl
            exact Lib.hid this
          have HPUT := Lib.hid (untried_put hlt hb2')
          have HL2 : Hid (tr ||| 2 ^ k < 2 ^ n) := Lib.hid (Nat.or_lt_two_pow HT.out (Nat.pow_lt_pow_right (by omega) hlt))
          obtain ⟨q3, q4⟩ := or_pow tr k ht64 (by omega)
          obtain ⟨Q, hQ, hQ2, hQ3, hQ4⟩ := pow_small k (by omega)
          have hQw : IntKind.i64.wrap (Q : Int) = Q := IntWalk.i64_in _ (by omega)
          rw [hQ] at q3 hsb hst
          have HVAL := Lib.hid (HHH.out.val k hlt)
          clear hb1 hb2 hb2' hcd2 q4 hQ2
          generalize cs[duty] = c9 at hcell hc64 hsb
          by_cases hv1 : hv has k = -1
          · have HFR := Lib.hid (mvL_free (rec := rec) (duty := duty) HHH.out.len hlt HBB.out hv1)
            rw [hv1] at hcell2
            clear hv1
            generalize ht2 : tr ||| 2 ^ k = t2 at q3 HFR
            clear ht2
            have OA := Lib.hid ((Own.nil wr).lit 3 #[] 0 rfl (Nat.zero_le _))
            go_wp2_with (at_builtin; refine wpList_append_lies _ rfl _ _ 23 rfl 0 3 i0 (.int .i64 0) 1 8 Try.underlying23 HII.out.1 HII.out.2.1 HII.out.2.2.1 HII.out.2.2.2 rfl (by decide) (.slice (some ⟨wr.heap.size, 0, none⟩) 0 0) 0 [] rfl (OA.out.row 0 (by simp) rfl) ⟨g2, off2, none⟩ has.length cbp (has.map (Value.int .i64)) rfl (by simp) (fun j u hj => HN.out _ OA.out.keep j u hj) (ints_one _) (by omega) (by unfold maxLen; omega) (by omega) (Nat.zero_le _) _ rfl ?_; intro gE cE wE hown hgrow hat hltE; rw [Nat.zero_add, List.nil_append] at hown; have OE := Lib.hid (OA.out.turnD (i := 0) (by simp) rfl hgrow hown hat); clear hown hgrow hat; have hz := (OE.out.row 0 (by simp) rfl).cellAt k (by omega); rw [List.getElem?_map, List.getElem?_eq_getElem hkl, Option.map_some] at hz; have hf := (OE.out.row 0 (by simp) rfl).frozenAt k; have OF := Lib.hid (by have h := OE.out.store (i := 0) (by simp) rfl k (.int .i64 duty); simp only [List.set_cons_zero, int_set] at h; exact h); have IF : Hid (IsInts (wE.setCell ⟨gE, k, none⟩ (.int .i64 duty)) (.slice (some ⟨gE, 0, none⟩) has.length cE) (has.set k (duty : Int))) := Lib.hid (IsInts.of_ownsN (by simp) (OF.out.row 0 (by simp) rfl)))
            refine bodyPost_ret (res3 rfl _ _ _) rfl ?_
            rw [HE.out, HFR.out]
            exact ⟨_, rfl, IF.out, Q2.out.trans (OF.out.keep.mono Q2.out.size)⟩
          · obtain ⟨h0v, hdl, hbv⟩ := HVAL.out.resolve_left hv1
            obtain ⟨d, hd9⟩ : ∃ d : Nat, hv has k = (d : Int) := ⟨(hv has k).toNat, by omega⟩
            have hdn : (hv has k).toNat = d := by omega
            rw [hdn] at hdl
            have hu2 : untried n (tr ||| 2 ^ k) < B := by have := HPUT.out; have := HU.out; omega
            obtain ⟨x, hx9⟩ : ∃ x, rec d (tr ||| 2 ^ k) = x := ⟨_, rfl⟩
            have MM : Hid (Moved cs n has d (tr ||| 2 ^ k) x) := Lib.hid (hx9 ▸ HM.out d (tr ||| 2 ^ k) hdl hu2)
            have HYES := Lib.hid (fun hy => mvL_yes (rec := rec) (duty := duty) (x := x) HHH.out.len hlt HBB.out h0v (by rw [hdn]; exact hx9) hy)
            have HNO := Lib.hid (fun hy => mvL_no (rec := rec) (duty := duty) (x := x) HHH.out.len hlt HBB.out h0v (by rw [hdn]; exact hx9) hy)
            have XD := Lib.hid (X2.out.below (Below.refl _ wr).drew)
            have WD := Lib.hid (W2.out.below (Below.refl _ wr).drew)
            have HC := Lib.hid (HI.out d (tr ||| 2 ^ k) _ _ wr.drew hdl hu2 HL2.out XD.out.ints.nats WD.out)
            have HU2 : Hid (untried n x.2.1 ≤ B) := Lib.hid (Nat.le_trans (untried_mono (fun q hq => MM.out.grow q (by rw [testBit_put, hq]; rfl))) HU.out)
            have HT2 : Hid (x.2.1 < 2 ^ n) := Lib.hid (MM.out.lt HL2.out)
            rw [hx9] at HC
            have hneg : ¬ (d : Int) < 0 := by omega
            rw [hd9] at hcell2
            generalize ht2 : tr ||| 2 ^ k = t2 at q3 MM HC
            clear hv1 h0v hbv hd9 hdn hu2 hdl hx9 ht2
            go_wp2_with fail
            go_region_with (go_at_call 101; refine HC.out.mono ?_; rintro e w3 ⟨vx, rfl, hIx, hb3⟩; have HX := Lib.hid hIx; obtain ⟨vxa, vxn, vxc, rfl⟩ := hIx.slice)
            all_goals
              have X3 := Lib.hid (XD.out.below hb3)
              have W3 := Lib.hid (WD.out.below hb3)
              have Q3 := Lib.hid (Q2.out.drew.trans (hb3.mono Q2.out.size))
              clear hb3 hIx x0 x1 hcell hcell2
              rcases Bool.eq_false_or_eq_true x.2.2 with hx | hx
              · have HY := Lib.hid (HYES.out hx)
                have hxl : x.1.length = n := (MM.out.good hx).len
                have hxk : k < x.1.length := by omega
                obtain ⟨g5, off5, cb5, hsl, hcc1, hcc2, HN5⟩ := HX.out.newsD (by omega)
                simp only [Value.slice.injEq] at hsl
                obtain ⟨rfl, rfl, rfl⟩ := hsl
                have HN5 := Lib.hid HN5
                unfold maxLen at hcc2
                have hx6 : x.1.length ≤ 6 := by omega
                clear hxl
                rw [hx]
                have OA := Lib.hid ((Own.nil w3).lit 3 #[] 0 rfl (Nat.zero_le _))
                go_wp2_with (at_builtin; refine wpList_append_lies _ rfl _ _ 23 rfl 0 3 i0 (.int .i64 0) 1 8 Try.underlying23 HII.out.1 HII.out.2.1 HII.out.2.2.1 HII.out.2.2.2 rfl (by decide) (.slice (some ⟨w3.heap.size, 0, none⟩) 0 0) 0 [] rfl (OA.out.row 0 (by simp) rfl) ⟨g5, off5, none⟩ x.1.length vxc (x.1.map (Value.int .i64)) rfl (by simp) (fun j u hj => HN5.out _ OA.out.keep j u hj) (ints_one _) (by omega) (by unfold maxLen; omega) (by omega) (Nat.zero_le _) _ rfl ?_; intro gE cE wE hown hgrow hat hltE; rw [Nat.zero_add, List.nil_append] at hown; have OE := Lib.hid (OA.out.turnD (i := 0) (by simp) rfl hgrow hown hat); clear hown hgrow hat; have hz := (OE.out.row 0 (by simp) rfl).cellAt k (by omega); rw [List.getElem?_map, List.getElem?_eq_getElem hxk, Option.map_some] at hz; have hf := (OE.out.row 0 (by simp) rfl).frozenAt k; have OF := Lib.hid (by have h := OE.out.store (i := 0) (by simp) rfl k (.int .i64 duty); simp only [List.set_cons_zero, int_set] at h; exact h); have IF : Hid (IsInts (wE.setCell ⟨gE, k, none⟩ (.int .i64 duty)) (.slice (some ⟨gE, 0, none⟩) x.1.length cE) (x.1.set k (duty : Int))) := Lib.hid (IsInts.of_ownsN (by simp) (OF.out.row 0 (by simp) rfl)))
                refine bodyPost_ret (res3 rfl _ _ _) rfl ?_
                rw [HE.out, HY.out]
                exact ⟨_, rfl, IF.out, Q3.out.trans (OF.out.keep.mono Q3.out.size)⟩
              · have HN9 := Lib.hid (HNO.out hx)
                rw [hx]
                go_wp2_with fail
                go_roundw
                case rel => exact ⟨k + 1, x.2.1, by omega, rfl, by go_num, Lib.hid (HE.out.trans HN9.out), HU2, HT2, X3.out, W3.out, Q3.out⟩
                case measure => simp [intOf]; omega
      · rw [if_neg hb1] at hsb
        have hb1' : cs[duty].testBit k = false := by simpa using hb1
        have HSK := Lib.hid (mvL_skip (rec := rec) (duty := duty) (c := ca cs duty) (tr := tr) HHH.out.len hlt (by rw [hcd2, hb1']; rfl))
        clear hb1 hb1' hcd2 hst
        generalize cs[duty] = c9 at hcell hc64 hsb
        go_wp2_with fail
        go_roundw
        case rel => exact ⟨k + 1, tr, by omega, rfl, by go_num, Lib.hid (HE.out.trans HSK.out), HU, HT, X2.out, W2.out, Q2.out⟩
        case measure => simp [intOf]; omega
    · obtain rfl : k = n := by omega
      have HF : Hid (mvL rec (ca cs duty) k duty has (k - k) tr = (has, tr, false)) := by
        have : mvL rec (ca cs duty) k duty has (k - k) tr = (has, tr, false) := by rw [Nat.sub_self]; rfl
        exact Lib.hid this
      go_wp2_with fail
      refine bodyPost_ret (res3 rfl _ _ _) rfl ?_
      rw [HE.out, HF.out]
      exact ⟨_, rfl, W2.out, Q2.out⟩
end Go.Proofs.Ythihcnlbohhemaa
