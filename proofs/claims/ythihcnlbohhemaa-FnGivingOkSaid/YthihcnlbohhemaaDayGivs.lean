/- spec.l8Givings: all right givings, as rows in memory. No condition. -/
import Derived.Test.YthihcnlbohhemaaDayMove
import Derived.Test.YthihcnlbohhemaaDayCnt
import Derived.Deep.CutRange
import Derived.Deep.RegionHeld3
import Derived.Laws.AppendOwnNone
namespace Go.Proofs.Ythihcnlbohhemaa
open Go.RowKit

theorem run_append_zeroD {P : Program} {w : World} (base : Nat) (t ty e : TypeId) (i : TypeInfo) (size : Nat) (ht : P.underlying t = some (.slice e)) (hi : P.info? e = some i)
    (v : Value) (n : Nat) (xs : List Value) (hown : w.ownsRow base e size v n xs) (p : Option Addr) (c : Nat) :
    (Builtin.append_ #[t, t] ty #[v, .slice p 0 c]).run P w = .ok v w := by
  rcases hown.2 with ⟨rfl, rfl⟩ | ⟨g, cap, cur, rfl, _, _, hnc, _⟩
  · cases p <;> simp [Builtin.append_, run_underlying ht, sizeOf, typeInfo, hi, Builtin.lenOf, Builtin.firstCells, loadCells, loadCellsFrom, Result.andThen]
  · cases p <;> simp [Builtin.append_, run_underlying ht, sizeOf, typeInfo, hi, Builtin.lenOf, Builtin.firstCells, hnc, storeCells, loadCells, loadCellsFrom, Result.andThen]
theorem step_append_zeroD {P : Program} {w : World} {ops : Array Oper} {o : Oper} {a : Act} {K : Act → World → Prop} {Q : Exit → Act → World → Prop} {E : Prop} (hgd : o.guard = none) (s x : Operand) (t : TypeId)
    (ho : o.op = .call { callee := .builtin .append, args := #[s, x], argTypes := #[t, t] })
    (base : Nat) (e : TypeId) (i : TypeInfo) (size : Nat) (ht : P.underlying t = some (.slice e)) (hi : P.info? e = some i)
    (v : Value) (n : Nat) (xs : List Value) (hs : a.eval s = v) (hown : w.ownsRow base e size v n xs) (p : Option Addr) (c : Nat) (hx : a.eval x = .slice p 0 c)
    (h : K (a.put o.dst v) w) : if Region.wanted o (yielded ops a.tmps) = true then Oper.wp P o a w K Q else E := by
  have hw : Region.wanted o (yielded ops a.tmps) = true := by simp [Region.wanted, hgd]
  rw [if_pos hw]
  have hrun := run_append_zeroD (P := P) (w := w) base t o.type e i size ht hi v n xs hown p c
  unfold Oper.wp
  simp [execOp, ho, resolve, invoke, builtin, hs, hx, hrun, Result.andThen]
  exact h
theorem infoRowD : (Try.prog.info? 23).map (fun i => (i.zero, i.size, i.bytes)) = some (some (.slice none 0 0), 1, 24) := by kernel_rfl
theorem row_news {w : World} {base b n c : Nat} {e : TypeId} {xs : List Value} (h : w.ownsRow base e 1 (.slice (some ⟨b, 0, none⟩) n c) n xs) (hl : xs.length = n) : ∀ j u, xs[j]? = some u → w.cell? ((⟨b, 0, none⟩ : Addr).add j) = some u := fun j u hj => by
  obtain ⟨hjl, _⟩ := List.getElem?_eq_some_iff.1 hj
  rw [add_off, Nat.zero_add, h.cellAt j (by omega)]
  exact hj

/-- numbers that lie in no block of that name, from L on -/
def FarI (b : Option Nat) (L : Nat) (w : World) (v : Value) (xs : List Int) : Prop :=
  ∃ (a : Option Addr) (cap : Nat), v = .slice a xs.length cap ∧ xs.length ≤ cap ∧ cap ≤ maxLen ∧
    (xs = [] ∨ ∃ g off : Nat, a = some ⟨g, off, none⟩ ∧ L ≤ g ∧ g < w.heap.size ∧ b ≠ some g ∧ ∀ k (h : k < xs.length), w.cell? ⟨g, off + k, none⟩ = some (.int .i64 xs[k]))
theorem FarI.ints {b : Option Nat} {L : Nat} {w : World} {v : Value} {xs : List Int} (h : FarI b L w v xs) : IsInts w v xs := by
  obtain ⟨a, cap, hv, h1, h2, h3⟩ := h
  exact ⟨a, cap, hv, h1, h2, h3.imp id fun ⟨g, off, ha, _, hg, _, hc⟩ => ⟨g, off, ha, hg, hc⟩⟩
theorem FarI.one {b : Option Nat} {L : Nat} {w : World} {v : Value} {xs : List Int} (h : FarI b L w v xs) : v.oneCell' = true := by
  obtain ⟨a, cap, rfl, _⟩ := h; rfl
theorem IsInts.one {w : World} {v : Value} {xs : List Int} (h : IsInts w v xs) : v.oneCell' = true := by
  obtain ⟨a, cap, rfl, _⟩ := h; rfl
theorem FarI.below {b : Option Nat} {L : Nat} {w w' : World} {v : Value} {xs : List Int} (h : FarI b L w v xs) (hb : Below w.heap.size w w') : FarI b L w' v xs := by
  obtain ⟨a, cap, hv, h1, h2, h3⟩ := h
  exact ⟨a, cap, hv, h1, h2, h3.imp id fun ⟨g, off, ha, hL, hg, hn, hc⟩ => ⟨g, off, ha, hL, Nat.lt_of_lt_of_le hg hb.size, hn, fun k hk => (hb.cell (p := ⟨g, off + k, none⟩) hg).trans (hc k hk)⟩⟩
/-- the row beside turns -/
theorem FarI.turn {b b' : Option Nat} {L : Nat} {w w' : World} {v : Value} {xs : List Int} (h : FarI b L w v xs) (hg : w.grownBy w' b) (hb : b' = b ∨ b' = some w.heap.size) : FarI b' L w' v xs := by
  obtain ⟨a, cap, hv, h1, h2, h3⟩ := h
  refine ⟨a, cap, hv, h1, h2, h3.imp id ?_⟩
  rintro ⟨g, off, ha, hL, hgl, hn, hc⟩
  refine ⟨g, off, ha, hL, Nat.lt_of_lt_of_le hgl hg.size, ?_, fun k hk => (hg.cell_far ⟨g, off + k, none⟩ hgl (fun e => hn e.symm)).trans (hc k hk)⟩
  rcases hb with rfl | rfl
  · exact hn
  · intro e; cases e; exact absurd hgl (Nat.lt_irrefl _)
/-- a row of values -/
def IsCol (w : World) (v : Value) (vs : List Value) : Prop :=
  ∃ (a : Option Addr) (cap : Nat), v = .slice a vs.length cap ∧ vs.length ≤ cap ∧ cap ≤ maxLen ∧
    (vs = [] ∨ ∃ g off : Nat, a = some ⟨g, off, none⟩ ∧ g < w.heap.size ∧ ∀ k (h : k < vs.length), w.cell? ⟨g, off + k, none⟩ = some vs[k])
theorem IsCol.of_owns {w : World} {base : Nat} {e : TypeId} {v : Value} {vs : List Value} (h : w.ownsRow base e 1 v vs.length vs) : IsCol w v vs := by
  rcases h.2 with ⟨rfl, hn⟩ | ⟨g, cap, cur, rfl, hb, hg, h1, h2, h3, h4⟩
  · obtain rfl : vs = [] := List.eq_nil_of_length_eq_zero hn
    exact ⟨none, 0, rfl, Nat.le_refl _, Nat.zero_le _, .inl rfl⟩
  · refine ⟨some ⟨g, 0, none⟩, cap, rfl, h1, h2, .inr ⟨g, 0, rfl, (h.lt g rfl).2, fun k hk => ?_⟩⟩
    rw [Nat.zero_add, h.cellAt k (by omega)]
    simp [hk]
theorem IsCol.news {w : World} {v : Value} {vs : List Value} (h : IsCol w v vs) (h0 : 0 < vs.length) : ∃ (g off cap : Nat), v = .slice (some ⟨g, off, none⟩) vs.length cap ∧ ∀ j u, vs[j]? = some u → w.cell? ((⟨g, off, none⟩ : Addr).add j) = some u := by
  obtain ⟨a, cap, rfl, h1, h2, h3⟩ := h
  obtain ⟨g, off, rfl, hg, hc⟩ := h3.resolve_left (fun h => by rw [h] at h0; exact absurd h0 (Nat.lt_irrefl _))
  refine ⟨g, off, cap, rfl, fun j u hj => ?_⟩
  obtain ⟨hjl, rfl⟩ := List.getElem?_eq_some_iff.1 hj
  rw [add_off]; exact hc j hjl
/-- what l8Givings leaves -/
def GivsPost (L : List (List Int)) (q : Nat) (wv : Value) (who : List Int) (w : World) (e : Ending) (w' : World) : Prop :=
  ∃ (qs : List (Value × List Int)) (ra : Option Addr) (rc : Nat), e = .returned (.slice ra q rc) ∧ qs.map Prod.snd = L.map (fun l => who ++ l) ∧ qs.length = q ∧ IsCol w' (.slice ra q rc) (qs.map Prod.fst) ∧
    (∀ p ∈ qs, p = (wv, who) ∨ FarI none w.heap.size w' p.1 p.2) ∧ Below w.heap.size w w'

/-- the givings by one of the people -/
def gOne (n c : Nat) (cs : List Nat) (u p : Nat) : List (List Int) := if c.testBit p && !u.testBit p then (givs n cs (u ||| 2 ^ p)).map ((p : Int) :: ·) else []
def gTo (n c : Nat) (cs : List Nat) (u k : Nat) : List (List Int) := (List.range k).flatMap (gOne n c cs u)
theorem gTo_all (n c : Nat) (cs : List Nat) (u : Nat) : gTo n c cs u n = givs n (c :: cs) u := rfl
theorem gTo_zero (n c : Nat) (cs : List Nat) (u : Nat) : gTo n c cs u 0 = [] := rfl
theorem gTo_succ (n c : Nat) (cs : List Nat) (u k : Nat) : gTo n c cs u (k + 1) = gTo n c cs u k ++ gOne n c cs u k := by
  unfold gTo; rw [List.range_succ, List.flatMap_append]; simp
theorem gTo_length (n c : Nat) (cs : List Nat) (u k : Nat) : (gTo n c cs u k).length = cgTo n c cs u k := by
  unfold gTo cgTo
  rw [length_flatMap_range]
  refine sm_congr (fun p _ => ?_)
  unfold gOne cg
  split <;> simp
theorem gOne_yes {n c u p : Nat} {cs : List Nat} (h : (c.testBit p && !u.testBit p) = true) (who : List Int) : (gOne n c cs u p).map (fun l => who ++ l) = (givs n cs (u ||| 2 ^ p)).map (fun l => (who ++ [(p : Int)]) ++ l) := by
  unfold gOne
  rw [if_pos h, List.map_map]
  apply List.map_congr_left
  intro l _
  simp
theorem gOne_no {n c u p : Nat} {cs : List Nat} (h : (c.testBit p && !u.testBit p) = false) : gOne n c cs u p = [] := by
  unfold gOne; rw [h]; rfl

theorem far_new {b : Option Nat} {L : Nat} {W wF w5 : World} {v2 : Value} {w2 : List Int} {gF c2 : Nat} {x : Value × List Int} (h : x = (v2, w2) ∨ FarI none wF.heap.size w5 x.1 x.2) (hI : IsInts w5 v2 w2) (hv : v2 = .slice (some ⟨gF, 0, none⟩) w2.length c2)
    (h1 : W.heap.size ≤ gF) (h3 : W.heap.size ≤ wF.heap.size) (h4 : L ≤ W.heap.size) (hb : ∀ k, b = some k → k < W.heap.size) : FarI b L w5 x.1 x.2 := by
  rcases h with rfl | ⟨a, cap, hx, k1, k2, k3⟩
  · obtain ⟨a, cap, he, k1, k2, k3⟩ := hI
    refine ⟨a, cap, he, k1, k2, k3.imp id ?_⟩
    rintro ⟨g, off, ha, hg, hc⟩
    rw [hv] at he
    simp only [Value.slice.injEq] at he
    obtain ⟨rfl, _, _⟩ := he
    simp only [Option.some.injEq, Addr.mk.injEq] at ha
    obtain ⟨rfl, rfl, _⟩ := ha
    exact ⟨_, _, rfl, by omega, hg, fun e => by have := hb _ e; omega, hc⟩
  · refine ⟨a, cap, hx, k1, k2, k3.imp id ?_⟩
    rintro ⟨g, off, ha, hL, hg, _, hc⟩
    exact ⟨g, off, ha, by omega, hg, fun e => by have := hb _ e; omega, hc⟩
theorem far_all {b : Option Nat} {L : Nat} {W w5 wG : World} {ps qs : List (Value × List Int)} {gG : Nat} (hP : ∀ x ∈ ps, FarI b L W x.1 x.2) (kb : Below W.heap.size W w5) (hQ : ∀ x ∈ qs, FarI b L w5 x.1 x.2) (hg : w5.grownBy wG b) (hat : b = some gG ∨ gG = w5.heap.size) :
    ∀ x ∈ ps ++ qs, FarI (some gG) L wG x.1 x.2 := by
  intro x hx
  have h5 : FarI b L w5 x.1 x.2 := by
    rcases List.mem_append.1 hx with h | h
    · exact (hP x h).below kb
    · exact hQ x h
  exact h5.turn hg (hat.imp (fun e => e.symm) (fun e => by rw [e]))
theorem far_one {b : Option Nat} {L : Nat} {w : World} {qs : List (Value × List Int)} (h : ∀ x ∈ qs, FarI b L w x.1 x.2) : ∀ u ∈ qs.map Prod.fst, u.oneCell' = true := by
  intro u hu
  obtain ⟨x, hx, rfl⟩ := List.mem_map.1 hu
  exact (h x hx).one

set_option maxRecDepth 20000 in
set_option maxHeartbeats 6400000 in
theorem l8Givings_any {n : Nat} {cs : List Nat} (G : Good n cs) : ∀ (r : Nat) (who : List Int), who.length + r = cs.length → ∀ (u : Nat) (cv wv : Value) (w : World), u < 64 → IsNats w cv cs → IsInts w wv who →
    Calls Try.prog 108 #[.agg #[.int .i64 n, cv], wv, .int .i64 u] w (GivsPost (givs n (cs.drop who.length) u) (givs n (cs.drop who.length) u).length wv who w) := by
  obtain ⟨i0, hi, hz0, hz1, hz2⟩ := info_parts infoIntD
  have HII := Lib.hid (And.intro hi (And.intro hz0 (And.intro hz1 hz2)))
  obtain ⟨j0, hj, hy0, hy1, hy2⟩ := info_parts infoRowD
  have HJJ := Lib.hid (And.intro hj (And.intro hy0 (And.intro hy1 hy2)))
  clear hi hz0 hz1 hz2 hj hy0 hy1 hy2
  intro r
  induction r with
  | zero =>
    intro who hr u cv wv w hu h1 h2
    have hr' : ((who.length : Int) == (cs.length : Int)) = true := by simp; omega
    have HD : Hid (givs n (cs.drop who.length) u = [[]]) := by
      have : givs n (cs.drop who.length) u = [[]] := by rw [List.drop_eq_nil_of_le (by omega)]; rfl
      exact Lib.hid this
    have hB0 : Below w.heap.size w (w.alloc (.cells #[.int .i64 n, cv] 44)) := (Below.refl _ _).alloc (Nat.le_refl _) _
    have OL := Lib.hid (((Own.nil w).alloc (.cells #[.int .i64 n, cv] 44)).lit 23 #[wv] 1 rfl (by unfold maxLen; omega))
    have Q1 := Lib.hid (hB0.alloc hB0.size (.cells #[wv] 23))
    obtain ⟨a, cap, rfl, ha1, ha2, _⟩ := h1
    obtain ⟨b, cbp, rfl, hb1, hb2, _⟩ := h2
    unfold maxLen at ha2 hb2
    have hl5 := G.l5
    clear hB0
    go_enter Try.func108, Try.ntmps108
    go_wp2_with fail
    go_ret
    rw [HD.out]
    refine ⟨[(.slice b who.length cbp, who)], _, _, rfl, by simp, rfl, IsCol.of_owns (by have h := OL.out.row 0 (by simp) rfl; simp only [World.size_alloc] at h; exact h), fun p hp => .inl (by simpa using hp), Q1.out⟩
  | succ r ih =>
    intro who hr u cv wv w hu h1 h2
    have hklt : who.length < cs.length := by omega
    have hr' : ((who.length : Int) == (cs.length : Int)) = false := by simp; omega
    have HD : Hid (cs.drop who.length = cs[who.length] :: cs.drop (who.length + 1)) := Lib.hid (List.drop_eq_getElem_cons hklt)
    have IH : Hid (∀ (p u : Nat) (cv wv : Value) (w : World), u < 64 → IsNats w cv cs → IsInts w wv (who ++ [(p : Int)]) → Calls Try.prog 108 #[.agg #[.int .i64 n, cv], wv, .int .i64 u] w (GivsPost (givs n (cs.drop (who.length + 1)) u) (givs n (cs.drop (who.length + 1)) u).length wv (who ++ [(p : Int)]) w)) := Lib.hid (fun p u cv wv w hu h1 h2 => by
      have := ih (who ++ [(p : Int)]) (by simp; omega) u cv wv w hu h1 h2
      rwa [List.length_append, List.length_singleton] at this)
    have HW := Lib.hid h2
    have HC1 := Lib.hid h1
    have HG := Lib.hid G
    have hl5 := G.l5
    have hn6 := G.n6
    obtain ⟨a, c0, rfl, ha1, ha2, _⟩ := h1
    obtain ⟨wa, wcp, rfl, hb1, hb2, _⟩ := h2
    have OS := Lib.hid (((Own.nil w).box #[.int .i64 n, .slice a cs.length c0] 44).lit 23 #[] 0 rfl (Nat.zero_le _))
    unfold maxLen at ha2 hb2
    clear ih G hr
    go_enter Try.func108, Try.ntmps108
    go_wp2_with fail
    go_loopw [7, 8] (fun v i wr => ∃ (p : Nat) (oa : Option Addr) (oc : Nat) (ps : List (Value × List Int)), p ≤ n ∧ v = .slice oa ps.length oc ∧ i = .int .i64 p ∧ Own w [rowT 23 1 (.slice oa ps.length oc) ps.length (ps.map Prod.fst), cellsT w.heap.size #[.int .i64 n, .slice a cs.length c0] 44] wr ∧ Hid (ps.map Prod.snd = (gTo n cs[who.length] (cs.drop (who.length + 1)) u p).map (fun l => who ++ l)) ∧ Hid (∀ x ∈ ps, FarI (Value.slice oa ps.length oc).ownBlock w.heap.size wr x.1 x.2)) (fun _ i _ => n - (intOf i).toNat)
    case atStart => exact ⟨0, _, _, [], Nat.zero_le _, rfl, rfl, by have h := OS.out; simp only [World.size_alloc] at h; exact h, Lib.hid rfl, Lib.hid (by simp)⟩
    case round =>
      obtain ⟨p, oa, oc, ps, hp, rfl, rfl, hO, HPS, HFP⟩ := hrel
      have OW := Lib.hid hO
      have x0 := cellsT_cell (hO.cells 1 (by simp) rfl) 0
      have x1 := cellsT_cell (hO.cells 1 (by simp) rfl) 1
      simp only [List.getElem?_toArray, List.getElem?_cons_zero, List.getElem?_cons_succ] at x0 x1
      have hkeep := hO.keep
      have hlt1 : w.heap.size < wr.heap.size := (hO.ap.ltAt 1 (by simp) w.heap.size rfl).2
      have HOB : Hid (∀ k, (Value.slice oa ps.length oc).ownBlock = some k → k < wr.heap.size) := Lib.hid (fun k hk => (hO.ap.ltAt 0 (by simp) k hk).2)
      clear hO OS
      have hpl : ps.length = cgTo n cs[who.length] (cs.drop (who.length + 1)) u p := by
        have := congrArg List.length HPS.out
        rw [List.length_map, List.length_map, gTo_length] at this; exact this
      by_cases hlt : p < n
      · have hlt' : (p : Int) < (n : Int) := by omega
        have hp64 : p < 64 := by omega
        obtain ⟨ab, cb3, hsl, _, _, HA⟩ := HC1.out
        simp only [Value.slice.injEq, true_and] at hsl
        obtain ⟨rfl, rfl⟩ := hsl
        obtain ⟨g2, off2, rfl, hg2, hc2⟩ := HA.resolve_left (fun h => by rw [h] at hklt; exact absurd hklt (Nat.not_lt_zero _))
        have hcell2 := (hkeep.cell (p := ⟨g2, off2 + who.length, none⟩) hg2).trans (hc2 who.length hklt)
        have hc64 := HG.out.lt64 who.length hklt
        have hsb := shr_bit cs[who.length] p
        have hsu := shr_bit u p
        clear hc2
        have hplb : ps.length ≤ 46656 := by rw [hpl]; exact cgTo_bd hn6 (by rw [List.length_drop]; omega) (by omega)
        by_cases hb : (cs[who.length].testBit p && !u.testBit p) = true
        · simp only [Bool.and_eq_true, Bool.not_eq_true'] at hb
          obtain ⟨hb1, hb2⟩ := hb
          rw [if_pos hb1] at hsb
          rw [hb2] at hsu
          simp only [Bool.false_eq_true, if_false] at hsu
          have hbb : (cs[who.length].testBit p && !u.testBit p) = true := by rw [hb1, hb2]; rfl
          obtain ⟨q3, q4⟩ := or_pow u p hu (by omega)
          obtain ⟨Q, hQ, hQ2, hQ3, hQ4⟩ := pow_small p (by omega)
          have hQw : IntKind.i64.wrap (Q : Int) = Q := IntWalk.i64_in _ (by omega)
          rw [hQ] at q3 hsb hsu
          have hqb := cg_small (n := n) (u := u ||| 2 ^ p) (cs := cs.drop (who.length + 1)) hn6 (by rw [List.length_drop]; omega)
          have HPS2 : Hid (∀ qs : List (Value × List Int), qs.map Prod.snd = (givs n (cs.drop (who.length + 1)) (u ||| 2 ^ p)).map (fun l => (who ++ [(p : Int)]) ++ l) → (ps ++ qs).map Prod.snd = (gTo n cs[who.length] (cs.drop (who.length + 1)) u (p + 1)).map (fun l => who ++ l)) := Lib.hid (fun qs h => by rw [List.map_append, h, gTo_succ, List.map_append, gOne_yes hbb, HPS.out])
          have hqb' : (givs n (cs.drop (who.length + 1)) (u ||| 2 ^ p)).length ≤ 46656 := hqb
          obtain ⟨q0, hq0⟩ : ∃ q0, (givs n (cs.drop (who.length + 1)) (u ||| 2 ^ p)).length = q0 := ⟨_, rfl⟩
          have HC : Hid (∀ (v2 : Value) (W : World), IsNats W (.slice (some ⟨g2, off2, none⟩) cs.length c0) cs → IsInts W v2 (who ++ [(p : Int)]) → Calls Try.prog 108 #[.agg #[.int .i64 n, .slice (some ⟨g2, off2, none⟩) cs.length c0], v2, .int .i64 ((u ||| 2 ^ p : Nat) : Int)] W (GivsPost (givs n (cs.drop (who.length + 1)) (u ||| 2 ^ p)) q0 v2 (who ++ [(p : Int)]) W)) := Lib.hid (fun v2 W h1 h2 => hq0 ▸ IH.out p (u ||| 2 ^ p) _ v2 W q4 h1 h2)
          rw [hq0] at hqb'
          have HX : Hid (∀ V, Below wr.heap.size wr V → IsNats V (.slice (some ⟨g2, off2, none⟩) cs.length c0) cs) := Lib.hid (fun V hV => HC1.out.below (hkeep.trans (hV.mono OW.out.size)))
          have HBX : Hid (∀ V, Below wr.heap.size wr V → V.cell? ⟨w.heap.size, 0, none⟩ = some (.int .i64 n) ∧ V.cell? ⟨w.heap.size, 1, none⟩ = some (.slice (some ⟨g2, off2, none⟩) cs.length c0)) := Lib.hid (fun V hV => ⟨(hV.cell (p := ⟨w.heap.size, 0, none⟩) hlt1).trans x0, (hV.cell (p := ⟨w.heap.size, 1, none⟩) hlt1).trans x1⟩)
          have OD := Lib.hid ((Own.nil wr).same (grown_drew wr none))
          have OA : Hid (Own wr [rowT 3 1 (.slice (some ⟨wr.heap.size, 0, none⟩) 0 0) 0 []] (wr.drew.alloc (.cells #[] 3))) := Lib.hid (OD.out.lit 3 #[] 0 rfl (Nat.zero_le _))
          have OT : Hid (Own wr [rowT 3 1 (.slice (some ⟨wr.heap.size, 0, none⟩) 1 1) 1 #[.int .i64 (p : Int)].toList] (wr.drew.alloc (.cells #[.int .i64 (p : Int)] 3))) := Lib.hid (OD.out.lit 3 #[.int .i64 (p : Int)] 1 rfl (by unfold maxLen; omega))
          have eA : (wr.drew.alloc (.cells #[] 3)).heap.size = wr.heap.size + 1 := by simp
          have eT : (wr.drew.alloc (.cells #[.int .i64 (p : Int)] 3)).heap.size = wr.heap.size + 1 := by simp
          have OB : Hid (Own wr [rowT 3 1 (.slice (some ⟨(wr.heap.size + 1), 0, none⟩) 1 1) 1 #[.int .i64 (p : Int)].toList, rowT 3 1 (.slice (some ⟨wr.heap.size, 0, none⟩) 0 0) 0 []] ((wr.drew.alloc (.cells #[] 3)).alloc (.cells #[.int .i64 (p : Int)] 3))) := Lib.hid (by have h := OA.out.lit 3 #[.int .i64 (p : Int)] 1 rfl (by unfold maxLen; omega); rw [eA] at h; exact h)
          have OC : Hid (Own wr [rowT 3 1 (.slice (some ⟨(wr.heap.size + 1), 0, none⟩) 0 0) 0 [], rowT 3 1 (.slice (some ⟨wr.heap.size, 0, none⟩) 1 1) 1 #[.int .i64 (p : Int)].toList] ((wr.drew.alloc (.cells #[.int .i64 (p : Int)] 3)).alloc (.cells #[] 3))) := Lib.hid (by have h := OT.out.lit 3 #[] 0 rfl (Nat.zero_le _); rw [eT] at h; exact h)
          clear eA eT hb1 hb2 hbb hqb hQ2 hpl
          generalize ht2 : u ||| 2 ^ p = t2 at q3 q4 HC HPS2
          generalize cs[who.length] = c9 at hcell2 hsb hc64 HPS2
          clear ht2 hq0
          go_upto_region 8 with fail
          clear x0 x1 hcell2
          by_cases hq0p : 0 < q0
          · by_cases hnil : who = []
            · have HW0 := Lib.hid hnil
              have HLZ : Hid (Value.slice wa who.length wcp = Value.slice wa 0 wcp) := Lib.hid (by rw [hnil]; rfl)
              clear hnil
              go_region_held3 (fun w' => w'.cell? ⟨w.heap.size, 0, none⟩ = some (.int .i64 n) ∧ w'.cell? ⟨w.heap.size, 1, none⟩ = some (.slice (some ⟨g2, off2, none⟩) cs.length c0))
                (first | exact ⟨cellsT_cell (O6.out.cells 1 (by simp) rfl) 0, cellsT_cell (O6.out.cells 1 (by simp) rfl) 1⟩ | exact HBX.out _ kb.out | exact HBX.out _ O4.out.keep | exact HBX.out _ OB.out.keep | exact HBX.out _ OC.out.keep | exact HBX.out _ OA.out.keep | exact HBX.out _ OT.out.keep | exact HBX.out _ OD.out.keep)
                (first | (refine step_append_lies _ rfl _ _ 80 rfl 0 23 j0 (.slice none 0 0) 1 24 Try.underlying80 HJJ.out.1 HJJ.out.2.1 HJJ.out.2.2.1 HJJ.out.2.2.2 rfl (by decide) (.slice oa ps.length oc) ps.length (ps.map Prod.fst) rfl (O5.out.row 0 (by simp) rfl) ⟨g5, off5, none⟩ q0 rc (qs.map Prod.fst) rfl (by rw [List.length_map, HQ2.out, Nat.mul_one]) HN5.out HON.out (by omega) (by unfold maxLen; omega) (by omega) (Nat.zero_le _) _ rfl ?_; intro gG cG wG hown hgrow hat hltG; have O6 := Lib.hid (O5.out.turnD (i := 0) (by simp) rfl hgrow hown hat); have FA : Hid (∀ x ∈ ps ++ qs, FarI (some gG) w.heap.size wG x.1 x.2) := Lib.hid (far_all HFP.out kb.out FQ.out hgrow hat); clear hown hgrow hat hltG) | (go_at_call 108; refine (HC.out (.slice (some ⟨gF, 0, none⟩) (0 + 1) cF) wF (HX.out _ O4.out.keep) I4.out).mono ?_; rintro e w5 ⟨qs, ra, rc, rfl, hq1, hq2, hq3, hq4, hb5⟩; have kb : Hid (Below wr.heap.size wr w5) := Lib.hid (O4.out.keep.trans (hb5.mono O4.out.size)); have O5 := Lib.hid (OW.out.below kb.out); have FQ : Hid (∀ x ∈ qs, FarI (Value.slice oa ps.length oc).ownBlock w.heap.size w5 x.1 x.2) := Lib.hid (fun x hx => far_new (hq4 x hx) (I4.out.below hb5) (by rw [HW0.out, List.length_append]; rfl) LF.out.1 O4.out.size OW.out.size HOB.out); have HQ1 := Lib.hid hq1; have HQ2 := Lib.hid hq2; have HQ3 := Lib.hid hq3; clear hq1 hq2 hq3 hq4 hb5; have HON : Hid (∀ u ∈ qs.map Prod.fst, u.oneCell' = true) := Lib.hid (far_one FQ.out); obtain ⟨g5, off5, c5, hsl, hn5⟩ := HQ3.out.news (by rw [List.length_map, HQ2.out]; exact hq0p); simp only [Value.slice.injEq] at hsl; obtain ⟨rfl, -, -⟩ := hsl; have HN5 := Lib.hid hn5; clear hn5) | (refine step_append_lies _ rfl _ _ 23 rfl 0 3 i0 (.int .i64 0) 1 8 Try.underlying23 HII.out.1 HII.out.2.1 HII.out.2.2.1 HII.out.2.2.2 rfl (by decide) (.slice (some ⟨wr.heap.size, 0, none⟩) 0 0) (0) ([]) (by first | rfl | (show Value.slice _ (0 + who.length) _ = _; rw [Nat.zero_add])) (OB.out.row 1 (by simp) rfl) ⟨(wr.heap.size + 1), 0, none⟩ 1 1 [.int .i64 (p : Int)] rfl rfl (row_news (OB.out.row 0 (by simp) rfl) rfl) (by simp [Value.oneCell']) (by omega) (by unfold maxLen; omega) (by omega) (Nat.zero_le _) _ rfl ?_; intro gF cF wF hown hgrow hat hlt3; have O4 := Lib.hid (OB.out.turnD (i := 1) (by simp) rfl hgrow hown hat); have I4 : Hid (IsInts wF (.slice (some ⟨gF, 0, none⟩) (0 + 1) cF) (who ++ [(p : Int)])) := Lib.hid (IsInts.of_ownsN (m := 0 + 1) (by rw [HW0.out]; rfl) (by rw [HW0.out, List.map_append]; exact O4.out.row 1 (by simp) rfl)); have LF : Hid (wr.heap.size ≤ gF ∧ gF < wF.heap.size) := Lib.hid (O4.out.ap.ltAt 1 (by simp) gF rfl); clear hown hgrow hat hlt3) | (refine step_append_lies _ rfl _ _ 23 rfl 0 3 i0 (.int .i64 0) 1 8 Try.underlying23 HII.out.1 HII.out.2.1 HII.out.2.2.1 HII.out.2.2.2 rfl (by decide) (.slice (some ⟨(wr.heap.size + 1), 0, none⟩) 0 0) (0) ([]) (by first | rfl | (show Value.slice _ (0 + who.length) _ = _; rw [Nat.zero_add])) (OC.out.row 0 (by simp) rfl) ⟨wr.heap.size, 0, none⟩ 1 1 [.int .i64 (p : Int)] rfl rfl (row_news (OC.out.row 1 (by simp) rfl) rfl) (by simp [Value.oneCell']) (by omega) (by unfold maxLen; omega) (by omega) (Nat.zero_le _) _ rfl ?_; intro gF cF wF hown hgrow hat hlt3; have O4 := Lib.hid (OC.out.turnD (i := 0) (by simp) rfl hgrow hown hat); have I4 : Hid (IsInts wF (.slice (some ⟨gF, 0, none⟩) (0 + 1) cF) (who ++ [(p : Int)])) := Lib.hid (IsInts.of_ownsN (m := 0 + 1) (by rw [HW0.out]; rfl) (by rw [HW0.out, List.map_append]; exact O4.out.row 0 (by simp) rfl)); have LF : Hid (wr.heap.size ≤ gF ∧ gF < wF.heap.size) := Lib.hid (O4.out.ap.ltAt 0 (by simp) gF rfl); clear hown hgrow hat hlt3) | (refine step_append_zeroD rfl _ _ 23 rfl 0 3 i0 1 Try.underlying23 HII.out.1 (.slice (some ⟨wr.heap.size, 0, none⟩) 0 0) 0 [] rfl (OA.out.row 0 (by simp) rfl) wa wcp HLZ.out ?_) | (refine step_append_zeroD rfl _ _ 23 rfl 0 3 i0 1 Try.underlying23 HII.out.1 (.slice (some ⟨wr.heap.size, 0, none⟩) 0 0) 0 [] rfl (OB.out.row 1 (by simp) rfl) wa wcp HLZ.out ?_) | (refine step_append_zeroD rfl _ _ 23 rfl 0 3 i0 1 Try.underlying23 HII.out.1 (.slice (some ⟨(wr.heap.size + 1), 0, none⟩) 0 0) 0 [] rfl (OC.out.row 0 (by simp) rfl) wa wcp HLZ.out ?_))
              all_goals
                have HP9 := Lib.hid (HPS2.out qs HQ1.out)
                have HL9 : Hid (ps.length + q0 = (ps ++ qs).length) := by
                  have : ps.length + q0 = (ps ++ qs).length := by rw [List.length_append, HQ2.out]
                  exact Lib.hid this
                have O9 := Lib.hid O6.out
                rw [HL9.out] at O9
                simp only [List.set_cons_zero, ← List.map_append] at O9
                go_wp2_with fail
                go_roundw
                case rel => exact ⟨p + 1, some ⟨gG, 0, none⟩, cG, ps ++ qs, by omega, by rw [HL9.out], by go_num, O9.out, HP9, FA⟩
                case measure => simp [intOf]; omega
            · obtain ⟨g, off, cap9, hsl, hcc1, hcc2, HN9⟩ := HW.out.newsD (List.length_pos_iff.2 hnil)
              simp only [Value.slice.injEq, true_and] at hsl
              obtain ⟨rfl, rfl⟩ := hsl
              have HN : Hid (∀ V, Below wr.heap.size wr V → ∀ j u, (who.map (Value.int .i64))[j]? = some u → V.cell? ((⟨g, off, none⟩ : Addr).add j) = some u) := Lib.hid (fun V hV => HN9 V (hkeep.trans (hV.mono OW.out.size)))
              have hpos : 0 < who.length := List.length_pos_iff.2 hnil
              clear HN9 hnil
              go_region_held3 (fun w' => w'.cell? ⟨w.heap.size, 0, none⟩ = some (.int .i64 n) ∧ w'.cell? ⟨w.heap.size, 1, none⟩ = some (.slice (some ⟨g2, off2, none⟩) cs.length c0))
                (first | exact ⟨cellsT_cell (O6.out.cells 1 (by simp) rfl) 0, cellsT_cell (O6.out.cells 1 (by simp) rfl) 1⟩ | exact HBX.out _ kb.out | exact HBX.out _ O4.out.keep | exact HBX.out _ O3.out.keep | exact HBX.out _ O2.out.keep | exact HBX.out _ OB.out.keep | exact HBX.out _ OC.out.keep | exact HBX.out _ OA.out.keep | exact HBX.out _ OT.out.keep | exact HBX.out _ OD.out.keep)
                (first | (refine step_append_lies _ rfl _ _ 80 rfl 0 23 j0 (.slice none 0 0) 1 24 Try.underlying80 HJJ.out.1 HJJ.out.2.1 HJJ.out.2.2.1 HJJ.out.2.2.2 rfl (by decide) (.slice oa ps.length oc) ps.length (ps.map Prod.fst) rfl (O5.out.row 0 (by simp) rfl) ⟨g5, off5, none⟩ q0 rc (qs.map Prod.fst) rfl (by rw [List.length_map, HQ2.out, Nat.mul_one]) HN5.out HON.out (by omega) (by unfold maxLen; omega) (by omega) (Nat.zero_le _) _ rfl ?_; intro gG cG wG hown hgrow hat hltG; have O6 := Lib.hid (O5.out.turnD (i := 0) (by simp) rfl hgrow hown hat); have FA : Hid (∀ x ∈ ps ++ qs, FarI (some gG) w.heap.size wG x.1 x.2) := Lib.hid (far_all HFP.out kb.out FQ.out hgrow hat); clear hown hgrow hat hltG) | (go_at_call 108; refine (HC.out (.slice (some ⟨gF, 0, none⟩) (who.length + 1) cF) wF (HX.out _ O4.out.keep) I4.out).mono ?_; rintro e w5 ⟨qs, ra, rc, rfl, hq1, hq2, hq3, hq4, hb5⟩; have kb : Hid (Below wr.heap.size wr w5) := Lib.hid (O4.out.keep.trans (hb5.mono O4.out.size)); have O5 := Lib.hid (OW.out.below kb.out); have FQ : Hid (∀ x ∈ qs, FarI (Value.slice oa ps.length oc).ownBlock w.heap.size w5 x.1 x.2) := Lib.hid (fun x hx => far_new (hq4 x hx) (I4.out.below hb5) (by rw [List.length_append]; rfl) LF.out.1 O4.out.size OW.out.size HOB.out); have HQ1 := Lib.hid hq1; have HQ2 := Lib.hid hq2; have HQ3 := Lib.hid hq3; clear hq1 hq2 hq3 hq4 hb5; have HON : Hid (∀ u ∈ qs.map Prod.fst, u.oneCell' = true) := Lib.hid (far_one FQ.out); obtain ⟨g5, off5, c5, hsl, hn5⟩ := HQ3.out.news (by rw [List.length_map, HQ2.out]; exact hq0p); simp only [Value.slice.injEq] at hsl; obtain ⟨rfl, -, -⟩ := hsl; have HN5 := Lib.hid hn5; clear hn5) | (refine step_append_lies _ rfl _ _ 23 rfl 0 3 i0 (.int .i64 0) 1 8 Try.underlying23 HII.out.1 HII.out.2.1 HII.out.2.2.1 HII.out.2.2.2 rfl (by decide) (.slice (some ⟨gE, 0, none⟩) who.length cE) (who.length) (who.map (Value.int .i64)) (by first | rfl | (show Value.slice _ (0 + who.length) _ = _; rw [Nat.zero_add])) (O3.out.row 1 (by simp) rfl) ⟨wE.heap.size, 0, none⟩ 1 1 [.int .i64 (p : Int)] rfl rfl (row_news (O3.out.row 0 (by simp) rfl) rfl) (by simp [Value.oneCell']) (by omega) (by unfold maxLen; omega) (by omega) (Nat.zero_le _) _ rfl ?_; intro gF cF wF hown hgrow hat hlt3; have O4 := Lib.hid (O3.out.turnD (i := 1) (by simp) rfl hgrow hown hat); have I4 : Hid (IsInts wF (.slice (some ⟨gF, 0, none⟩) (who.length + 1) cF) (who ++ [(p : Int)])) := Lib.hid (IsInts.of_ownsN (m := who.length + 1) (by simp) (by rw [List.map_append]; exact O4.out.row 1 (by simp) rfl)); have LF : Hid (wr.heap.size ≤ gF ∧ gF < wF.heap.size) := Lib.hid (O4.out.ap.ltAt 1 (by simp) gF rfl); clear hown hgrow hat hlt3) | (refine step_append_lies _ rfl _ _ 23 rfl 0 3 i0 (.int .i64 0) 1 8 Try.underlying23 HII.out.1 HII.out.2.1 HII.out.2.2.1 HII.out.2.2.2 rfl (by decide) (.slice (some ⟨gE, 0, none⟩) who.length cE) (who.length) (who.map (Value.int .i64)) (by first | rfl | (show Value.slice _ (0 + who.length) _ = _; rw [Nat.zero_add])) (O2.out.row 1 (by simp) rfl) ⟨(wr.heap.size + 1), 0, none⟩ 1 1 [.int .i64 (p : Int)] rfl rfl (row_news (O2.out.row 0 (by simp) rfl) rfl) (by simp [Value.oneCell']) (by omega) (by unfold maxLen; omega) (by omega) (Nat.zero_le _) _ rfl ?_; intro gF cF wF hown hgrow hat hlt3; have O4 := Lib.hid (O2.out.turnD (i := 1) (by simp) rfl hgrow hown hat); have I4 : Hid (IsInts wF (.slice (some ⟨gF, 0, none⟩) (who.length + 1) cF) (who ++ [(p : Int)])) := Lib.hid (IsInts.of_ownsN (m := who.length + 1) (by simp) (by rw [List.map_append]; exact O4.out.row 1 (by simp) rfl)); have LF : Hid (wr.heap.size ≤ gF ∧ gF < wF.heap.size) := Lib.hid (O4.out.ap.ltAt 1 (by simp) gF rfl); clear hown hgrow hat hlt3) | (refine step_append_lies _ rfl _ _ 23 rfl 0 3 i0 (.int .i64 0) 1 8 Try.underlying23 HII.out.1 HII.out.2.1 HII.out.2.2.1 HII.out.2.2.2 rfl (by decide) (.slice (some ⟨gE, 0, none⟩) who.length cE) (who.length) (who.map (Value.int .i64)) (by first | rfl | (show Value.slice _ (0 + who.length) _ = _; rw [Nat.zero_add])) (O2.out.row 0 (by simp) rfl) ⟨wr.heap.size, 0, none⟩ 1 1 [.int .i64 (p : Int)] rfl rfl (row_news (O2.out.row 1 (by simp) rfl) rfl) (by simp [Value.oneCell']) (by omega) (by unfold maxLen; omega) (by omega) (Nat.zero_le _) _ rfl ?_; intro gF cF wF hown hgrow hat hlt3; have O4 := Lib.hid (O2.out.turnD (i := 0) (by simp) rfl hgrow hown hat); have I4 : Hid (IsInts wF (.slice (some ⟨gF, 0, none⟩) (who.length + 1) cF) (who ++ [(p : Int)])) := Lib.hid (IsInts.of_ownsN (m := who.length + 1) (by simp) (by rw [List.map_append]; exact O4.out.row 0 (by simp) rfl)); have LF : Hid (wr.heap.size ≤ gF ∧ gF < wF.heap.size) := Lib.hid (O4.out.ap.ltAt 0 (by simp) gF rfl); clear hown hgrow hat hlt3) | (refine step_append_lies _ rfl _ _ 23 rfl 0 3 i0 (.int .i64 0) 1 8 Try.underlying23 HII.out.1 HII.out.2.1 HII.out.2.2.1 HII.out.2.2.2 rfl (by decide) (.slice (some ⟨wr.heap.size, 0, none⟩) 0 0) 0 [] rfl (OA.out.row 0 (by simp) rfl) ⟨g, off, none⟩ who.length wcp (who.map (Value.int .i64)) rfl (by simp) (fun j u hj => HN.out _ OA.out.keep j u hj) (ints_one _) (by omega) (by unfold maxLen; omega) (by omega) (Nat.zero_le _) _ rfl ?_; intro gE cE wE hown hgrow hat hlt3; rw [Nat.zero_add, List.nil_append] at hown; have O2 := Lib.hid (OA.out.turnD (i := 0) (by simp) rfl hgrow hown hat); clear hown hgrow hat hlt3; have O3 := Lib.hid (O2.out.lit 3 #[.int .i64 (p : Int)] 1 rfl (by unfold maxLen; omega))) | (refine step_append_lies _ rfl _ _ 23 rfl 0 3 i0 (.int .i64 0) 1 8 Try.underlying23 HII.out.1 HII.out.2.1 HII.out.2.2.1 HII.out.2.2.2 rfl (by decide) (.slice (some ⟨wr.heap.size, 0, none⟩) 0 0) 0 [] rfl (OB.out.row 1 (by simp) rfl) ⟨g, off, none⟩ who.length wcp (who.map (Value.int .i64)) rfl (by simp) (fun j u hj => HN.out _ OB.out.keep j u hj) (ints_one _) (by omega) (by unfold maxLen; omega) (by omega) (Nat.zero_le _) _ rfl ?_; intro gE cE wE hown hgrow hat hlt3; rw [Nat.zero_add, List.nil_append] at hown; have O2 := Lib.hid (OB.out.turnD (i := 1) (by simp) rfl hgrow hown hat); clear hown hgrow hat hlt3) | (refine step_append_lies _ rfl _ _ 23 rfl 0 3 i0 (.int .i64 0) 1 8 Try.underlying23 HII.out.1 HII.out.2.1 HII.out.2.2.1 HII.out.2.2.2 rfl (by decide) (.slice (some ⟨(wr.heap.size + 1), 0, none⟩) 0 0) 0 [] rfl (OC.out.row 0 (by simp) rfl) ⟨g, off, none⟩ who.length wcp (who.map (Value.int .i64)) rfl (by simp) (fun j u hj => HN.out _ OC.out.keep j u hj) (ints_one _) (by omega) (by unfold maxLen; omega) (by omega) (Nat.zero_le _) _ rfl ?_; intro gE cE wE hown hgrow hat hlt3; rw [Nat.zero_add, List.nil_append] at hown; have O2 := Lib.hid (OC.out.turnD (i := 0) (by simp) rfl hgrow hown hat); clear hown hgrow hat hlt3))
              all_goals
                have HP9 := Lib.hid (HPS2.out qs HQ1.out)
                have HL9 : Hid (ps.length + q0 = (ps ++ qs).length) := by
                  have : ps.length + q0 = (ps ++ qs).length := by rw [List.length_append, HQ2.out]
                  exact Lib.hid this
                have O9 := Lib.hid O6.out
                rw [HL9.out] at O9
                simp only [List.set_cons_zero, ← List.map_append] at O9
                go_wp2_with fail
                go_roundw
                case rel => exact ⟨p + 1, some ⟨gG, 0, none⟩, cG, ps ++ qs, by omega, by rw [HL9.out], by go_num, O9.out, HP9, FA⟩
                case measure => simp [intOf]; omega
          · obtain rfl : q0 = 0 := by omega
            by_cases hnil : who = []
            · have HW0 := Lib.hid hnil
              have HLZ : Hid (Value.slice wa who.length wcp = Value.slice wa 0 wcp) := Lib.hid (by rw [hnil]; rfl)
              clear hnil
              go_region_held3 (fun w' => w'.cell? ⟨w.heap.size, 0, none⟩ = some (.int .i64 n) ∧ w'.cell? ⟨w.heap.size, 1, none⟩ = some (.slice (some ⟨g2, off2, none⟩) cs.length c0))
                (first | exact HBX.out _ kb.out | exact HBX.out _ O4.out.keep | exact HBX.out _ OB.out.keep | exact HBX.out _ OC.out.keep | exact HBX.out _ OA.out.keep | exact HBX.out _ OT.out.keep | exact HBX.out _ OD.out.keep)
                (first | (refine step_append_zeroD rfl _ _ 80 rfl 0 23 j0 1 Try.underlying80 HJJ.out.1 (.slice oa ps.length oc) ps.length (ps.map Prod.fst) rfl (O5.out.row 0 (by simp) rfl) ra rc rfl ?_) | (go_at_call 108; refine (HC.out (.slice (some ⟨gF, 0, none⟩) (0 + 1) cF) wF (HX.out _ O4.out.keep) I4.out).mono ?_; rintro e w5 ⟨qs, ra, rc, rfl, hq1, hq2, hq3, hq4, hb5⟩; have kb : Hid (Below wr.heap.size wr w5) := Lib.hid (O4.out.keep.trans (hb5.mono O4.out.size)); have O5 := Lib.hid (OW.out.below kb.out); have FQ : Hid (∀ x ∈ qs, FarI (Value.slice oa ps.length oc).ownBlock w.heap.size w5 x.1 x.2) := Lib.hid (fun x hx => far_new (hq4 x hx) (I4.out.below hb5) (by rw [HW0.out, List.length_append]; rfl) LF.out.1 O4.out.size OW.out.size HOB.out); have HQ1 := Lib.hid hq1; have HQ2 := Lib.hid hq2; have HQ3 := Lib.hid hq3; clear hq1 hq2 hq3 hq4 hb5) | (refine step_append_lies _ rfl _ _ 23 rfl 0 3 i0 (.int .i64 0) 1 8 Try.underlying23 HII.out.1 HII.out.2.1 HII.out.2.2.1 HII.out.2.2.2 rfl (by decide) (.slice (some ⟨wr.heap.size, 0, none⟩) 0 0) (0) ([]) (by first | rfl | (show Value.slice _ (0 + who.length) _ = _; rw [Nat.zero_add])) (OB.out.row 1 (by simp) rfl) ⟨(wr.heap.size + 1), 0, none⟩ 1 1 [.int .i64 (p : Int)] rfl rfl (row_news (OB.out.row 0 (by simp) rfl) rfl) (by simp [Value.oneCell']) (by omega) (by unfold maxLen; omega) (by omega) (Nat.zero_le _) _ rfl ?_; intro gF cF wF hown hgrow hat hlt3; have O4 := Lib.hid (OB.out.turnD (i := 1) (by simp) rfl hgrow hown hat); have I4 : Hid (IsInts wF (.slice (some ⟨gF, 0, none⟩) (0 + 1) cF) (who ++ [(p : Int)])) := Lib.hid (IsInts.of_ownsN (m := 0 + 1) (by rw [HW0.out]; rfl) (by rw [HW0.out, List.map_append]; exact O4.out.row 1 (by simp) rfl)); have LF : Hid (wr.heap.size ≤ gF ∧ gF < wF.heap.size) := Lib.hid (O4.out.ap.ltAt 1 (by simp) gF rfl); clear hown hgrow hat hlt3) | (refine step_append_lies _ rfl _ _ 23 rfl 0 3 i0 (.int .i64 0) 1 8 Try.underlying23 HII.out.1 HII.out.2.1 HII.out.2.2.1 HII.out.2.2.2 rfl (by decide) (.slice (some ⟨(wr.heap.size + 1), 0, none⟩) 0 0) (0) ([]) (by first | rfl | (show Value.slice _ (0 + who.length) _ = _; rw [Nat.zero_add])) (OC.out.row 0 (by simp) rfl) ⟨wr.heap.size, 0, none⟩ 1 1 [.int .i64 (p : Int)] rfl rfl (row_news (OC.out.row 1 (by simp) rfl) rfl) (by simp [Value.oneCell']) (by omega) (by unfold maxLen; omega) (by omega) (Nat.zero_le _) _ rfl ?_; intro gF cF wF hown hgrow hat hlt3; have O4 := Lib.hid (OC.out.turnD (i := 0) (by simp) rfl hgrow hown hat); have I4 : Hid (IsInts wF (.slice (some ⟨gF, 0, none⟩) (0 + 1) cF) (who ++ [(p : Int)])) := Lib.hid (IsInts.of_ownsN (m := 0 + 1) (by rw [HW0.out]; rfl) (by rw [HW0.out, List.map_append]; exact O4.out.row 0 (by simp) rfl)); have LF : Hid (wr.heap.size ≤ gF ∧ gF < wF.heap.size) := Lib.hid (O4.out.ap.ltAt 0 (by simp) gF rfl); clear hown hgrow hat hlt3) | (refine step_append_zeroD rfl _ _ 23 rfl 0 3 i0 1 Try.underlying23 HII.out.1 (.slice (some ⟨wr.heap.size, 0, none⟩) 0 0) 0 [] rfl (OA.out.row 0 (by simp) rfl) wa wcp HLZ.out ?_) | (refine step_append_zeroD rfl _ _ 23 rfl 0 3 i0 1 Try.underlying23 HII.out.1 (.slice (some ⟨wr.heap.size, 0, none⟩) 0 0) 0 [] rfl (OB.out.row 1 (by simp) rfl) wa wcp HLZ.out ?_) | (refine step_append_zeroD rfl _ _ 23 rfl 0 3 i0 1 Try.underlying23 HII.out.1 (.slice (some ⟨(wr.heap.size + 1), 0, none⟩) 0 0) 0 [] rfl (OC.out.row 0 (by simp) rfl) wa wcp HLZ.out ?_))
              all_goals
                have hqn : qs = [] := List.eq_nil_of_length_eq_zero HQ2.out
                subst hqn
                have HP9 := Lib.hid (HPS2.out [] HQ1.out)
                rw [List.append_nil] at HP9
                have HF9 : Hid (∀ x ∈ ps, FarI (Value.slice oa ps.length oc).ownBlock w.heap.size w5 x.1 x.2) := Lib.hid (fun x hx => (HFP.out x hx).below kb.out)
                go_wp2_with fail
                go_roundw
                case rel => exact ⟨p + 1, oa, oc, ps, by omega, rfl, by go_num, O5.out, HP9, HF9⟩
                case measure => simp [intOf]; omega
            · obtain ⟨g, off, cap9, hsl, hcc1, hcc2, HN9⟩ := HW.out.newsD (List.length_pos_iff.2 hnil)
              simp only [Value.slice.injEq, true_and] at hsl
              obtain ⟨rfl, rfl⟩ := hsl
              have HN : Hid (∀ V, Below wr.heap.size wr V → ∀ j u, (who.map (Value.int .i64))[j]? = some u → V.cell? ((⟨g, off, none⟩ : Addr).add j) = some u) := Lib.hid (fun V hV => HN9 V (hkeep.trans (hV.mono OW.out.size)))
              have hpos : 0 < who.length := List.length_pos_iff.2 hnil
              clear HN9 hnil
              go_region_held3 (fun w' => w'.cell? ⟨w.heap.size, 0, none⟩ = some (.int .i64 n) ∧ w'.cell? ⟨w.heap.size, 1, none⟩ = some (.slice (some ⟨g2, off2, none⟩) cs.length c0))
                (first | exact HBX.out _ kb.out | exact HBX.out _ O4.out.keep | exact HBX.out _ O3.out.keep | exact HBX.out _ O2.out.keep | exact HBX.out _ OB.out.keep | exact HBX.out _ OC.out.keep | exact HBX.out _ OA.out.keep | exact HBX.out _ OT.out.keep | exact HBX.out _ OD.out.keep)
                (first | (refine step_append_zeroD rfl _ _ 80 rfl 0 23 j0 1 Try.underlying80 HJJ.out.1 (.slice oa ps.length oc) ps.length (ps.map Prod.fst) rfl (O5.out.row 0 (by simp) rfl) ra rc rfl ?_) | (go_at_call 108; refine (HC.out (.slice (some ⟨gF, 0, none⟩) (who.length + 1) cF) wF (HX.out _ O4.out.keep) I4.out).mono ?_; rintro e w5 ⟨qs, ra, rc, rfl, hq1, hq2, hq3, hq4, hb5⟩; have kb : Hid (Below wr.heap.size wr w5) := Lib.hid (O4.out.keep.trans (hb5.mono O4.out.size)); have O5 := Lib.hid (OW.out.below kb.out); have FQ : Hid (∀ x ∈ qs, FarI (Value.slice oa ps.length oc).ownBlock w.heap.size w5 x.1 x.2) := Lib.hid (fun x hx => far_new (hq4 x hx) (I4.out.below hb5) (by rw [List.length_append]; rfl) LF.out.1 O4.out.size OW.out.size HOB.out); have HQ1 := Lib.hid hq1; have HQ2 := Lib.hid hq2; have HQ3 := Lib.hid hq3; clear hq1 hq2 hq3 hq4 hb5) | (refine step_append_lies _ rfl _ _ 23 rfl 0 3 i0 (.int .i64 0) 1 8 Try.underlying23 HII.out.1 HII.out.2.1 HII.out.2.2.1 HII.out.2.2.2 rfl (by decide) (.slice (some ⟨gE, 0, none⟩) who.length cE) (who.length) (who.map (Value.int .i64)) (by first | rfl | (show Value.slice _ (0 + who.length) _ = _; rw [Nat.zero_add])) (O3.out.row 1 (by simp) rfl) ⟨wE.heap.size, 0, none⟩ 1 1 [.int .i64 (p : Int)] rfl rfl (row_news (O3.out.row 0 (by simp) rfl) rfl) (by simp [Value.oneCell']) (by omega) (by unfold maxLen; omega) (by omega) (Nat.zero_le _) _ rfl ?_; intro gF cF wF hown hgrow hat hlt3; have O4 := Lib.hid (O3.out.turnD (i := 1) (by simp) rfl hgrow hown hat); have I4 : Hid (IsInts wF (.slice (some ⟨gF, 0, none⟩) (who.length + 1) cF) (who ++ [(p : Int)])) := Lib.hid (IsInts.of_ownsN (m := who.length + 1) (by simp) (by rw [List.map_append]; exact O4.out.row 1 (by simp) rfl)); have LF : Hid (wr.heap.size ≤ gF ∧ gF < wF.heap.size) := Lib.hid (O4.out.ap.ltAt 1 (by simp) gF rfl); clear hown hgrow hat hlt3) | (refine step_append_lies _ rfl _ _ 23 rfl 0 3 i0 (.int .i64 0) 1 8 Try.underlying23 HII.out.1 HII.out.2.1 HII.out.2.2.1 HII.out.2.2.2 rfl (by decide) (.slice (some ⟨gE, 0, none⟩) who.length cE) (who.length) (who.map (Value.int .i64)) (by first | rfl | (show Value.slice _ (0 + who.length) _ = _; rw [Nat.zero_add])) (O2.out.row 1 (by simp) rfl) ⟨(wr.heap.size + 1), 0, none⟩ 1 1 [.int .i64 (p : Int)] rfl rfl (row_news (O2.out.row 0 (by simp) rfl) rfl) (by simp [Value.oneCell']) (by omega) (by unfold maxLen; omega) (by omega) (Nat.zero_le _) _ rfl ?_; intro gF cF wF hown hgrow hat hlt3; have O4 := Lib.hid (O2.out.turnD (i := 1) (by simp) rfl hgrow hown hat); have I4 : Hid (IsInts wF (.slice (some ⟨gF, 0, none⟩) (who.length + 1) cF) (who ++ [(p : Int)])) := Lib.hid (IsInts.of_ownsN (m := who.length + 1) (by simp) (by rw [List.map_append]; exact O4.out.row 1 (by simp) rfl)); have LF : Hid (wr.heap.size ≤ gF ∧ gF < wF.heap.size) := Lib.hid (O4.out.ap.ltAt 1 (by simp) gF rfl); clear hown hgrow hat hlt3) | (refine step_append_lies _ rfl _ _ 23 rfl 0 3 i0 (.int .i64 0) 1 8 Try.underlying23 HII.out.1 HII.out.2.1 HII.out.2.2.1 HII.out.2.2.2 rfl (by decide) (.slice (some ⟨gE, 0, none⟩) who.length cE) (who.length) (who.map (Value.int .i64)) (by first | rfl | (show Value.slice _ (0 + who.length) _ = _; rw [Nat.zero_add])) (O2.out.row 0 (by simp) rfl) ⟨wr.heap.size, 0, none⟩ 1 1 [.int .i64 (p : Int)] rfl rfl (row_news (O2.out.row 1 (by simp) rfl) rfl) (by simp [Value.oneCell']) (by omega) (by unfold maxLen; omega) (by omega) (Nat.zero_le _) _ rfl ?_; intro gF cF wF hown hgrow hat hlt3; have O4 := Lib.hid (O2.out.turnD (i := 0) (by simp) rfl hgrow hown hat); have I4 : Hid (IsInts wF (.slice (some ⟨gF, 0, none⟩) (who.length + 1) cF) (who ++ [(p : Int)])) := Lib.hid (IsInts.of_ownsN (m := who.length + 1) (by simp) (by rw [List.map_append]; exact O4.out.row 0 (by simp) rfl)); have LF : Hid (wr.heap.size ≤ gF ∧ gF < wF.heap.size) := Lib.hid (O4.out.ap.ltAt 0 (by simp) gF rfl); clear hown hgrow hat hlt3) | (refine step_append_lies _ rfl _ _ 23 rfl 0 3 i0 (.int .i64 0) 1 8 Try.underlying23 HII.out.1 HII.out.2.1 HII.out.2.2.1 HII.out.2.2.2 rfl (by decide) (.slice (some ⟨wr.heap.size, 0, none⟩) 0 0) 0 [] rfl (OA.out.row 0 (by simp) rfl) ⟨g, off, none⟩ who.length wcp (who.map (Value.int .i64)) rfl (by simp) (fun j u hj => HN.out _ OA.out.keep j u hj) (ints_one _) (by omega) (by unfold maxLen; omega) (by omega) (Nat.zero_le _) _ rfl ?_; intro gE cE wE hown hgrow hat hlt3; rw [Nat.zero_add, List.nil_append] at hown; have O2 := Lib.hid (OA.out.turnD (i := 0) (by simp) rfl hgrow hown hat); clear hown hgrow hat hlt3; have O3 := Lib.hid (O2.out.lit 3 #[.int .i64 (p : Int)] 1 rfl (by unfold maxLen; omega))) | (refine step_append_lies _ rfl _ _ 23 rfl 0 3 i0 (.int .i64 0) 1 8 Try.underlying23 HII.out.1 HII.out.2.1 HII.out.2.2.1 HII.out.2.2.2 rfl (by decide) (.slice (some ⟨wr.heap.size, 0, none⟩) 0 0) 0 [] rfl (OB.out.row 1 (by simp) rfl) ⟨g, off, none⟩ who.length wcp (who.map (Value.int .i64)) rfl (by simp) (fun j u hj => HN.out _ OB.out.keep j u hj) (ints_one _) (by omega) (by unfold maxLen; omega) (by omega) (Nat.zero_le _) _ rfl ?_; intro gE cE wE hown hgrow hat hlt3; rw [Nat.zero_add, List.nil_append] at hown; have O2 := Lib.hid (OB.out.turnD (i := 1) (by simp) rfl hgrow hown hat); clear hown hgrow hat hlt3) | (refine step_append_lies _ rfl _ _ 23 rfl 0 3 i0 (.int .i64 0) 1 8 Try.underlying23 HII.out.1 HII.out.2.1 HII.out.2.2.1 HII.out.2.2.2 rfl (by decide) (.slice (some ⟨(wr.heap.size + 1), 0, none⟩) 0 0) 0 [] rfl (OC.out.row 0 (by simp) rfl) ⟨g, off, none⟩ who.length wcp (who.map (Value.int .i64)) rfl (by simp) (fun j u hj => HN.out _ OC.out.keep j u hj) (ints_one _) (by omega) (by unfold maxLen; omega) (by omega) (Nat.zero_le _) _ rfl ?_; intro gE cE wE hown hgrow hat hlt3; rw [Nat.zero_add, List.nil_append] at hown; have O2 := Lib.hid (OC.out.turnD (i := 0) (by simp) rfl hgrow hown hat); clear hown hgrow hat hlt3))
              all_goals
                have hqn : qs = [] := List.eq_nil_of_length_eq_zero HQ2.out
                subst hqn
                have HP9 := Lib.hid (HPS2.out [] HQ1.out)
                rw [List.append_nil] at HP9
                have HF9 : Hid (∀ x ∈ ps, FarI (Value.slice oa ps.length oc).ownBlock w.heap.size w5 x.1 x.2) := Lib.hid (fun x hx => (HFP.out x hx).below kb.out)
                go_wp2_with fail
                go_roundw
                case rel => exact ⟨p + 1, oa, oc, ps, by omega, rfl, by go_num, O5.out, HP9, HF9⟩
                case measure => simp [intOf]; omega
        · have hb' : (cs[who.length].testBit p && !u.testBit p) = false := by simpa using hb
          have HPS2 : Hid (ps.map Prod.snd = (gTo n cs[who.length] (cs.drop (who.length + 1)) u (p + 1)).map (fun l => who ++ l)) := by
            have : ps.map Prod.snd = (gTo n cs[who.length] (cs.drop (who.length + 1)) u (p + 1)).map (fun l => who ++ l) := by rw [gTo_succ, gOne_no hb', List.append_nil]; exact HPS.out
            exact Lib.hid this
          by_cases hb1 : cs[who.length].testBit p = true
          · have hb2 : u.testBit p = true := by rw [hb1] at hb'; simpa using hb'
            rw [if_pos hb1] at hsb
            rw [if_pos hb2] at hsu
            clear hb hb' hb1 hb2 hpl
            generalize cs[who.length] = c9 at hcell2 hsb HPS2
            go_wp2_with fail
            go_roundw
            case rel => exact ⟨p + 1, _, _, ps, by omega, rfl, by go_num, OW.out, HPS2, HFP⟩
            case measure => simp [intOf]; omega
          · rw [if_neg hb1] at hsb
            clear hb hb' hb1 hpl hsu
            generalize cs[who.length] = c9 at hcell2 hsb HPS2
            go_wp2_with fail
            go_roundw
            case rel => exact ⟨p + 1, _, _, ps, by omega, rfl, by go_num, OW.out, HPS2, HFP⟩
            case measure => simp [intOf]; omega
      · obtain rfl : p = n := by omega
        have HE : Hid (ps.length = (givs p (cs.drop who.length) u).length) := by
          have : ps.length = (givs p (cs.drop who.length) u).length := by rw [hpl, HD.out, ← gTo_all, gTo_length]
          exact Lib.hid this
        clear hpl
        go_wp2_with fail
        go_ret
        rw [← HE.out]
        refine ⟨ps, _, _, rfl, ?_, rfl, IsCol.of_owns (by rw [List.length_map]; exact OW.out.row 0 (by simp) rfl), fun x hx => .inr ?_, hkeep⟩
        · rw [HD.out, ← gTo_all]; exact HPS.out
        · obtain ⟨a', cap', e1, e2, e3, e4⟩ := HFP.out x hx
          exact ⟨a', cap', e1, e2, e3, e4.imp id fun ⟨g, off, k1, k2, k3, _, k5⟩ => ⟨g, off, k1, k2, k3, by simp, k5⟩⟩
end Go.Proofs.Ythihcnlbohhemaa
