/- ShortOf on both sides: what it returns, for every day. No condition. -/
import Derived.Test.YthihcnlbohhemaaDayOk
namespace Go.Proofs.Ythihcnlbohhemaa
open Go.RowKit

theorem res3 {fn : Func} {t u v : Tmp} (h : fn.results = #[.tmp t, .tmp u, .tmp v]) (tmps : Array Value) (P : Program) (w : World) : (results fn tmps).run P w = .ok (.tuple #[tmps.getD t undef, tmps.getD u undef, tmps.getD v undef]) w := by
  simp [results, h]
/-- a value that reads as a list of natural numbers -/
def IsNats (w : World) (v : Value) (cs : List Nat) : Prop :=
  ∃ (a : Option Addr) (cap : Nat), v = .slice a cs.length cap ∧ cs.length ≤ cap ∧ cap ≤ maxLen ∧
    (cs = [] ∨ ∃ g off : Nat, a = some ⟨g, off, none⟩ ∧ g < w.heap.size ∧ ∀ k (h : k < cs.length), w.cell? ⟨g, off + k, none⟩ = some (.int .i64 (cs[k] : Int)))
theorem IsInts.nats {w : World} {v : Value} {cs : List Nat} (h : IsInts w v (cs.map Int.ofNat)) : IsNats w v cs := by
  obtain ⟨a, cap, hv, h1, h2, h3⟩ := h
  rw [List.length_map] at hv h1
  refine ⟨a, cap, hv, h1, h2, h3.imp (fun h => by simpa using h) ?_⟩
  rintro ⟨g, off, ha, hg, hc⟩
  exact ⟨g, off, ha, hg, fun k hk => by have := hc k (by simpa using hk); simpa using this⟩
theorem IsNats.ints {w : World} {v : Value} {cs : List Nat} (h : IsNats w v cs) : IsInts w v (cs.map Int.ofNat) := by
  obtain ⟨a, cap, hv, h1, h2, h3⟩ := h
  refine ⟨a, cap, by rw [List.length_map]; exact hv, by rw [List.length_map]; exact h1, h2, h3.imp (fun h => by simp [h]) ?_⟩
  rintro ⟨g, off, ha, hg, hc⟩
  exact ⟨g, off, ha, hg, fun k hk => by have := hc k (by simpa using hk); simpa using this⟩
theorem IsNats.below {w w' : World} {v : Value} {cs : List Nat} (h : IsNats w v cs) (hb : Below w.heap.size w w') : IsNats w' v cs := (h.ints.below hb).nats
theorem IsNats.slice {w : World} {v : Value} {cs : List Nat} (h : IsNats w v cs) : ∃ a n c, v = .slice a n c := by
  obtain ⟨a, cap, hv, _⟩ := h; exact ⟨_, _, _, hv⟩
/-- a day that is none, or its numbers -/
theorem D.two (ppl : Int) (xs : List Int) : D.ok ⟨ppl, xs⟩ = false ∨ (D.ok ⟨ppl, xs⟩ = true ∧ ∃ (n : Nat) (cs : List Nat), ppl = n ∧ xs = cs.map Int.ofNat ∧ Good n cs ∧ D.n ⟨ppl, xs⟩ = n ∧ D.cs ⟨ppl, xs⟩ = cs) := by
  cases h : D.ok ⟨ppl, xs⟩ with
  | false => exact .inl rfl
  | true =>
    obtain ⟨g, h1, h2⟩ := D.good h
    exact .inr ⟨rfl, _, _, h1, h2, g, rfl, rfl⟩

theorem whoTo_64 {cs : List Nat} {n : Nat} (h : Good n cs) (s k : Nat) : whoTo cs s k < 64 := by
  have := whoTo_lt h s k
  have h2 : 2 ^ n ≤ 2 ^ 6 := Nat.pow_le_pow_right (by omega) h.n6
  omega
theorem whoTo_yes {cs : List Nat} {n : Nat} (h : Good n cs) (s k : Nat) (hk : k < cs.length) (hb : s.testBit k = true) : bits BinOp.or IntKind.i64 (whoTo cs s k : Int) (cs[k] : Int) = (whoTo cs s (k + 1) : Int) := by
  rw [or_is _ _ (whoTo_64 h s k) (h.lt64 k hk)]
  simp only [whoTo, hb, if_true, ca_at hk]
theorem whoTo_no {cs : List Nat} (s k : Nat) (hb : s.testBit k = false) : whoTo cs s (k + 1) = whoTo cs s k := by
  simp only [whoTo, hb, Bool.false_eq_true, if_false]

set_option maxHeartbeats 800000 in
theorem l8Who_any {n : Nat} {cs : List Nat} (G : Good n cs) (cv : Value) (w : World) (h1 : IsNats w cv cs) (s : Nat) :
    Calls Try.prog 104 #[.agg #[.int .i64 n, cv], .int .i64 s] w fun e w' => e = .returned (.int .i64 (whoTo cs s cs.length)) ∧ Below w.heap.size w w' := by
  obtain ⟨a, cap, rfl, ha1, ha2, ha⟩ := h1
  unfold maxLen at ha2
  have HA := Lib.hid ha
  have HG := Lib.hid G
  have hl5 := G.l5
  clear ha G
  go_enter Try.func104, Try.ntmps104
  go_wp2
  go_loopw [5, 6] (fun t i wr => ∃ k : Nat, k ≤ cs.length ∧ t = .int .i64 (whoTo cs s k) ∧ i = .int .i64 k ∧ wr = (w.alloc (.cells #[.int .i64 n, .slice a cs.length cap] 44))) (fun _ i _ => cs.length - (intOf i).toNat)
  case atStart => exact ⟨0, Nat.zero_le _, rfl, rfl, rfl⟩
  case round =>
    obtain ⟨k, hk, rfl, rfl, rfl⟩ := hrel
    have hbel : Below w.heap.size w ((w.alloc (.cells #[.int .i64 n, .slice a cs.length cap] 44))) := ((Below.refl _ _).alloc (Nat.le_refl _) _)
    by_cases hlt : k < cs.length
    · obtain ⟨g, off, rfl, hg, hc⟩ := HA.out.resolve_left (fun h => by rw [h] at hlt; exact absurd hlt (Nat.not_lt_zero k))
      have hcell := (hbel.cell (p := ⟨g, off + k, none⟩) hg).trans (hc k hlt)
      clear hc
      have hk64 : k < 64 := by omega
      have hsb := shr_bit s k
      by_cases hb : s.testBit k = true
      · rw [if_pos hb] at hsb
        have hor := whoTo_yes HG.out s k hlt hb
        generalize cs[k] = c at hcell hor
        generalize ht : whoTo cs s (k + 1) = t2 at hor
        have HT := Lib.hid ht
        clear ht
        go_wp2
        go_roundw
        case rel => exact ⟨k + 1, by omega, by rw [HT.out], by go_num, trivial⟩
        case measure => simp [intOf]; omega
      · rw [if_neg hb] at hsb
        have hno := Lib.hid (whoTo_no (cs := cs) s k (by simpa using hb))
        go_wp2
        go_roundw
        case rel => exact ⟨k + 1, by omega, by rw [hno.out], by go_num, trivial⟩
        case measure => simp [intOf]; omega
    · obtain rfl : k = cs.length := by omega
      go_wp2
      go_ret
      exact ⟨rfl, hbel⟩

theorem pc_le (s : Nat) : pc s ≤ 6 := cnt_le _ _
set_option maxHeartbeats 800000 in
theorem shortBy_any {n : Nat} {cs : List Nat} (G : Good n cs) (cv : Value) (w : World) (h1 : IsNats w cv cs) (s : Nat) (hs : s < 64) :
    Calls Try.prog 102 #[.agg #[.int .i64 n, cv], .int .i64 s] w fun e w' => e = .returned (.int .i64 (sh cs s)) ∧ Below w.heap.size w w' := by
  obtain ⟨a, cap, rfl, ha1, ha2, ha⟩ := h1
  unfold maxLen at ha2
  have HA := Lib.hid ha
  have HG := Lib.hid G
  have hl5 := G.l5
  have hp1 := pc_le s
  have hp2 := pc_le (whoTo cs s cs.length)
  have h64 := whoTo_64 G s cs.length
  have HS : Hid (sh cs s = (pc s : Int) - pc (whoTo cs s cs.length)) := Lib.hid rfl
  clear ha G
  go_enter Try.func102, Try.ntmps102
  go_wp2
  go_loopw [5, 11] (fun t i wr => ∃ k : Nat, k ≤ cs.length ∧ t = .int .i64 (whoTo cs s k) ∧ i = .int .i64 k ∧ wr = (w.alloc (.cells #[.int .i64 n, .slice a cs.length cap] 44))) (fun _ i _ => cs.length - (intOf i).toNat)
  case atStart => exact ⟨0, Nat.zero_le _, rfl, rfl, rfl⟩
  case round =>
    obtain ⟨k, hk, rfl, rfl, rfl⟩ := hrel
    have hbel : Below w.heap.size w ((w.alloc (.cells #[.int .i64 n, .slice a cs.length cap] 44))) := ((Below.refl _ _).alloc (Nat.le_refl _) _)
    by_cases hlt : k < cs.length
    · obtain ⟨g, off, rfl, hg, hc⟩ := HA.out.resolve_left (fun h => by rw [h] at hlt; exact absurd hlt (Nat.not_lt_zero k))
      have hcell := (hbel.cell (p := ⟨g, off + k, none⟩) hg).trans (hc k hlt)
      clear hc
      have hk64 : k < 64 := by omega
      have HI := Lib.hid (inSet_any s k (w.alloc (.cells #[.int .i64 n, .slice (some ⟨g, off, none⟩) cs.length cap] 44)) hs hk64)
      by_cases hb : s.testBit k = true
      · have hor := whoTo_yes HG.out s k hlt hb
        generalize cs[k] = c at hcell hor
        generalize ht : whoTo cs s (k + 1) = t2 at hor
        have HT := Lib.hid ht
        clear ht
        go_wp2_with (go_at_call 106; refine HI.out.mono ?_; rintro e w' ⟨rfl, rfl⟩)
        go_roundw
        case rel => exact ⟨k + 1, by omega, by rw [HT.out], by go_num, trivial⟩
        case measure => simp [intOf]; omega
      · have hb' : s.testBit k = false := by simpa using hb
        have hno := Lib.hid (whoTo_no (cs := cs) s k hb')
        clear hb
        go_wp2_with (go_at_call 106; refine HI.out.mono ?_; rintro e w' ⟨rfl, rfl⟩)
        go_roundw
        case rel => exact ⟨k + 1, by omega, by rw [hno.out], by go_num, trivial⟩
        case measure => simp [intOf]; omega
    · obtain rfl : k = cs.length := by omega
      have C1 := Lib.hid (sizeOf_any s (w.alloc (.cells #[.int .i64 n, .slice a cs.length cap] 44)) hs)
      have C2 := Lib.hid (sizeOf_any (whoTo cs s cs.length) (w.alloc (.cells #[.int .i64 n, .slice a cs.length cap] 44)) h64)
      generalize whoTo cs s cs.length = t at *
      go_wp2_with fail
      refine C1.out.mono ?_
      rintro e w' ⟨rfl, rfl⟩
      go_wp2_with fail
      refine C2.out.mono ?_
      rintro e w' ⟨rfl, rfl⟩
      go_wp2_with fail
      go_ret
      exact ⟨ret_int HS.out.symm, hbel⟩

theorem best_step (cs : List Nat) (k : Nat) : (bestTo cs (k + 1)) = if (bestTo cs k).1 < sh cs k then (sh cs k, k) else bestTo cs k := rfl
theorem sh_bd (cs : List Nat) (s : Nat) : -6 ≤ sh cs s ∧ sh cs s ≤ 6 := by
  have := pc_le s
  have := pc_le (whoTo cs s cs.length)
  unfold sh; omega
theorem pow_len (l : Nat) (h : l ≤ 5) : ∃ P : Nat, (2 : Int) ^ l = (P : Int) ∧ 2 ^ l = P ∧ 1 ≤ P ∧ P ≤ 32 := by
  have : ∀ l : Nat, l ≤ 5 → 1 ≤ 2 ^ l ∧ 2 ^ l ≤ 32 := by decide
  exact ⟨2 ^ l, by simp, rfl, (this l h).1, (this l h).2⟩
theorem best_yes {cs : List Nat} {k : Nat} (h : (bestTo cs k).1 < sh cs k) : (bestTo cs (k + 1)).1 = sh cs k ∧ (bestTo cs (k + 1)).2 = k := by
  rw [best_step, if_pos h]; exact ⟨rfl, rfl⟩
theorem best_no {cs : List Nat} {k : Nat} (h : ¬ (bestTo cs k).1 < sh cs k) : (bestTo cs (k + 1)).1 = (bestTo cs k).1 ∧ (bestTo cs (k + 1)).2 = (bestTo cs k).2 := by
  rw [best_step, if_neg h]; exact ⟨rfl, rfl⟩
theorem short_is2 {cs : List Nat} {d : D} (h : d.ok = true) (hc : d.cs = cs) {P : Nat} (hP : 2 ^ cs.length = P) : (bestTo cs P).1 = d.short.1 ∧ ((bestTo cs P).2 : Int) = d.short.2 := by
  subst hP hc
  simp [D.short, h]

/-- what ShortOf answers -/
def ShortPost (d : D) (w : World) (e : Ending) (w' : World) : Prop := e = .returned (.tuple #[.int .i64 d.short.1, .int .i64 d.short.2, .bool d.ok]) ∧ Below w.heap.size w w'
theorem short_no {d : D} (h : d.ok = false) (w w' : World) (hb : Below w.heap.size w w') : ShortPost d w (.returned (.tuple #[.int .i64 (-1), .int .i64 (-1), .bool false])) w' := by
  refine ⟨?_, hb⟩
  simp [D.short, h]

set_option maxHeartbeats 1600000 in
theorem implShortOf_any (ppl : Int) (xs : List Int) (cv : Value) (w : World) (h1 : IsInts w cv xs) :
    Calls Try.prog 44 #[.agg #[.int .i64 ppl, cv]] w (ShortPost ⟨ppl, xs⟩ w) := by
  have hB0 : Below w.heap.size w (w.alloc (.cells #[.int .i64 ppl, cv] 44)) := (Below.refl _ _).alloc (Nat.le_refl _) _
  have X0 := Lib.hid (DayBox.new (ppl := ppl) 44 h1)
  have C0 := Lib.hid (implDayOk_any ppl xs cv _ X0.out.ints)
  have Q0 := Lib.hid hB0
  clear hB0
  obtain ⟨a, n0, c0, rfl⟩ := h1.slice
  clear h1
  rcases D.two ppl xs with hok | ⟨hok, n, cs, rfl, rfl, G, hdn, hdc⟩
  · go_enter Try.func44, Try.ntmps44
    go_wp2_with fail
    refine C0.out.mono ?_
    rintro e w1 ⟨rfl, hb1⟩
    have Q1 := Lib.hid (Q0.out.trans (hb1.mono Q0.out.size))
    clear hb1
    go_wp2_with fail
    refine bodyPost_ret (res3 rfl _ _ _) rfl ?_
    exact short_no hok _ _ Q1.out
  · have HK := Lib.hid hok
    have HN := Lib.hid hdn
    have HD := Lib.hid hdc
    have HG := Lib.hid G
    have hl5 := G.l5
    obtain ⟨P, hP, hP2, hP3, hP4⟩ := pow_len cs.length hl5
    have HP := Lib.hid hP2
    clear hdn hdc G hP2
    have hl64 : cs.length < 64 := by omega
    go_enter Try.func44, Try.ntmps44
    go_wp2_with fail
    refine C0.out.mono ?_
    rintro e w1 ⟨rfl, hb1⟩
    have X1 := Lib.hid (X0.out.below hb1)
    have Q1 := Lib.hid (Q0.out.trans (hb1.mono Q0.out.size))
    clear hb1
    have x0 := X1.out.c0
    have x1 := X1.out.c1
    obtain ⟨aa, cap, hsl, hcap1, hcap2, _⟩ := X1.out.ints.nats
    simp only [Value.slice.injEq] at hsl
    obtain ⟨rfl, rfl, rfl⟩ := hsl
    unfold maxLen at hcap2
    go_wp2_with fail
    clear x0 x1
    go_loopw [5, 6, 16] (fun b t i wr => ∃ k : Nat, k ≤ P ∧ b = .int .i64 (bestTo cs k).1 ∧ t = .int .i64 ((bestTo cs k).2 : Int) ∧ i = .int .i64 k ∧ DayBox w.heap.size n (.slice a cs.length c0) (cs.map Int.ofNat) wr ∧ Below w.heap.size w wr) (fun _ _ i _ => P - (intOf i).toNat)
    case atStart => exact ⟨0, Nat.zero_le _, rfl, rfl, rfl, X1.out, Q1.out⟩
    case round =>
      obtain ⟨k, hk, rfl, rfl, rfl, hX, hQ⟩ := hrel
      have X2 := Lib.hid hX
      have Q2 := Lib.hid hQ
      have x0 := hX.c0
      have x1 := hX.c1
      clear hX hQ
      by_cases hlt : k < P
      · have hlt' : (k : Int) < (P : Int) := by omega
        have C3 := Lib.hid (shortBy_any HG.out _ wr X2.out.ints.nats k (by omega))
        go_wp2_with fail
        refine C3.out.mono ?_
        rintro e w3 ⟨rfl, hb3⟩
        have X3 := Lib.hid (X2.out.below hb3)
        have Q3 := Lib.hid (Q2.out.trans (hb3.mono Q2.out.size))
        clear hb3 x0 x1
        have hlv : ¬ (bestTo cs k).1 < sh cs k ∨ (bestTo cs k).1 < sh cs k := by omega
        rcases hlv with hgt | hgt
        · have HT := Lib.hid (best_no hgt)
          generalize sh cs k = q at *
          generalize hb1 : (bestTo cs k).1 = b1 at *
          generalize hb2 : (bestTo cs k).2 = b2 at *
          have HB1 := Lib.hid hb1
          have HB2 := Lib.hid hb2
          clear hb1 hb2
          go_wp2_with fail
          go_roundw
          case rel => exact ⟨k + 1, by omega, by rw [HT.out.1], by rw [HT.out.2], by go_num, X3.out, Q3.out⟩
          case measure => simp [intOf]; omega
        · have HT := Lib.hid (best_yes hgt)
          generalize hq : sh cs k = q at *
          generalize hb1 : (bestTo cs k).1 = b1 at *
          generalize hb2 : (bestTo cs k).2 = b2 at *
          clear hb1 hb2 hq
          go_wp2_with fail
          go_roundw
          case rel => exact ⟨k + 1, by omega, by rw [HT.out.1], by rw [HT.out.2], by go_num, X3.out, Q3.out⟩
          case measure => simp [intOf]; omega
      · obtain rfl : k = P := by omega
        obtain ⟨e1, e2⟩ := short_is2 HK.out HD.out HP.out
        have E1 := Lib.hid e1
        have E2 := Lib.hid e2
        clear e1 e2
        generalize (bestTo cs k).1 = b1 at *
        generalize (bestTo cs k).2 = b2 at *
        go_wp2_with fail
        refine bodyPost_ret (res3 rfl _ _ _) rfl ?_
        refine ⟨?_, Q2.out⟩
        simp [← E1.out, ← E2.out, HK.out]
end Go.Proofs.Ythihcnlbohhemaa
