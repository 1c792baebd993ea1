/- impl.firstFrom and impl.FirstGiving: what they return, for every day. No condition. -/
import Derived.Test.YthihcnlbohhemaaDayFirstS
import Derived.Test.YthihcnlbohhemaaDayMostS
import Derived.Deep.DeepAppendRoom
import Derived.ArgAppend
namespace Go.Proofs.Ythihcnlbohhemaa
open Go.RowKit

/-- what stands ahead in a row -/
theorem owns_prefix {w : World} {base g n cap : Nat} {e : TypeId} {xs : List Value} {x : Value} (h : w.ownsRow base e 1 (.slice (some ⟨g, 0, none⟩) (n + 1) cap) (n + 1) (xs ++ [x])) : w.ownsRow base e 1 (.slice (some ⟨g, 0, none⟩) n cap) n xs := by
  have hl : xs.length = n := by have := h.1; simp at this; exact this
  rcases h.2 with ⟨h0, _⟩ | ⟨g', cap', cur, hv, h1, h2, h3, h4, h5, h6⟩
  · cases h0
  · cases hv
    refine ⟨by omega, .inr ⟨g, cap, cur, rfl, h1, h2, by omega, h4, h5, ?_⟩⟩
    have := congrArg (List.take n) h6
    rw [List.take_take, List.take_left' hl] at this
    rw [Nat.mul_one, ← this]
    congr 1
    omega
/-- one more behind a row of one's own: the row is as before -/
theorem step_append_keeps {P : Program} {w : World} {ops : Array Oper} {o : Oper} {a : Act} {K : Act → World → Prop} {Q : Exit → Act → World → Prop} {E : Prop} (hgd : o.guard = none) (s x : Operand) (t : TypeId)
    (ho : o.op = .call { callee := .builtin .append, args := #[s, x], argTypes := #[t, t] })
    (e : TypeId) (i : TypeInfo) (z : Value) (bytes : Nat) (ht : P.underlying t = some (.slice e)) (hi : P.info? e = some i) (hz : i.zero = some z)
    (hsize : i.size = 1) (hby : i.bytes = bytes) (hzs : z.cells.size = 1)
    (v : Value) (n : Nat) (xs : List Value) (hs : a.eval s = v) (hown : w.ownsRow 0 e 1 v n xs)
    (ad : Addr) (c : Nat) (u : Value) (hx : a.eval x = .slice (some ad) 1 c) (hnews : ∀ j y, [u][j]? = some y → w.cell? (ad.add j) = some y) (h1 : u.oneCell' = true)
    (h63 : n + 1 ≤ maxLen) (hbytes : (n + 1) * bytes ≤ 140737488355328)
    (h : ∀ g cap w', w'.ownsRow 0 e 1 (.slice (some ⟨g, 0, none⟩) (n + 1) cap) (n + 1) (xs ++ [u]) → w'.ownsRow 0 e 1 v n xs → w.grownBy w' v.ownBlock → (v = .slice (some ⟨g, 0, none⟩) n cap ∨ w.heap.size ≤ g) → g < w'.heap.size → K (a.put o.dst (.slice (some ⟨g, 0, none⟩) (n + 1) cap)) w') :
    if Region.wanted o (yielded ops a.tmps) = true then Oper.wp P o a w K Q else E := by
  have hw : Region.wanted o (yielded ops a.tmps) = true := by simp [Region.wanted, hgd]
  rw [if_pos hw]
  have h1' : ∀ y ∈ [u], y.oneCell' = true := fun y hy => by rw [List.mem_singleton] at hy; subst hy; exact h1
  have key : ∃ g cap w', (Builtin.append_ #[t, t] o.type #[v, .slice (some ad) 1 c]).run P w = .ok (.slice (some ⟨g, 0, none⟩) (n + 1) cap) w' ∧ w'.ownsRow 0 e 1 (.slice (some ⟨g, 0, none⟩) (n + 1) cap) (n + 1) (xs ++ [u]) ∧ w'.ownsRow 0 e 1 v n xs ∧ w.grownBy w' v.ownBlock ∧ (v = .slice (some ⟨g, 0, none⟩) n cap ∨ w.heap.size ≤ g) ∧ g < w'.heap.size := by
    have hown' := hown
    rcases hown.2 with ⟨rfl, rfl⟩ | ⟨g, cap, cur, rfl, hb, hg, hnc, hcm, hcs, htake⟩
    · obtain ⟨g, cap, w', r1, r2, r3, r4, r5⟩ := run_append_lies (P := P) w t o.type 0 e i z 1 bytes ht hi hz hsize hby hzs (by omega) (.slice none 0 0) 0 xs hown ad 1 c [u] rfl hnews h1' (by omega) h63 hbytes (Nat.zero_le _) _ rfl
      have hx0 : xs = [] := List.eq_nil_of_length_eq_zero hown.1
      subst hx0
      have hge : g = w.heap.size := by simpa [Value.ownBlock] using r4
      exact ⟨g, cap, w', r1, r2, World.ownsRow_nil _ _ _ _, r3, .inr (by omega), r5⟩
    · have hgl := (World.ownsRow.lt hown g rfl).2
      by_cases hroom : n + 1 ≤ cap
      · obtain ⟨w', r1, r2, r3⟩ := run_append_own_spare (P := P) w 0 t o.type e i 1 ht hi hsize g n cap xs hown ad 1 c [u] rfl hnews h1' hroom
        exact ⟨g, cap, w', r1, r2, owns_prefix r2, r3, .inl rfl, (World.ownsRow.lt r2 g rfl).2⟩
      · obtain ⟨v', w', r1, r2, r3⟩ := run_append_arg_grows (P := P) w t o.type e i z 1 bytes ht hi hz hsize hby hzs (by omega) ⟨g, 0, none⟩ n cap xs hown.1 (fun j y hj => by
          obtain ⟨hjl, _⟩ := List.getElem?_eq_some_iff.1 hj
          rw [add_off, Nat.zero_add, hown.cellAt j (by have := hown.1; omega)]
          exact hj) ad 1 c [u] rfl hnews (by omega) h63 hbytes
        obtain ⟨g', cap', rfl, hb', hl'⟩ := r2.form (by omega)
        have hown2 : w'.ownsRow 0 e 1 (.slice (some ⟨g, 0, none⟩) n cap) n xs := by
          refine ⟨hown'.1, .inr ⟨g, cap, cur, rfl, hb, ?_, hnc, hcm, hcs, htake⟩⟩
          exact (r3.block g hgl (fun e => by cases e)).trans hg
        exact ⟨g', cap', w', r1, ownsRow_base r2 (fun _ _ => Nat.zero_le _), hown2, grown_weaken r3 _, .inr hb', hl'⟩
  obtain ⟨g, cap, w', hr, k1, k2, k3, k4, k5⟩ := key
  unfold Oper.wp execOp
  simp only [ho, resolve, invoke, builtin, Sem.run_bind, Sem.run_pure, Result.andThen_ok, List.map_toArray, List.map_cons, List.map_nil, hs, hx, hr]
  exact h g cap w' k1 k2 k3 k4 k5
theorem FarI.turnG {b b' : Option Nat} {L : Nat} {w w' : World} {v : Value} {xs : List Int} (h : FarI b L w v xs) (hg : w.grownBy w' b) (hb : ∀ k, b' = some k → b = some k ∨ w.heap.size ≤ k) : FarI b' L w' v xs := by
  obtain ⟨a, cap, hv, h1, h2, h3⟩ := h
  refine ⟨a, cap, hv, h1, h2, h3.imp id ?_⟩
  rintro ⟨g, off, ha, hL, hgl, hn, hc⟩
  refine ⟨g, off, ha, hL, Nat.lt_of_lt_of_le hgl hg.size, fun e => ?_, fun k hk => (hg.cell_far ⟨g, off + k, none⟩ hgl (fun e => hn e.symm)).trans (hc k hk)⟩
  rcases hb g e with h | h
  · exact hn h
  · omega
/-- told far of two blocks at two worlds -/
theorem FarI.join {b b' : Option Nat} {L L' : Nat} {w w' : World} {v : Value} {xs : List Int} (h : FarI b L w v xs) (h' : FarI b' L' w' v xs) : FarI b L w' v xs := by
  obtain ⟨a, cap, rfl, h1, h2, h3⟩ := h
  obtain ⟨a', cap', hv', k1, k2, k3⟩ := h'
  simp only [Value.slice.injEq, true_and] at hv'
  obtain ⟨rfl, rfl⟩ := hv'
  refine ⟨a, cap, rfl, h1, h2, ?_⟩
  rcases h3 with h3 | ⟨g, off, ha, hL, hg, hn, hc⟩
  · exact .inl h3
  · rcases k3 with k3 | ⟨g', off', ha', hL', hg', hn', hc'⟩
    · exact .inl k3
    · rw [ha] at ha'
      simp only [Option.some.injEq, Addr.mk.injEq, and_true] at ha'
      obtain ⟨rfl, rfl⟩ := ha'
      exact .inr ⟨g, off, ha, hL, hg', hn, hc'⟩
theorem grow_step {w w1 w2 : World} {b b' : Option Nat} (h : w.grownBy w1 b) (h2 : w1.grownBy w2 b') (hb : ∀ k, b' = some k → b = some k ∨ w.heap.size ≤ k) : w.grownBy w2 b :=
  ⟨h2.os.trans h.os, h2.tape.trans h.tape, h2.output.trans h.output, Nat.le_trans h.size h2.size, fun k hk hn => (h2.block k (Nat.lt_of_lt_of_le hk h.size) (fun e => by
    rcases hb k e.symm with h3 | h3
    · exact hn h3.symm
    · omega)).trans (h.block k hk hn)⟩
theorem who_back {wF w5 : World} {wv x : Value} {xs : List Value} {n gF cF S : Nat} {e : TypeId} (h : wF.ownsRow 0 e 1 wv n xs) (hd : wv = .slice (some ⟨gF, 0, none⟩) n cF ∨ S ≤ gF) (hS : ∀ k, wv.ownBlock = some k → k < S) (hg : wF.grownBy w5 (some gF))
    (h5 : w5.ownsRow 0 e 1 (.slice (some ⟨gF, 0, none⟩) (n + 1) cF) (n + 1) (xs ++ [x])) : w5.ownsRow 0 e 1 wv n xs := by
  rcases hd with rfl | hd
  · exact owns_prefix h5
  · refine ⟨h.1, h.2.imp id ?_⟩
    rintro ⟨g, cap, cur, rfl, h1, h2, h3⟩
    have hlt := hS g rfl
    have hgl : g < wF.heap.size := by
      rcases Nat.lt_or_ge g wF.heap.size with h | h
      · exact h
      · rw [Array.getElem?_eq_none h] at h2; cases h2
    exact ⟨g, cap, cur, rfl, h1, (hg.block g hgl (fun e => by cases e; omega)).trans h2, h3⟩
/-- what firstFrom leaves -/
def FFPost (L : List (List Int)) (wv : Value) (xs : List Int) (w : World) (e : Ending) (w' : World) : Prop :=
  ∃ rv, e = .returned (.tuple #[rv, .bool (!L.isEmpty)]) ∧ w.grownBy w' wv.ownBlock ∧ w'.ownsRow 0 3 1 wv xs.length (xs.map (Value.int .i64)) ∧ (L = [] → rv = .slice none 0 0) ∧
    ∀ f rest, L = f :: rest → w'.ownsRow 0 3 1 rv (xs ++ f).length ((xs ++ f).map (Value.int .i64)) ∧ ∀ k, rv.ownBlock = some k → wv.ownBlock = some k ∨ w.heap.size ≤ k
theorem blk_of {wv : Value} {bk : Option Nat} {gF n cF S : Nat} (hbk : wv.ownBlock = bk) (hat : wv = .slice (some ⟨gF, 0, none⟩) n cF ∨ S ≤ gF) : ∀ k m, (Value.slice (some ⟨gF, 0, none⟩) m cF).ownBlock = some k → bk = some k ∨ S ≤ k := by
  intro k m h
  simp only [Value.ownBlock, Option.some.injEq] at h
  subst h
  rcases hat with rfl | h
  · exact .inl hbk.symm
  · exact .inr h
theorem cell_two {w1 w2 : World} {b : Option Nat} {B : Nat} {x y : Value} (hg : w1.grownBy w2 b) (hlt : B < w1.heap.size) (hne : b ≠ some B) (h : w1.cell? ⟨B, 0, none⟩ = some x ∧ w1.cell? ⟨B, 1, none⟩ = some y) : w2.cell? ⟨B, 0, none⟩ = some x ∧ w2.cell? ⟨B, 1, none⟩ = some y :=
  ⟨(hg.cell_far ⟨B, 0, none⟩ hlt (fun e => hne e.symm)).trans h.1, (hg.cell_far ⟨B, 1, none⟩ hlt (fun e => hne e.symm)).trans h.2⟩
theorem first_slice {L : List (List Int)} {w' : World} {rv : Value} {xs : List Int} {P : Nat → Prop} (h0 : L = [] → rv = .slice none 0 0) (h : ∀ f rest, L = f :: rest → w'.ownsRow 0 3 1 rv (xs ++ f).length ((xs ++ f).map (Value.int .i64)) ∧ ∀ k, rv.ownBlock = some k → P k) : ∃ a n c, rv = .slice a n c := by
  cases L with
  | nil => exact ⟨_, _, _, h0 rfl⟩
  | cons f rest => exact owns_slice (h f rest rfl).1
theorem ne_of_blk {wv : Value} {bk : Option Nat} {gF n m cF S B : Nat} (hB : ∀ k, bk = some k → k < B) (hbk : wv.ownBlock = bk) (hat : wv = .slice (some ⟨gF, 0, none⟩) n cF ∨ S ≤ gF) (hS : B < S) : (Value.slice (some ⟨gF, 0, none⟩) m cF).ownBlock ≠ some B := by
  intro e
  rcases blk_of hbk hat B _ e with h | h
  · have := hB _ h; omega
  · omega
theorem gOne_at {n c u p : Nat} {cs : List Nat} (h : (c.testBit p && !u.testBit p) = true) : gOne n c cs u p = (givs n cs (u ||| 2 ^ p)).map ((p : Int) :: ·) := by
  unfold gOne; rw [h]; rfl
theorem gTo_grow {n c u p : Nat} {cs : List Nat} (hp : p < n) : ∃ rest, gTo n c cs u n = gTo n c cs u (p + 1) ++ rest := by
  have : ∀ m, p + 1 ≤ m → ∃ rest, gTo n c cs u m = gTo n c cs u (p + 1) ++ rest := by
    intro m
    induction m with
    | zero => intro h; omega
    | succ m ih =>
      intro h
      by_cases hm : p + 1 = m + 1
      · rw [hm]; exact ⟨[], by simp⟩
      · obtain ⟨rest, hr⟩ := ih (by omega)
        exact ⟨rest ++ gOne n c cs u m, by rw [gTo_succ, hr, List.append_assoc]⟩
  exact this n hp
/-- the first one is by this one of the people -/
theorem gTo_first {n c u p : Nat} {cs : List Nat} {f : List Int} {rest : List (List Int)} (hp : p < n) (hb : (c.testBit p && !u.testBit p) = true) (h0 : gTo n c cs u p = []) (h : givs n cs (u ||| 2 ^ p) = f :: rest) : ∃ rest', gTo n c cs u n = ((p : Int) :: f) :: rest' := by
  obtain ⟨r, hr⟩ := gTo_grow (n := n) (c := c) (u := u) (cs := cs) hp
  rw [hr, gTo_succ, h0, gOne_at hb, h]
  exact ⟨_, rfl⟩
theorem gTo_none {n c u p : Nat} {cs : List Nat} (h0 : gTo n c cs u p = []) (h : (c.testBit p && !u.testBit p) = true → givs n cs (u ||| 2 ^ p) = []) : gTo n c cs u (p + 1) = [] := by
  rw [gTo_succ, h0]
  unfold gOne
  split
  · rename_i hb; rw [h hb]; rfl
  · rfl
theorem far_nats {b : Option Nat} {L : Nat} {w : World} {v : Value} {cs : List Nat} (h : FarI b L w v (cs.map Int.ofNat)) : IsNats w v cs := h.ints.nats

set_option maxRecDepth 20000 in
set_option maxHeartbeats 3200000 in
theorem firstFrom_any {n : Nat} {cs : List Nat} (G : Good n cs) : ∀ (r : Nat) (xs : List Int), xs.length + r = cs.length → ∀ (u : Nat) (cv wv : Value) (w : World), u < 64 → FarI wv.ownBlock 0 w cv (cs.map Int.ofNat) → w.ownsRow 0 3 1 wv xs.length (xs.map (Value.int .i64)) →
    Calls Try.prog 107 #[.agg #[.int .i64 n, cv], wv, .int .i64 u] w (FFPost (givs n (cs.drop xs.length) u) wv xs w) := by
  obtain ⟨i0, hi, hz0, hz1, hz2⟩ := info_parts infoIntD
  have HII := Lib.hid (And.intro hi (And.intro hz0 (And.intro hz1 hz2)))
  clear hi hz0 hz1 hz2
  intro r
  induction r with
  | zero =>
    intro xs hr u cv wv w hu h1 h2
    have hr' : ((xs.length : Int) == (cs.length : Int)) = true := by simp; omega
    have HD : Hid (givs n (cs.drop xs.length) u = [[]]) := by
      have : givs n (cs.drop xs.length) u = [[]] := by rw [List.drop_eq_nil_of_le (by omega)]; rfl
      exact Lib.hid this
    have HO := Lib.hid h2
    obtain ⟨a, cap, rfl, ha1, ha2, _⟩ := far_nats h1
    obtain ⟨wa, wn, wc, rfl⟩ := owns_slice h2
    have hwn : wn = xs.length := by
      rcases h2.2 with ⟨hv, hn⟩ | ⟨g, cap', cur, hv, _⟩
      · simp only [Value.slice.injEq] at hv; omega
      · simp only [Value.slice.injEq] at hv; exact hv.2.1
    subst hwn
    have hal : w.grownBy (w.alloc (.cells #[.int .i64 n, .slice a cs.length cap] 44)) none := World.grownBy_alloc w _ none
    have HA := Lib.hid hal
    unfold maxLen at ha2
    have hl5 := G.l5
    clear h1 h2 hal hr
    go_enter Try.func107, Try.ntmps107
    go_wp2_with fail
    go_ret2
    rw [HD.out]
    refine ⟨_, rfl, grown_weaken HA.out _, HO.out.alloc _, fun h => by simp at h, fun f rest h => ?_⟩
    simp only [List.cons.injEq] at h
    rw [← h.1, List.append_nil]
    exact ⟨HO.out.alloc _, fun k hk => .inl hk⟩
  | succ r ih =>
    intro xs hr u cv wv w hu h1 h2
    have hklt : xs.length < cs.length := by omega
    have hr' : ((xs.length : Int) == (cs.length : Int)) = false := by simp; omega
    have HD : Hid (cs.drop xs.length = cs[xs.length] :: cs.drop (xs.length + 1)) := Lib.hid (List.drop_eq_getElem_cons hklt)
    have IH : Hid (∀ (p u : Nat) (cv wv : Value) (w : World), u < 64 → FarI wv.ownBlock 0 w cv (cs.map Int.ofNat) → w.ownsRow 0 3 1 wv (xs.length + 1) ((xs ++ [(p : Int)]).map (Value.int .i64)) → Calls Try.prog 107 #[.agg #[.int .i64 n, cv], wv, .int .i64 u] w (FFPost (givs n (cs.drop (xs.length + 1)) u) wv (xs ++ [(p : Int)]) w)) := Lib.hid (fun p u cv wv w hu h1 h2 => by
      have := ih (xs ++ [(p : Int)]) (by simp; omega) u cv wv w hu h1 (by rw [List.length_append, List.length_singleton]; exact h2)
      rwa [List.length_append, List.length_singleton] at this)
    have HG := Lib.hid G
    have hl5 := G.l5
    have hn6 := G.n6
    have HB : Hid (∀ k, wv.ownBlock = some k → k < w.heap.size) := Lib.hid (fun k hk => (World.ownsRow.lt h2 k hk).2)
    have HF := Lib.hid h1
    have HO := Lib.hid h2
    obtain ⟨a, c0, rfl, ha1, ha2, _⟩ := far_nats h1
    obtain ⟨wa, wn, wc, rfl⟩ := owns_slice h2
    have hwn : wn = xs.length := by
      rcases h2.2 with ⟨hv, hn⟩ | ⟨g, cap', cur, hv, _⟩
      · simp only [Value.slice.injEq] at hv; omega
      · simp only [Value.slice.injEq] at hv; exact hv.2.1
    subst hwn
    generalize hbk : (Value.slice wa xs.length wc).ownBlock = bk at HB HF
    have HBK := Lib.hid hbk
    have HGR : Hid (w.grownBy (w.alloc (.cells #[.int .i64 n, .slice a cs.length c0] 44)) bk) := Lib.hid (grown_weaken (World.grownBy_alloc w _ none) _)
    have HF0 : Hid (FarI bk 0 (w.alloc (.cells #[.int .i64 n, .slice a cs.length c0] 44)) (.slice a cs.length c0) (cs.map Int.ofNat)) := Lib.hid (HF.out.below ((Below.refl _ _).alloc (Nat.le_refl _) _))
    have HO0 := Lib.hid (HO.out.alloc (.cells #[.int .i64 n, .slice a cs.length c0] 44))
    have hx0 := World.cell?_alloc_new w #[.int .i64 n, .slice a cs.length c0] 44 0
    have hx1 := World.cell?_alloc_new w #[.int .i64 n, .slice a cs.length c0] 44 1
    simp only [List.getElem?_toArray, List.getElem?_cons_zero, List.getElem?_cons_succ] at hx0 hx1
    have HX0 := Lib.hid hx0
    have HX1 := Lib.hid hx1
    unfold maxLen at ha2
    clear ih G hr h1 h2 hbk hx0 hx1
    go_enter Try.func107, Try.ntmps107
    go_wp2_with fail
    go_loopw [22] (fun i wr => ∃ (p : Nat), p ≤ n ∧ i = .int .i64 p ∧ Hid (gTo n cs[xs.length] (cs.drop (xs.length + 1)) u p = []) ∧ Hid (FarI bk 0 wr (.slice a cs.length c0) (cs.map Int.ofNat)) ∧ Hid (wr.ownsRow 0 3 1 (.slice wa xs.length wc) xs.length (xs.map (Value.int .i64))) ∧ Hid (w.grownBy wr bk) ∧ w.heap.size < wr.heap.size ∧ wr.cell? ⟨w.heap.size, 0, none⟩ = some (.int .i64 n) ∧ wr.cell? ⟨w.heap.size, 1, none⟩ = some (.slice a cs.length c0)) (fun i _ => n - (intOf i).toNat)
    case atStart => exact ⟨0, Nat.zero_le _, rfl, Lib.hid rfl, HF0, HO0, HGR, by simp, HX0.out, HX1.out⟩
    case round =>
      obtain ⟨p, hp, rfl, HT, HF1, HO1, HG1, hlt1, x0, x1⟩ := hrel
      by_cases hlt : p < n
      · have hlt' : (p : Int) < (n : Int) := by omega
        obtain ⟨ab, cb3, hsl, _, _, HA⟩ := far_nats HF1.out
        simp only [Value.slice.injEq, true_and] at hsl
        obtain ⟨rfl, rfl⟩ := hsl
        obtain ⟨g2, off2, rfl, hg2, hc2⟩ := HA.resolve_left (fun h => by rw [h] at hklt; exact absurd hklt (Nat.not_lt_zero _))
        have hcell2 := hc2 xs.length hklt
        have hc64 := HG.out.lt64 xs.length hklt
        obtain ⟨q1, q2⟩ := andNot_is cs[xs.length] u hc64 hu
        have HI := Lib.hid (fun W => inSet_any (andn cs[xs.length] u) p W q2 (by omega))
        clear hc2 HA
        have hbit := andn_bit cs[xs.length] u p
        by_cases hb : (andn cs[xs.length] u).testBit p = true
        · rw [hb] at hbit
          obtain ⟨q3, q4⟩ := or_pow u p hu (by omega)
          obtain ⟨Q, hQ, hQ2, hQ3, hQ4⟩ := pow_small p (by omega)
          have hQw : IntKind.i64.wrap (Q : Int) = Q := IntWalk.i64_in _ (by omega)
          rw [hQ] at q3
          have HN0 : Hid (givs n (cs.drop (xs.length + 1)) (u ||| 2 ^ p) = [] → gTo n cs[xs.length] (cs.drop (xs.length + 1)) u (p + 1) = []) := Lib.hid (fun h => gTo_none HT.out (fun _ => h))
          have HY0 : Hid (∀ f rest, givs n (cs.drop (xs.length + 1)) (u ||| 2 ^ p) = f :: rest → ∃ rest', givs n (cs.drop xs.length) u = ((p : Int) :: f) :: rest') := Lib.hid (fun f rest h => by rw [HD.out, ← gTo_all]; exact gTo_first hlt hbit.symm HT.out h)
          have HCC := Lib.hid (fun cv wv W h1 h2 => IH.out p (u ||| 2 ^ p) cv wv W q4 h1 h2)
          generalize hL : givs n (cs.drop (xs.length + 1)) (u ||| 2 ^ p) = L at HN0 HY0 HCC
          generalize ht2 : u ||| 2 ^ p = t2 at q3 q4 HCC
          have HOA := Lib.hid ((HO1.out.drew).alloc (.cells #[.int .i64 (p : Int)] 3))
          have HFA : Hid (FarI bk 0 (wr.drew.alloc (.cells #[.int .i64 (p : Int)] 3)) (.slice (some ⟨g2, off2, none⟩) cs.length c0) (cs.map Int.ofNat)) := Lib.hid ((HF1.out.below (Below.refl _ wr).drew).below ((Below.refl _ _).alloc (Nat.le_refl _) _))
          have HGA : Hid (w.grownBy (wr.drew.alloc (.cells #[.int .i64 (p : Int)] 3)) bk) := Lib.hid (grow_step (grow_step HG1.out (grown_drew wr none) (fun _ e => by cases e)) (World.grownBy_alloc wr.drew _ none) (fun _ e => by cases e))
          have hxl6 : xs.length ≤ 5 := by omega
          clear hbit ht2 hL hQ2
          generalize cs[xs.length] = c9 at hcell2 hc64 HI HN0 HT q1 q2 hb
          go_wp2_with (go_at_call 106; refine (HI.out _).mono ?_; rintro e w' ⟨rfl, hww⟩; subst w')
          have HNB : Hid (bk ≠ some w.heap.size) := Lib.hid (fun e => by have := HB.out _ e; omega)
          have hltA : w.heap.size < (wr.drew.alloc (.cells #[.int .i64 (p : Int)] 3)).heap.size := by rw [World.size_alloc]; show _ < wr.heap.size + 1; omega
          have HXA : Hid ((wr.drew.alloc (.cells #[.int .i64 (p : Int)] 3)).cell? ⟨w.heap.size, 0, none⟩ = some (.int .i64 n) ∧ (wr.drew.alloc (.cells #[.int .i64 (p : Int)] 3)).cell? ⟨w.heap.size, 1, none⟩ = some (.slice (some ⟨g2, off2, none⟩) cs.length c0)) := Lib.hid (cell_two (World.grownBy_alloc wr.drew _ none) hlt1 (by simp) ⟨x0, x1⟩)
          have HLA2 := Lib.hid hltA
          have HLA : Hid (w.heap.size < wr.heap.size + 1) := Lib.hid (by omega)
          clear hltA
          go_region_held3 (fun w' => w'.cell? ⟨w.heap.size, 0, none⟩ = some (.int .i64 n) ∧ w'.cell? ⟨w.heap.size, 1, none⟩ = some (.slice (some ⟨g2, off2, none⟩) cs.length c0)) (first | exact HX5.out | exact HXF.out | exact HXA.out | exact ⟨x0, x1⟩)
            (first | (refine step_append_keeps rfl _ _ 23 rfl 3 i0 (.int .i64 0) 8 Try.underlying23 HII.out.1 HII.out.2.1 HII.out.2.2.1 HII.out.2.2.2 rfl (.slice wa xs.length wc) xs.length (xs.map (Value.int .i64)) rfl HOA.out ⟨wr.heap.size, 0, none⟩ 1 (.int .i64 (p : Int)) rfl (one_news wr.drew _ _) rfl (by unfold maxLen; omega) (by omega) ?_; intro gF cF wF hown hold hgrow hat hltF; rw [HBK.out] at hgrow; have HAT : Hid (Value.slice wa xs.length wc = Value.slice (some ⟨gF, 0, none⟩) xs.length cF ∨ wr.heap.size + 1 ≤ gF) := Lib.hid (hat.imp id (fun h => by simpa using h)); have HGF := Lib.hid (grow_step HGA.out hgrow (fun _ e => .inl e)); have HFF : Hid (FarI (Value.slice (some ⟨gF, 0, none⟩) (xs.length + 1) cF).ownBlock 0 wF (.slice (some ⟨g2, off2, none⟩) cs.length c0) (cs.map Int.ofNat)) := Lib.hid (HFA.out.turnG hgrow (fun k e => blk_of HBK.out hat k _ e)); have HFB := Lib.hid (HFA.out.turnG hgrow (fun k e => .inl e)); have HOF : Hid (wF.ownsRow 0 3 1 (.slice (some ⟨gF, 0, none⟩) (xs.length + 1) cF) (xs.length + 1) ((xs ++ [(p : Int)]).map (Value.int .i64))) := Lib.hid (by rw [List.map_append]; exact hown); have HOLD := Lib.hid hold; have HXF := Lib.hid (cell_two hgrow HLA2.out HNB.out HXA.out); have HLF := Lib.hid (Nat.lt_of_lt_of_le HLA2.out hgrow.size); clear hown hold hgrow hat hltF) | (go_at_call 107; refine (HCC.out _ (.slice (some ⟨gF, 0, none⟩) (xs.length + 1) cF) wF HFF.out HOF.out).mono ?_; rintro e w5 ⟨rv, rfl, hg5, hold5, hnil5, hf5⟩; have hrvs : ∃ a n c, rv = Value.slice a n c := (first_slice hnil5 hf5); obtain ⟨rva, rvn, rvc, rfl⟩ := hrvs; have HG5 := Lib.hid hg5; have HO5 := Lib.hid hold5; have HF5 := Lib.hid hf5; have HX5 := Lib.hid (cell_two hg5 HLF.out (ne_of_blk HB.out HBK.out HAT.out HLA.out) HXF.out); clear hg5 hold5 hnil5 hf5))
          all_goals
            have HW5 : Hid (w5.ownsRow 0 3 1 (.slice wa xs.length wc) xs.length (xs.map (Value.int .i64))) := Lib.hid (who_back HOLD.out HAT.out (fun k e => by have := HB.out k (HBK.out ▸ e); have := HLA.out; omega) HG5.out (x := .int .i64 (p : Int)) (by have h := HO5.out; rw [List.map_append, List.length_append, List.length_singleton] at h; exact h))
            have HFJ := Lib.hid (HFB.out.join (HFF.out.turnG HG5.out (fun k e => .inl e)))
            have HGJ := Lib.hid (grow_step HGF.out HG5.out (fun k e => (blk_of HBK.out HAT.out k _ e).imp id (fun h => by have := HLA.out; omega)))
            have HL5 := Lib.hid (Nat.lt_of_lt_of_le HLF.out HG5.out.size)
            obtain ⟨y0, y1⟩ := HX5.out
            have hl5' := HL5.out
            clear x0 x1 hcell2 hlt1
            cases L with
            | nil =>
              have HT2 := Lib.hid (HN0.out rfl)
              rw [show (!([] : List (List Int)).isEmpty) = false from rfl]
              go_wp2_with fail
              go_roundw
              case rel => exact ⟨p + 1, by omega, by go_num, HT2, HFJ, HW5, HGJ, hl5', y0, y1⟩
              case measure => simp [intOf]; omega
            | cons f rest =>
              obtain ⟨rest', he⟩ := HY0.out f rest rfl
              have HE9 := Lib.hid he
              rw [show (!(f :: rest).isEmpty) = true from rfl]
              clear he
              go_wp2_with fail
              go_ret2
              rw [HE9.out]
              refine ⟨_, rfl, by rw [HBK.out]; exact HGJ.out, HW5.out, (fun h => by cases h), fun f' r' h => ?_⟩
              simp only [List.cons.injEq] at h
              rw [← h.1]
              obtain ⟨k1, k2⟩ := HF5.out f rest rfl
              rw [List.append_assoc] at k1
              refine ⟨k1, fun k e => ?_⟩
              rcases k2 k e with h3 | h3
              · rw [HBK.out]
                exact (blk_of HBK.out HAT.out k _ h3).imp id (fun h => by have := HLA.out; omega)
              · exact .inr (by have := HLF.out; omega)
        · have hb' : (andn cs[xs.length] u).testBit p = false := by simpa using hb
          rw [hb'] at hbit
          have HT2 : Hid (gTo n cs[xs.length] (cs.drop (xs.length + 1)) u (p + 1) = []) := Lib.hid (gTo_none HT.out (fun h => by rw [← hbit] at h; cases h))
          clear hb hbit
          generalize cs[xs.length] = c9 at hcell2 hc64 HI HT q1 q2 hb' HT2
          go_wp2_with (go_at_call 106; refine (HI.out _).mono ?_; rintro e w' ⟨rfl, hww⟩; subst w')
          go_roundw
          case rel => exact ⟨p + 1, by omega, by go_num, HT2, HF1, HO1, HG1, hlt1, x0, x1⟩
          case measure => simp [intOf]; omega
      · obtain rfl : p = n := by omega
        have HE : Hid (givs p (cs.drop xs.length) u = []) := by
          have : givs p (cs.drop xs.length) u = [] := by rw [HD.out, ← gTo_all]; exact HT.out
          exact Lib.hid this
        go_wp2_with fail
        go_ret2
        rw [HE.out]
        exact ⟨_, rfl, by rw [HBK.out]; exact HG1.out, HO1.out, fun _ => rfl, fun f rest h => by cases h⟩

/-- what impl.FirstGiving answers -/
def FirstOwn (d : D) (w : World) (e : Ending) (w' : World) : Prop := ∃ v, e = .returned (.tuple #[v, .bool d.hasGiving]) ∧ w'.ownsRow w.heap.size 3 1 v d.first.length (d.first.map (Value.int .i64)) ∧ Below w.heap.size w w'
set_option maxHeartbeats 800000 in
theorem implFirstGiving_any (ppl : Int) (xs : List Int) (cv : Value) (w : World) (h1 : IsInts w cv xs) :
    Calls Try.prog 52 #[.agg #[.int .i64 ppl, cv]] w (FirstOwn ⟨ppl, xs⟩ w) := by
  have hB0 : Below w.heap.size w (w.alloc (.cells #[.int .i64 ppl, cv] 44)) := (Below.refl _ _).alloc (Nat.le_refl _) _
  have X0 := Lib.hid (DayBox.new (ppl := ppl) 44 h1)
  have C0 := Lib.hid (implDayOk_any ppl xs cv _ X0.out.ints)
  have Q0 := Lib.hid hB0
  clear hB0
  obtain ⟨a, n0, c0, rfl⟩ := h1.slice
  clear h1
  rcases D.two ppl xs with hok | ⟨hok, n, cs, rfl, rfl, G, hdn, hdc⟩
  · have HS := Lib.hid (D.first_bad hok)
    go_enter Try.func52, Try.ntmps52
    go_wp2_with fail
    refine C0.out.mono ?_
    rintro e w1 ⟨rfl, hb1⟩
    have Q1 := Lib.hid (Q0.out.trans (hb1.mono Q0.out.size))
    clear hb1
    go_wp2_with fail
    go_ret2
    exact ⟨_, by rw [HS.out.2]; rfl, by rw [HS.out.1]; exact World.ownsRow_nil _ _ _ _, Q1.out⟩
  · have HK := Lib.hid hok
    have HN := Lib.hid hdn
    have HD := Lib.hid hdc
    have HG := Lib.hid G
    clear hdn hdc G
    go_enter Try.func52, Try.ntmps52
    go_wp2_with fail
    refine C0.out.mono ?_
    rintro e w1 ⟨rfl, hb1⟩
    have X1 := Lib.hid (X0.out.below hb1)
    have Q1 := Lib.hid (Q0.out.trans (hb1.mono Q0.out.size))
    have HF : Hid (FarI (Value.slice none 0 0).ownBlock 0 w1 (.slice a n0 c0) (cs.map Int.ofNat)) := by
      have : FarI (Value.slice none 0 0).ownBlock 0 w1 (.slice a n0 c0) (cs.map Int.ofNat) := by
        obtain ⟨a', cap', e1, e2, e3, e4⟩ := X1.out.ints
        exact ⟨a', cap', e1, e2, e3, e4.imp id fun ⟨g, off, k1, k2, k3⟩ => ⟨g, off, k1, Nat.zero_le _, k2, by simp [Value.ownBlock], k3⟩⟩
      exact Lib.hid this
    have x0 := X1.out.c0
    have x1 := X1.out.c1
    clear hb1
    go_wp2_with fail
    clear x0 x1
    refine (firstFrom_any HG.out cs.length [] (by simp) 0 _ _ _ (by omega) HF.out (World.ownsRow_nil _ _ _ _)).mono ?_
    rintro e w3 ⟨rv, rfl, hg, -, hnil, hf⟩
    rw [show (givs n (cs.drop ([] : List Int).length) 0) = givs n cs 0 by rw [List.length_nil, List.drop_zero]] at hnil hf ⊢
    have HB3 : Hid (Below w.heap.size w w3) := by
      have : Below w.heap.size w w3 := Q1.out.grown hg Q1.out.size (fun k e => by simp [Value.ownBlock] at e)
      exact Lib.hid this
    have hrvs := first_slice hnil hf
    obtain ⟨rva, rvn, rvc, rfl⟩ := hrvs
    cases hL : givs n cs 0 with
    | nil =>
      have HS := Lib.hid (D.first_none HK.out HN.out HD.out hL)
      have HR := Lib.hid (hnil hL)
      rw [show (!([] : List (List Int)).isEmpty) = false from rfl]
      clear hnil hf hL hg
      go_wp2_with fail
      go_ret2
      exact ⟨_, by rw [HS.out.2]; rfl, by rw [HS.out.1]; show w3.ownsRow _ _ _ (Value.slice rva rvn rvc) _ _; rw [HR.out]; exact World.ownsRow_nil _ _ _ _, HB3.out⟩
    | cons f rest =>
      have HS := Lib.hid (D.first_is HK.out HN.out HD.out hL)
      have HR := Lib.hid (hf f rest hL)
      rw [show (!(f :: rest).isEmpty) = true from rfl]
      clear hnil hf hL hg
      go_wp2_with fail
      go_ret2
      refine ⟨_, by rw [HS.out.2]; rfl, ?_, HB3.out⟩
      rw [HS.out.1]
      refine ownsRow_base HR.out.1 (fun k e => ?_)
      rcases HR.out.2 k e with h | h
      · simp [Value.ownBlock] at h
      · exact Nat.le_trans Q1.out.size h
end Go.Proofs.Ythihcnlbohhemaa
