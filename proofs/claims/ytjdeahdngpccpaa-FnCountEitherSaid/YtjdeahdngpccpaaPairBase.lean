/- Machines joined: the search over pairs of states, written as numbers, its language, and when its least machine is too great. No program, no condition. The answer of the functions that join machines: the least machine in memory of its own, or none. No condition. What lies in memory while the model's l2Pairs runs. No program, no condition. What the model's l2Pairs answers. No condition. What is wanted at a statement that calls, and lays the answer in a box of its own, in whatever order. No condition. Keys of pairs of states: the law of the map's key, what a key reads as, and rows of pairs. No condition. -/
import Derived.Test.YtjdeahdngpccpaaLeastAll
import Derived.Test.YtjdeahdngpccpaaBack2
import Derived.Test.YtjdeahdngpccpaaImplSame
import Derived.Test.YtjdeahdngpccpaaSpecTrim
import Derived.Test.YtjdeahdngpccpaaFromWalk
import Derived.DeepKeys4
import Derived.Test.YtjdeahdngpccpaaFrame

namespace Go.Proofs.Ytjdeahdngpccpaa

/-- no least machine of a language has at most 48 states -/
def Big (f : List (Fin 3) → Bool) : Prop := ∀ k, IsLm f k → 48 < k.st
/-- the states that come later are live, and a machine of the language has them all -/
theorem in_least {m k : M} (hg : m.good) (hk : k.good) (hl : k.lang 0 = m.lang 0) : ∀ y ∈ (bfsTo (trimOn m (lrounds m m.ends.length)) 0 (trimN m (lrounds m m.ends.length))).1, inM m y ∧ ∃ s : Int, 0 ≤ s ∧ s < k.st ∧ k.lang s = m.lang y := by
  have hL := lrounds_live hg
  refine bfsTo_all ⟨inM_zero hg, 0, by omega, by have := hk.st0; omega, hl⟩ ?_ _
  rintro y ⟨hy, s, s0, s1, hs⟩ l b hl3 hb
  have hin := trimOn_in hg _ y hy l b hl3 hb
  obtain ⟨rfl, b0, bX⟩ := trimOn_some hb
  have hkk : (m.nx y (l : Int)).toNat < (lrounds m m.ends.length).length := by
    rcases Nat.lt_or_ge (m.nx y (l : Int)).toNat (lrounds m m.ends.length).length with h | h
    · exact h
    · rw [List.getD_eq_getElem?_getD, List.getElem?_eq_none h] at bX; cases bX
  rw [List.getD_eq_getElem?_getD, List.getElem?_eq_getElem hkk] at bX
  have hlive := (hL.2 _ hkk).1 bX
  rw [show (((m.nx y (l : Int)).toNat : Nat) : Int) = m.nx y (l : Int) by omega] at hlive
  obtain ⟨u, hu⟩ := (M.live_iff _ _).1 hlive
  have step : k.lang (k.nx s (l : Int)) = m.lang (m.nx y (l : Int)) := funext fun v => congrFun hs (⟨l, hl3⟩ :: v)
  have hbd := M.gnx_bd hk s (l : Int) s1 (by omega) (by omega)
  refine ⟨hin, k.nx s (l : Int), ?_, hbd.2, step⟩
  by_cases h : k.nx s (l : Int) = -1
  · rw [← step, h, M.lang_neg] at hu; cases hu
  · omega
theorem big_of_firsts {m : M} (hg : m.good) {n : Nat} (h : 48 < (firsts (eqv (tm m) n) (tm m).ends.length).length) : Big (m.lang 0) := by
  intro k hk
  by_cases h48 : 48 < k.st
  · exact h48
  exfalso
  have hkg := hk.good (by omega)
  have hin := in_least hg hkg hk.lang
  have hlen := trimN_is hg (lrounds m m.ends.length)
  have htl := tm_len hg
  have hst : ∀ i : Nat, i < (tm m).ends.length → ∃ s : Int, 0 ≤ s ∧ s < k.st ∧ k.lang s = (tm m).lang (i : Int) := by
    intro i hi
    have hi2 : i < (bfsTo (trimOn m (lrounds m m.ends.length)) 0 (trimN m (lrounds m m.ends.length))).1.length := by rw [hlen, ← htl]; exact hi
    obtain ⟨-, s, s0, s1, hs⟩ := hin _ (List.getElem_mem hi2)
    refine ⟨s, s0, s1, ?_⟩
    rw [hs]
    exact (funext fun u => tm_lang_at hg (List.getElem?_eq_getElem hi2) u).symm
  have hcl := good_closed (tm_good hg)
  have h0 : 0 < (tm m).ends.length := by have := M.good_shape (tm_good hg); omega
  have hstill := still_end hcl h0
  let σ : Nat → Int := fun i => if hi : i < (tm m).ends.length then (hst i hi).choose else 0
  have hσ : ∀ i (hi : i < (tm m).ends.length), 0 ≤ σ i ∧ σ i < k.st ∧ k.lang (σ i) = (tm m).lang (i : Int) := by
    intro i hi
    have := (hst i hi).choose_spec
    simpa [σ, hi] using this
  have hnd : ((firsts (eqv (tm m) n) (tm m).ends.length).map σ).Nodup := by
    have hf : (firsts (eqv (tm m) n) (tm m).ends.length).Nodup := List.Nodup.sublist List.filter_sublist List.nodup_range
    refine List.pairwise_map.2 (List.Pairwise.imp_of_mem (fun {a b} ha hb hab e => hab ?_) hf)
    obtain ⟨ha1, ha2⟩ := (firsts_mem _ _ _).1 ha
    obtain ⟨hb1, hb2⟩ := (firsts_mem _ _ _).1 hb
    have hlang : (tm m).lang (a : Int) = (tm m).lang (b : Int) := by rw [← (hσ a ha1).2.2, ← (hσ b hb1).2.2, e]
    have h1 := (eqv_lang hcl (tm_trim hg) (still_later hcl hstill n) ha1 hb1).2 hlang
    exact fst_one _ (eqv_symm _ n) ha2 hb2 (eqv_down' _ (by omega) _ _ h1)
  have := nodup_bound 48 _ hnd (by
    intro x hx
    obtain ⟨i, hi, rfl⟩ := List.mem_map.1 hx
    have := hσ i ((firsts_mem _ _ _).1 hi).1
    omega)
  rw [List.length_map] at this
  omega

/-! pairs of states, written as numbers -/
def pc (i j : Int) : Int := (i + 1) * 49 + (j + 1)
def p1 (c : Int) : Int := c / 49 - 1
def p2 (c : Int) : Int := c % 49 - 1
theorem p1_pc {i j : Int} (h1 : -1 ≤ j) (h2 : j < 48) : p1 (pc i j) = i := by unfold p1 pc; omega
theorem p2_pc {i j : Int} (h1 : -1 ≤ j) (h2 : j < 48) : p2 (pc i j) = j := by unfold p2 pc; omega
theorem pc_p (c : Int) : pc (p1 c) (p2 c) = c := by unfold p1 p2 pc; omega
/-- a pair of states of two machines, each of which may have stopped -/
def inP (A B : M) (c : Int) : Prop := -1 ≤ p1 c ∧ p1 c < A.st ∧ -1 ≤ p2 c ∧ p2 c < B.st
theorem inP_pc {A B : M} (hB : B.st ≤ 48) {i j : Int} (i0 : -1 ≤ i) (i1 : i < A.st) (j0 : -1 ≤ j) (j1 : j < B.st) : inP A B (pc i j) := by
  have j48 : j < 48 := Int.lt_of_lt_of_le j1 hB
  unfold inP
  rw [p1_pc j0 j48, p2_pc j0 j48]
  exact ⟨i0, i1, j0, j1⟩
theorem inP_zero {A B : M} (hA : 1 ≤ A.st) (hB : B.st ≤ 48) (hB0 : 1 ≤ B.st) : inP A B (pc 0 0) := inP_pc hB (by decide) (Int.lt_of_lt_of_le (by decide) hA) (by decide) (Int.lt_of_lt_of_le (by decide) hB0)
theorem inP_bd {A B : M} (hA : A.st ≤ 48) (hB : B.st ≤ 48) {c : Int} (h : inP A B c) : 0 ≤ c ∧ c < 2401 := by
  obtain ⟨h1, h2, h3, h4⟩ := h
  have a1 : p1 c < 48 := Int.lt_of_lt_of_le h2 hA
  have a2 : p2 c < 48 := Int.lt_of_lt_of_le h4 hB
  unfold p1 p2 at *
  omega
/-- where a search over pairs ends -/
theorem pair_n {A B : M} (hA : 1 ≤ A.st) (hA4 : A.st ≤ 48) (hB : B.st ≤ 48) (hB0 : 1 ≤ B.st) {on : Int → Nat → Option Int} (hs : ∀ x, inP A B x → ∀ l b, l < 3 → on x l = some b → inP A B b) :
    ∃ N, N ≤ 2401 ∧ (bfsTo on (pc 0 0) N).1.length = N := by
  refine bfsTo_end (C := 2401) (fun n => ?_)
  exact nodup_bound 2401 _ (bfsTo_nodup on _ n) (fun x hx => by
    have := inP_bd hA4 hB (bfsTo_all (inP_zero hA hB hB0) hs n x hx)
    omega)
/-- the program's way over pairs -/
def pOn (A B : M) (c : Int) (l : Nat) : Option Int := some (pc (A.nx (p1 c) (l : Int)) (B.nx (p2 c) (l : Int)))
def pEnds (A B : M) (g : Bool → Bool → Bool) (c : Int) : Bool := g (A.endAt (p1 c)) (B.endAt (p2 c))
theorem pOn_in {A B : M} (hA : A.good) (hB : B.good) (hB4 : B.st ≤ 48) (x : Int) (hx : inP A B x) (l : Nat) (b : Int) (hl : l < 3) (h : pOn A B x l = some b) : inP A B b := by
  obtain ⟨h1, h2, h3, h4⟩ := hx
  unfold pOn at h
  cases h
  have a := M.gnx_bd hA (p1 x) (l : Int) h2 (by omega) (by omega)
  have c := M.gnx_bd hB (p2 x) (l : Int) h4 (by omega) (by omega)
  exact inP_pc hB4 a.1 a.2 c.1 c.2
/-- a search over pairs takes what is asked of both languages -/
theorem pairs_lang {A B : M} (hA : A.good) (hB : B.good) (hB4 : B.st ≤ 48) (g : Bool → Bool → Bool) {on : Int → Nat → Option Int} {N : Nat} (hN : (bfsTo on (pc 0 0) N).1.length = N)
    (hs : ∀ x, inP A B x → ∀ l b, l < 3 → on x l = some b → b = pc (A.nx (p1 x) (l : Int)) (B.nx (p2 x) (l : Int)))
    (hno : ∀ x, inP A B x → ∀ l : Fin 3, on x l.val = none → ∀ u, g (A.lang (A.nx (p1 x) (l.val : Int)) u) (B.lang (B.nx (p2 x) (l.val : Int)) u) = false) :
    (bM on (pc 0 0) N (pEnds A B g)).lang 0 = fun u => g (A.lang 0 u) (B.lang 0 u) := by
  have hin : ∀ x, inP A B x → ∀ l b, l < 3 → on x l = some b → inP A B b := by
    intro x hx l b hl h
    rw [hs x hx l b hl h]
    obtain ⟨h1, h2, h3, h4⟩ := hx
    have a := M.gnx_bd hA (p1 x) (l : Int) h2 (by omega) (by omega)
    have c := M.gnx_bd hB (p2 x) (l : Int) h4 (by omega) (by omega)
    exact inP_pc hB4 a.1 a.2 c.1 c.2
  funext u
  have h := bM_lang (P := inP A B) (F := fun c u => g (A.lang (p1 c) u) (B.lang (p2 c) u)) (ends := pEnds A B g) hN (bfsTo_all (inP_zero hA.st0 hB4 hB.st0) hin N) (fun x _ => rfl) ?_ ?_ u 0 (pc 0 0) bM_first
  · rw [show ((0 : Nat) : Int) = 0 from rfl] at h
    rw [h, p1_pc (by omega) (by omega), p2_pc (by omega) (by omega)]
  · intro x hx l b hb v
    have e := hs x hx l.val b l.isLt hb
    obtain ⟨h1, h2, h3, h4⟩ := hx
    have c := M.gnx_bd hB (p2 x) (l.val : Int) h4 (by omega) (by omega)
    subst e
    rw [p1_pc c.1 (by omega), p2_pc c.1 (by omega)]
    rfl
  · intro x hx l hb v
    exact hno x hx l hb v
theorem pOn_lang {A B : M} (hA : A.good) (hB : B.good) (hB4 : B.st ≤ 48) (g : Bool → Bool → Bool) {N : Nat} (hN : (bfsTo (pOn A B) (pc 0 0) N).1.length = N) :
    (bM (pOn A B) (pc 0 0) N (pEnds A B g)).lang 0 = fun u => g (A.lang 0 u) (B.lang 0 u) :=
  pairs_lang hA hB hB4 g hN (fun x _ l b _ h => by unfold pOn at h; exact (Option.some.inj h).symm) (fun x _ l h => by unfold pOn at h; cases h)
/-- the kinds of the model -/
def gk (k : Nat) (a b : Bool) : Bool := if k = 0 then a && b else if k = 1 then a || b else a && !b
def kStop (k : Nat) (i j : Int) : Bool := (decide (i < 0) && decide (j < 0)) || (decide (k ≠ 1) && decide (i < 0)) || (decide (k = 0) && decide (j < 0))
/-- the model's way over pairs -/
def sOn (k : Nat) (A B : M) (c : Int) (l : Nat) : Option Int := if kStop k (A.nx (p1 c) (l : Int)) (B.nx (p2 c) (l : Int)) = true then none else pOn A B c l
theorem sOn_some {k : Nat} {A B : M} {c b : Int} {l : Nat} (h : sOn k A B c l = some b) : pOn A B c l = some b := by
  unfold sOn at h
  split at h
  · cases h
  · exact h
theorem M.lang_lt {m : M} {s : Int} (h : s < 0) (u : List (Fin 3)) : m.lang s u = false := by
  cases u with
  | nil => rw [M.lang_nil, M.endAt, if_pos h]
  | cons l u => rw [M.lang_cons, M.nx_neg _ _ _ h, M.lang_neg]
theorem sOn_lang (k : Nat) {A B : M} (hA : A.good) (hB : B.good) (hB4 : B.st ≤ 48) {N : Nat} (hN : (bfsTo (sOn k A B) (pc 0 0) N).1.length = N) :
    (bM (sOn k A B) (pc 0 0) N (pEnds A B (gk k))).lang 0 = fun u => gk k (A.lang 0 u) (B.lang 0 u) := by
  refine pairs_lang hA hB hB4 (gk k) hN (fun x _ l b _ h => by have h := sOn_some h; unfold pOn at h; exact (Option.some.inj h).symm) ?_
  intro x hx l h u
  unfold sOn pOn at h
  split at h
  · rename_i hs
    unfold kStop at hs
    unfold gk
    simp only [Bool.or_eq_true, Bool.and_eq_true, decide_eq_true_eq] at hs
    rcases hs with (⟨h1, h2⟩ | ⟨h1, h2⟩) | ⟨h1, h2⟩
    · simp [M.lang_lt h1, M.lang_lt h2]
    · simp [M.lang_lt h2, h1]
    · simp [M.lang_lt h2, h1]
  · cases h
/-! not -/
def nOn (m : M) (x : Int) (l : Nat) : Option Int := some (m.nx x (l : Int))
def inN (m : M) (x : Int) : Prop := -1 ≤ x ∧ x < m.st
theorem nOn_in {m : M} (hm : m.good) (x : Int) (hx : inN m x) (l : Nat) (b : Int) (hl : l < 3) (h : nOn m x l = some b) : inN m b := by
  unfold nOn at h
  cases h
  exact M.gnx_bd hm x (l : Int) hx.2 (by omega) (by omega)
theorem inN_zero {m : M} (hm : m.good) : inN m 0 := ⟨by omega, by have := hm.st0; omega⟩
theorem not_n {m : M} (hm : m.good) (h4 : m.st ≤ 48) : ∃ N, N ≤ 49 ∧ (bfsTo (nOn m) 0 N).1.length = N := by
  refine bfsTo_end (C := 49) (fun n => ?_)
  have h1 : ((bfsTo (nOn m) 0 n).1.map (fun x => x + 1)).Nodup := List.pairwise_map.2 ((bfsTo_nodup (nOn m) 0 n).imp (fun h => by omega))
  have := nodup_bound 49 _ h1 (fun x hx => by
    obtain ⟨y, hy, rfl⟩ := List.mem_map.1 hx
    have := bfsTo_all (inN_zero hm) (fun x hx l b hl h => nOn_in hm x hx l b hl h) n y hy
    unfold inN at this
    omega)
  rwa [List.length_map] at this
theorem not_lang {m : M} (hm : m.good) {N : Nat} (hN : (bfsTo (nOn m) 0 N).1.length = N) : (bM (nOn m) 0 N (fun x => !m.endAt x)).lang 0 = fun u => !m.lang 0 u := by
  funext u
  exact bM_lang (P := inN m) (F := fun x u => !m.lang x u) hN (bfsTo_all (inN_zero hm) (fun x hx l b hl h => nOn_in hm x hx l b hl h) N) (fun x _ => rfl)
    (fun x _ l b hb v => by unfold nOn at hb; cases hb; rfl) (fun x _ l hb v => by unfold nOn at hb; cases hb) u 0 0 bM_first

/-- an answer: the least machine and true, or none and false -/
def IsJoin (ok : Bool) (f : List (Fin 3) → Bool) (k : M) (r : Bool) : Prop := (r = true ∧ ok = true ∧ IsLm f k ∧ k.st ≤ 48) ∨ (r = false ∧ k = ⟨0, [], []⟩ ∧ (ok = true → Big f))
theorem IsJoin.one {ok : Bool} {f : List (Fin 3) → Bool} {k k' : M} {r r' : Bool} (h : IsJoin ok f k r) (h' : IsJoin ok f k' r') : k = k' ∧ r = r' := by
  rcases h with ⟨rfl, h1, h2, h3⟩ | ⟨rfl, rfl, h1⟩ <;> rcases h' with ⟨rfl, g1, g2, g3⟩ | ⟨rfl, rfl, g1⟩
  · exact ⟨h2.one g2, rfl⟩
  · have := g1 h1 k h2; omega
  · have := h1 g1 k' g2; omega
  · exact ⟨rfl, rfl⟩
theorem IsJoin.len {ok : Bool} {f : List (Fin 3) → Bool} {k : M} {r : Bool} (h : IsJoin ok f k r) : k.next.length ≤ 1100000 ∧ k.ends.length ≤ 1100000 := by
  rcases h with ⟨rfl, h1, h2, h3⟩ | ⟨rfl, rfl, h1⟩
  · have h3 := M.good_shape (h2.good (by omega))
    omega
  · exact ⟨Nat.zero_le _, Nat.zero_le _⟩
end Go.Proofs.Ytjdeahdngpccpaa

namespace Go.Proofs.Ytjdeahdngpccpaa
open Go.RowKit

def JoinNew (ok : Bool) (f : List (Fin 3) → Bool) (w : World) (e : Ending) (w' : World) : Prop :=
  ∃ (k : M) (r : Bool) (a1 a2 : Option Addr) (c1 c2 : Nat), IsJoin ok f k r ∧ e = .returned (.tuple #[.agg #[.int .i64 k.st, .slice a1 k.next.length c1, .slice a2 k.ends.length c2], .bool r]) ∧
    Apart w.heap.size [rowT 3 1 (.slice a1 k.next.length c1) k.next.length (k.next.map (Value.int .i64)), rowT 4 1 (.slice a2 k.ends.length c2) k.ends.length (k.ends.map Value.bool)] w' ∧ Below w.heap.size w w'
theorem JoinNew.reads {ok : Bool} {f : List (Fin 3) → Bool} {w w' : World} {e : Ending} (h : JoinNew ok f w e w') :
    ∃ (k : M) (r : Bool) (nv ev : Value), IsJoin ok f k r ∧ e = .returned (.tuple #[.agg #[.int .i64 k.st, nv, ev], .bool r]) ∧ IsInts w' nv k.next ∧ IsBools w' ev k.ends ∧ Below w.heap.size w w' := by
  obtain ⟨k, r, a1, a2, c1, c2, h1, rfl, hA, hb⟩ := h
  exact ⟨k, r, _, _, h1, rfl, IsInts.of_owns hA.head, IsBools.of_owns hA.tail.head, hb⟩
theorem LeastI.join {m : M} {w w' : World} {e : Ending} (hg : m.good) (h : LeastI m w e w') : JoinNew true (m.lang 0) w e w' := by
  obtain ⟨k, ok, a1, a2, c1, c2, rfl, hA, hb, hc⟩ := h
  refine ⟨k, ok, a1, a2, c1, c2, ?_, rfl, hA, hb⟩
  rcases hc with ⟨rfl, h1, h2⟩ | ⟨rfl, rfl, n, h1⟩
  · exact .inl ⟨rfl, rfl, h1, h2⟩
  · exact .inr ⟨rfl, rfl, fun _ => big_of_firsts hg h1⟩
end Go.Proofs.Ytjdeahdngpccpaa

namespace Go.Proofs.Ytjdeahdngpccpaa
open Go.RowKit

/-- the row of a pair -/
def inn2 (p : Value × Int) : Thing := rowT 3 1 p.1 2 [.int .i64 (p1 p.2), .int .i64 (p2 p.2)]
/-- the codes of rows of pairs -/
def cds (ps : List (Value × Int)) : List Int := ps.map Prod.snd
theorem cds_len (ps : List (Value × Int)) : (cds ps).length = ps.length := List.length_map _
theorem cds_snoc (ps : List (Value × Int)) (v : Value) (c : Int) : cds (ps ++ [(v, c)]) = cds ps ++ [c] := by simp [cds]
/-- a machine that is being made from pairs -/
structure Prs (w0 : World) (R6 R7 : Nat) (ps : List (Value × Int)) (qv : Value) (nx : List Int) (nv : Value) (es : List Bool) (ev : Value) (w : World) : Prop where
  keep : Below w0.heap.size w0 w
  ap : Apart w0.heap.size (cellsT R7 #[.int .i64 0, nv, ev] 26 :: rowT 3 1 nv nx.length (nx.map (Value.int .i64)) :: rowT 4 1 ev es.length (es.map Value.bool) :: rowT 23 1 qv ps.length (ps.map Prod.fst) ::
    cellsT R6 #[.int .i64 0, .slice none 0 0, .slice none 0 0] 26 :: ps.map inn2) w
section
variable {w0 : World} {R6 R7 : Nat} {ps : List (Value × Int)} {qv : Value} {nx : List Int} {nv : Value} {es : List Bool} {ev : Value} {w w' : World}
theorem Prs.size (h : Prs w0 R6 R7 ps qv nx nv es ev w) : w0.heap.size ≤ w.heap.size := h.keep.size
theorem Prs.same (h : Prs w0 R6 R7 ps qv nx nv es ev w) (hg : w.grownBy w' none) : Prs w0 R6 R7 ps qv nx nv es ev w' := ⟨h.keep.grown hg h.size (fun _ e => by cases e), h.ap.same hg⟩
theorem Prs.cell (h : Prs w0 R6 R7 ps qv nx nv es ev w) : w.cell? ⟨R7, 0, none⟩ = some (.int .i64 0) ∧ w.cell? ⟨R7, 1, none⟩ = some nv ∧ w.cell? ⟨R7, 2, none⟩ = some ev :=
  ⟨cellsT_cell h.ap.head 0, cellsT_cell h.ap.head 1, cellsT_cell h.ap.head 2⟩
theorem Prs.froz (h : Prs w0 R6 R7 ps qv nx nv es ev w) (i : Nat) : w.frozen? ⟨R7, i, none⟩ = false := cellsT_frozen h.ap.head i
theorem Prs.rowN (h : Prs w0 R6 R7 ps qv nx nv es ev w) : w.ownsRow 0 3 1 nv nx.length (nx.map (Value.int .i64)) := h.ap.at 1 (by simp)
theorem Prs.rowE (h : Prs w0 R6 R7 ps qv nx nv es ev w) : w.ownsRow 0 4 1 ev es.length (es.map Value.bool) := h.ap.at 2 (by simp)
theorem Prs.rowQ (h : Prs w0 R6 R7 ps qv nx nv es ev w) : w.ownsRow 0 23 1 qv ps.length (ps.map Prod.fst) := h.ap.at 3 (by simp)
theorem Prs.nextN {x : Int} {t : TypeId} {g cp : Nat} {w1 : World} (h : Prs w0 R6 R7 ps qv nx nv es ev w) (hg : (w.alloc (.cells #[.int .i64 x] t)).grownBy w1 nv.ownBlock)
    (ho : w1.ownsRow 0 3 1 (.slice (some ⟨g, 0, none⟩) (nx.length + 1) cp) (nx.length + 1) (nx.map (Value.int .i64) ++ [.int .i64 x])) (hat : nv.ownBlock = some g ∨ g = (w.alloc (.cells #[.int .i64 x] t)).heap.size) :
    Prs w0 R6 R7 ps qv (nx ++ [x]) (.slice (some ⟨g, 0, none⟩) (nx.length + 1) cp) es ev (w1.setCell ⟨R7, 1, none⟩ (.slice (some ⟨g, 0, none⟩) (nx.length + 1) cp)) ∧ w1.cell? ⟨R7, 1, none⟩ = some nv ∧ w1.frozen? ⟨R7, 1, none⟩ = false := by
  have h1 := h.same (World.grownBy_alloc w (.cells #[.int .i64 x] t) none)
  have hlt := h1.ap.ltAt 1 (by simp)
  have a1 := h1.ap.turnAt 1 (by simp) hg (rowT 3 1 (.slice (some ⟨g, 0, none⟩) (nx.length + 1) cp) (nx ++ [x]).length ((nx ++ [x]).map (Value.int .i64)))
    (by show w1.ownsRow 0 _ _ _ _ _; rw [List.length_append, List.map_append]; exact ho) h1.size
    (fun j e => ⟨by cases e; exact hat.imp id (fun e => Nat.le_of_eq e.symm), (World.ownsRow.lt ho j e).2⟩)
  have hs1 : w0.heap.size ≤ w1.heap.size := Nat.le_trans h1.size hg.size
  have hb1 := (h.ap.lt R7 rfl).1
  exact ⟨⟨((h1.keep.grown hg h1.size (fun j e => (hlt j e).1)).setCell (p := ⟨R7, 1, none⟩) hb1 _), Apart.set a1 hs1 1 _⟩, cellsT_cell a1.head 1, cellsT_frozen a1.head 1⟩
theorem Prs.nextE {x : Bool} {t : TypeId} {g cp : Nat} {w1 : World} (h : Prs w0 R6 R7 ps qv nx nv es ev w) (hg : (w.alloc (.cells #[.bool x] t)).grownBy w1 ev.ownBlock)
    (ho : w1.ownsRow 0 4 1 (.slice (some ⟨g, 0, none⟩) (es.length + 1) cp) (es.length + 1) (es.map Value.bool ++ [.bool x])) (hat : ev.ownBlock = some g ∨ g = (w.alloc (.cells #[.bool x] t)).heap.size) :
    Prs w0 R6 R7 ps qv nx nv (es ++ [x]) (.slice (some ⟨g, 0, none⟩) (es.length + 1) cp) (w1.setCell ⟨R7, 2, none⟩ (.slice (some ⟨g, 0, none⟩) (es.length + 1) cp)) ∧ w1.cell? ⟨R7, 2, none⟩ = some ev ∧ w1.frozen? ⟨R7, 2, none⟩ = false := by
  have h1 := h.same (World.grownBy_alloc w (.cells #[.bool x] t) none)
  have hlt := h1.ap.ltAt 2 (by simp)
  have a1 := h1.ap.turnAt 2 (by simp) hg (rowT 4 1 (.slice (some ⟨g, 0, none⟩) (es.length + 1) cp) (es ++ [x]).length ((es ++ [x]).map Value.bool))
    (by show w1.ownsRow 0 _ _ _ _ _; rw [List.length_append, List.map_append]; exact ho) h1.size
    (fun j e => ⟨by cases e; exact hat.imp id (fun e => Nat.le_of_eq e.symm), (World.ownsRow.lt ho j e).2⟩)
  have hs1 : w0.heap.size ≤ w1.heap.size := Nat.le_trans h1.size hg.size
  have hb1 := (h.ap.lt R7 rfl).1
  exact ⟨⟨((h1.keep.grown hg h1.size (fun j e => (hlt j e).1)).setCell (p := ⟨R7, 2, none⟩) hb1 _), Apart.set a1 hs1 2 _⟩, cellsT_cell a1.head 2, cellsT_frozen a1.head 2⟩
/-- one pair more -/
theorem Prs.push {c : Int} {g cp : Nat} {w1 : World} (h : Prs w0 R6 R7 ps qv nx nv es ev w) {W1 W2 : World} (hW1 : W1 = w.alloc (.cells #[.int .i64 (p1 c), .int .i64 (p2 c)] 3))
    (hW2 : W2 = W1.alloc (.cells #[.slice (some ⟨w.heap.size, 0, none⟩) 2 2] 23)) (hg : W2.grownBy w1 qv.ownBlock)
    (ho : w1.ownsRow 0 23 1 (.slice (some ⟨g, 0, none⟩) (ps.length + 1) cp) (ps.length + 1) (ps.map Prod.fst ++ [.slice (some ⟨w.heap.size, 0, none⟩) 2 2])) (hat : qv.ownBlock = some g ∨ g = W2.heap.size) :
    Prs w0 R6 R7 (ps ++ [(.slice (some ⟨w.heap.size, 0, none⟩) 2 2, c)]) (.slice (some ⟨g, 0, none⟩) (ps.length + 1) cp) nx nv es ev w1 := by
  subst hW1 hW2
  have a1 := h.ap.more (World.grownBy_alloc w (.cells #[.int .i64 (p1 c), .int .i64 (p2 c)] 3) none) (inn2 (.slice (some ⟨w.heap.size, 0, none⟩) 2 2, c))
    (World.ownsRow_lit (base := 0) (e := 3) (size := 1) w #[.int .i64 (p1 c), .int .i64 (p2 c)] 2 (Nat.zero_le _) (by unfold maxLen; omega) rfl) h.size (fun k e => by cases e; simp)
  have k1 := h.keep.alloc h.size (.cells #[.int .i64 (p1 c), .int .i64 (p2 c)] 3)
  have a2 := a1.same (World.grownBy_alloc _ (.cells #[.slice (some ⟨w.heap.size, 0, none⟩) 2 2] 23) none)
  have k2 := k1.alloc k1.size (.cells #[.slice (some ⟨w.heap.size, 0, none⟩) 2 2] 23)
  have hlt := a2.ltAt 4 (by simp)
  have a3 := a2.turnAt 4 (by simp) hg (rowT 23 1 (.slice (some ⟨g, 0, none⟩) (ps.length + 1) cp) (ps ++ [((.slice (some ⟨w.heap.size, 0, none⟩) 2 2 : Value), c)]).length ((ps ++ [((.slice (some ⟨w.heap.size, 0, none⟩) 2 2 : Value), c)]).map Prod.fst))
    (by show w1.ownsRow 0 _ _ _ _ _; rw [List.length_append, List.map_append]; exact ho) k2.size
    (fun j e => ⟨by cases e; exact hat.imp id (fun e => Nat.le_of_eq e.symm), (World.ownsRow.lt ho j e).2⟩)
  refine ⟨k2.grown hg k2.size (fun j e => (hlt j e).1), ?_⟩
  rw [show (ps ++ [((.slice (some ⟨w.heap.size, 0, none⟩) 2 2 : Value), c)]).map inn2 = ps.map inn2 ++ [inn2 (.slice (some ⟨w.heap.size, 0, none⟩) 2 2, c)] by simp]
  exact a3.perm (List.perm_append_singleton _ _).symm
/-- a pair is read -/
theorem Prs.pair (h : Prs w0 R6 R7 ps qv nx nv es ev w) (k : Nat) (hk : k < ps.length) : ∃ g cp, ps[k].1 = .slice (some ⟨g, 0, none⟩) 2 cp ∧ w.cell? ⟨g, 0, none⟩ = some (.int .i64 (p1 ps[k].2)) ∧ w.cell? ⟨g, 1, none⟩ = some (.int .i64 (p2 ps[k].2)) := by
  have hm : inn2 ps[k] ∈ (cellsT R7 #[.int .i64 0, nv, ev] 26 :: rowT 3 1 nv nx.length (nx.map (Value.int .i64)) :: rowT 4 1 ev es.length (es.map Value.bool) :: rowT 23 1 qv ps.length (ps.map Prod.fst) ::
    cellsT R6 #[.int .i64 0, .slice none 0 0, .slice none 0 0] 26 :: ps.map inn2) := by
    refine List.mem_cons_of_mem _ (List.mem_cons_of_mem _ (List.mem_cons_of_mem _ (List.mem_cons_of_mem _ (List.mem_cons_of_mem _ ?_))))
    exact List.mem_map_of_mem (List.getElem_mem hk)
  have hr : w.ownsRow 0 3 1 ps[k].1 2 [.int .i64 (p1 ps[k].2), .int .i64 (p2 ps[k].2)] := (h.ap.all _ hm).1
  obtain ⟨g, cp, he, -, -⟩ := World.ownsRow.form hr (by omega)
  rw [he] at hr
  exact ⟨g, cp, he, World.ownsRow.cellAt hr 0 (by omega), World.ownsRow.cellAt hr 1 (by omega)⟩
theorem Prs.outer {g n cp : Nat} (h : Prs w0 R6 R7 ps (.slice (some ⟨g, 0, none⟩) n cp) nx nv es ev w) (hn : n = ps.length) (k : Nat) (hk : k < ps.length) : w.cell? ⟨g, k, none⟩ = some ps[k].1 := by
  subst hn
  have := World.ownsRow.cellAt h.rowQ k (by omega)
  rw [List.getElem?_map, List.getElem?_eq_getElem hk] at this
  exact this
theorem Prs.len (h : Prs w0 R6 R7 ps qv nx nv es ev w) (u : Int) {W : World} (hW : W = w.setCell ⟨R7, 0, none⟩ (.int .i64 u)) :
    W.cell? ⟨R7, 0, none⟩ = some (.int .i64 u) ∧ W.cell? ⟨R7, 1, none⟩ = some nv ∧ W.cell? ⟨R7, 2, none⟩ = some ev ∧ (cellsT R6 #[.int .i64 0, .slice none 0 0, .slice none 0 0] 26).says W := by
  subst hW
  have a := h.ap.set h.size 0 (.int .i64 u)
  exact ⟨cellsT_cell a.head 0, cellsT_cell a.head 1, cellsT_cell a.head 2, a.at 4 (by simp)⟩
theorem Prs.done (h : Prs w0 R6 R7 ps qv nx nv es ev w) (u : Int) {x y z : Value} {W : World} (hW : W = (((w.setCell ⟨R7, 0, none⟩ (.int .i64 u)).setCell ⟨R6, 0, none⟩ x).setCell ⟨R6, 1, none⟩ y).setCell ⟨R6, 2, none⟩ z) :
    Apart w0.heap.size [rowT 3 1 nv nx.length (nx.map (Value.int .i64)), rowT 4 1 ev es.length (es.map Value.bool)] W ∧ Below w0.heap.size w0 W ∧
    W.cell? ⟨R6, 0, none⟩ = some x ∧ W.cell? ⟨R6, 1, none⟩ = some y ∧ W.cell? ⟨R6, 2, none⟩ = some z := by
  subst hW
  have hb7 := (h.ap.lt R7 rfl).1
  have hb6 := (h.ap.ltAt 4 (by simp) R6 rfl).1
  have a1 := h.ap.set h.size 0 (.int .i64 u)
  have k1 := h.keep.setCell (p := ⟨R7, 0, none⟩) hb7 (.int .i64 u)
  have a2 := a1.setAt 4 (by simp) rfl k1.size 0 x
  have a3 := a2.setAt 4 (by simp) rfl (by simpa using k1.size) 1 y
  have a4 := a3.setAt 4 (by simp) rfl (by simpa using k1.size) 2 z
  have c := a4.at 4 (by simp)
  refine ⟨a4.sub ?_, ((k1.setCell (p := ⟨R6, 0, none⟩) hb6 _).setCell (p := ⟨R6, 1, none⟩) hb6 _).setCell (p := ⟨R6, 2, none⟩) hb6 _, cellsT_cell c 0, cellsT_cell c 1, cellsT_cell c 2⟩
  exact List.Sublist.cons _ (List.Sublist.cons_cons _ (List.Sublist.cons_cons _ (List.nil_sublist _)))
end
theorem prs_start (w0 : World) :
    Prs w0 w0.heap.size (w0.heap.size + 1) [(.slice (some ⟨w0.heap.size + 1 + 1, 0, none⟩) 2 2, pc 0 0)] (.slice (some ⟨w0.heap.size + 1 + 1 + 1, 0, none⟩) 1 1) [] (.slice none 0 0) [] (.slice none 0 0)
      ((((w0.alloc (.cells #[.int .i64 0, .slice none 0 0, .slice none 0 0] 26)).alloc (.cells #[.int .i64 0, .slice none 0 0, .slice none 0 0] 26)).alloc (.cells #[.int .i64 0, .int .i64 0] 3)).alloc (.cells #[.slice (some ⟨w0.heap.size + 1 + 1, 0, none⟩) 2 2] 23)) := by
  have A1 := (Apart.nil w0.heap.size w0).more (World.grownBy_alloc w0 _ none) (cellsT w0.heap.size #[.int .i64 0, .slice none 0 0, .slice none 0 0] 26) (heap_alloc_new w0 _) (Nat.le_refl _) (fun j e => by cases e; simp)
  have A2 := A1.more (World.grownBy_alloc _ (.cells #[.int .i64 0, .slice none 0 0, .slice none 0 0] 26) none) (cellsT (w0.heap.size + 1) #[.int .i64 0, .slice none 0 0, .slice none 0 0] 26) (by have := heap_alloc_new (w0.alloc (.cells #[.int .i64 0, .slice none 0 0, .slice none 0 0] 26)) (.cells #[.int .i64 0, .slice none 0 0, .slice none 0 0] 26); rw [World.size_alloc] at this; exact this) (by simp) (fun j e => by cases e; simp)
  have A3 := A2.more (World.grownBy_alloc _ (.cells #[.int .i64 0, .int .i64 0] 3) none) (inn2 (.slice (some ⟨w0.heap.size + 1 + 1, 0, none⟩) 2 2, pc 0 0)) (by
    have := World.ownsRow_lit (base := 0) (e := 3) (size := 1) ((w0.alloc (.cells #[.int .i64 0, .slice none 0 0, .slice none 0 0] 26)).alloc (.cells #[.int .i64 0, .slice none 0 0, .slice none 0 0] 26)) #[.int .i64 0, .int .i64 0] 2 (Nat.zero_le _) (by unfold maxLen; omega) rfl
    rw [World.size_alloc, World.size_alloc] at this; exact this) (by simp; omega) (fun j e => by cases e; simp)
  have A4 := A3.more (World.grownBy_alloc _ (.cells #[.slice (some ⟨w0.heap.size + 1 + 1, 0, none⟩) 2 2] 23) none) (rowT 23 1 (.slice (some ⟨w0.heap.size + 1 + 1 + 1, 0, none⟩) 1 1) 1 [.slice (some ⟨w0.heap.size + 1 + 1, 0, none⟩) 2 2]) (by
    have := World.ownsRow_lit (base := 0) (e := 23) (size := 1) (((w0.alloc (.cells #[.int .i64 0, .slice none 0 0, .slice none 0 0] 26)).alloc (.cells #[.int .i64 0, .slice none 0 0, .slice none 0 0] 26)).alloc (.cells #[.int .i64 0, .int .i64 0] 3)) #[.slice (some ⟨w0.heap.size + 1 + 1, 0, none⟩) 2 2] 1 (Nat.zero_le _) (by unfold maxLen; omega) rfl
    rw [World.size_alloc, World.size_alloc, World.size_alloc] at this; exact this) (by simp; omega) (fun j e => by cases e; simp)
  have A6 := (A4.idle (rowT 4 1 (.slice none 0 0) 0 []) (World.ownsRow_nil _ _ _ _) rfl).idle (rowT 3 1 (.slice none 0 0) 0 []) (World.ownsRow_nil _ _ _ _) rfl
  refine ⟨(((((Below.refl w0.heap.size w0).alloc (Nat.le_refl _) (.cells #[.int .i64 0, .slice none 0 0, .slice none 0 0] 26)).alloc (by simp) (.cells #[.int .i64 0, .slice none 0 0, .slice none 0 0] 26)).alloc (by simp; omega) (.cells #[.int .i64 0, .int .i64 0] 3)).alloc (by simp; omega) (.cells #[.slice (some ⟨w0.heap.size + 1 + 1, 0, none⟩) 2 2] 23)), A6.perm ?_⟩
  have p : ∀ (a b o i r7 r6 : Thing), [a, b, o, i, r7, r6].Perm [r7, a, b, o, r6, i] := fun a b o i r7 r6 => by
    have h1 : [a, b, o, i, r7, r6].Perm (r7 :: [a, b, o, i, r6]) := List.perm_middle (l₁ := [a, b, o, i]) (l₂ := [r6])
    exact h1.trans (((((List.Perm.swap r6 i []).cons o).cons b).cons a).cons r7)
  exact p _ _ _ _ _ _
end Go.Proofs.Ytjdeahdngpccpaa

namespace Go.Proofs.Ytjdeahdngpccpaa
open Go.RowKit

theorem endAt_neg (m : M) {s : Int} (h : s < 0) : m.endAt s = false := by rw [M.endAt, if_pos h]
/-- a machine and true -/
def PairNew (m : M) (w : World) (e : Ending) (w' : World) : Prop :=
  ∃ (a1 a2 : Option Addr) (c1 c2 : Nat), e = .returned (.tuple #[.agg #[.int .i64 m.st, .slice a1 m.next.length c1, .slice a2 m.ends.length c2], .bool true]) ∧
    Apart w.heap.size [rowT 3 1 (.slice a1 m.next.length c1) m.next.length (m.next.map (Value.int .i64)), rowT 4 1 (.slice a2 m.ends.length c2) m.ends.length (m.ends.map Value.bool)] w' ∧ Below w.heap.size w w'
theorem sOn_in {k : Nat} {A B : M} (hA : A.good) (hB : B.good) (hB4 : B.st ≤ 48) (x : Int) (hx : inP A B x) (l : Nat) (b : Int) (hl : l < 3) (h : sOn k A B x l = some b) : inP A B b := pOn_in hA hB hB4 x hx l b hl (sOn_some h)
end Go.Proofs.Ytjdeahdngpccpaa

namespace Go.Proofs.Ytjdeahdngpccpaa
open Go.RowKit

/-- a machine's box's cells -/
structure Tri (a : Nat) (ms : Int) (nv ev : Value) (W : World) : Prop where
  la : a < W.heap.size
  cs : W.cell? ⟨a, 0, none⟩ = some (.int .i64 ms) ∧ W.cell? ⟨a, 1, none⟩ = some nv ∧ W.cell? ⟨a, 2, none⟩ = some ev
theorem Tri.cells {a : Nat} {ms : Int} {nv ev : Value} {W : World} (h : Tri a ms nv ev W) : W.cell? ⟨a, 0, none⟩ = some (.int .i64 ms) ∧ W.cell? ⟨a, 1, none⟩ = some nv ∧ W.cell? ⟨a, 2, none⟩ = some ev := h.cs
theorem Tri.below {a : Nat} {ms : Int} {nv ev : Value} {W W' : World} (h : Tri a ms nv ev W) (hb : Below W.heap.size W W') : Tri a ms nv ev W' :=
  ⟨Nat.lt_of_lt_of_le h.la hb.size, (hb.cell (p := ⟨a, 0, none⟩) h.la).trans h.cs.1, (hb.cell (p := ⟨a, 1, none⟩) h.la).trans h.cs.2.1, (hb.cell (p := ⟨a, 2, none⟩) h.la).trans h.cs.2.2⟩
theorem Tri.alloc {a : Nat} {ms : Int} {nv ev : Value} {W : World} (h : Tri a ms nv ev W) (o : Obj) : Tri a ms nv ev (W.alloc o) := h.below ((Below.refl _ _).alloc (Nat.le_refl _) o)
theorem Tri.drew {a : Nat} {ms : Int} {nv ev : Value} {W : World} (h : Tri a ms nv ev W) : Tri a ms nv ev W.drew := h.below (Below.refl _ _).drew
theorem Tri.set {a : Nat} {ms : Int} {nv ev : Value} {W : World} (h : Tri a ms nv ev W) {c o : Nat} {v : Value} (h0 : ¬ (a = c)) : Tri a ms nv ev (W.setCell ⟨c, o, none⟩ v) := by
  obtain ⟨la, k0, k1, k2⟩ := h
  refine ⟨?_, ?_, ?_, ?_⟩ <;> go_simp
theorem MachBox.tri {a : Nat} {ms : Int} {nv ev : Value} {xs : List Int} {bs : List Bool} {W : World} (h : MachBox a ms nv xs ev bs W) : Tri a ms nv ev W := ⟨h.hB, h.c0, h.c1, h.c2⟩
/-- bools in a slice -/
def BxBools (X : List Bool) (V : World) (e : Ending) (w' : World) : Prop := ∃ (a : Option Addr) (n c : Nat), e = .returned (.slice a n c) ∧ IsBools w' (.slice a n c) X ∧ Below V.heap.size V w'
theorem BxBools.form {X : List Bool} {V w' : World} {e : Ending} (h : BxBools X V e w') : ∃ (a : Option Addr) (n c : Nat), e = .returned (.slice a n c) ∧ IsBools w' (.slice a n c) X ∧ Below V.heap.size V w' := h
theorem MachNew.rows {k : M} {w w' : World} {e : Ending} (h : MachNew k w e w') : ∃ a1 n1 c1 a2 n2 c2, e = .returned (.agg #[.int .i64 k.st, .slice a1 n1 c1, .slice a2 n2 c2]) ∧ Rws w.heap.size w'.heap.size k (.slice a1 n1 c1) (.slice a2 n2 c2) w' ∧ Below w.heap.size w w' := by
  obtain ⟨a1, a2, c1, c2, rfl, hA, hb⟩ := h
  exact ⟨a1, _, c1, a2, _, c2, rfl, ⟨Nat.le_refl _, hA.head, hA.tail.head, hA.lt, hA.tail.lt⟩, hb⟩
theorem IsBools.alloc {w : World} {v : Value} {xs : List Bool} (h : IsBools w v xs) (o : Obj) : IsBools (w.alloc o) v xs := h.below ((Below.refl _ _).alloc (Nat.le_refl _) o)
theorem IsInts.alloc {w : World} {v : Value} {xs : List Int} (h : IsInts w v xs) (o : Obj) : IsInts (w.alloc o) v xs := h.below ((Below.refl _ _).alloc (Nat.le_refl _) o)
/-- parts of states in a slice -/
def BxCls (T : M) (V : World) (e : Ending) (w' : World) : Prop := ∃ (a : Option Addr) (n c r : Nat) (cls : List Int), e = .returned (.slice a n c) ∧ IsInts w' (.slice a n c) cls ∧ still T T.ends.length r ∧ isPart T T.ends.length r cls ∧ Below V.heap.size V w'
theorem BxCls.form {T : M} {V w' : World} {e : Ending} (h : BxCls T V e w') : ∃ (a : Option Addr) (n c r : Nat) (cls : List Int), e = .returned (.slice a n c) ∧ IsInts w' (.slice a n c) cls ∧ still T T.ends.length r ∧ isPart T T.ends.length r cls ∧ Below V.heap.size V w' := h
/-- the least machine of a language, in memory of its own -/
def BxLm (f : List (Fin 3) → Bool) (V : World) (e : Ending) (w' : World) : Prop := ∃ L, IsLm f L ∧ L.st ≤ 4000 ∧ MachNew L V e w'
theorem BxLm.rows {f : List (Fin 3) → Bool} {w w' : World} {e : Ending} (h : BxLm f w e w') : ∃ L a1 n1 c1 a2 n2 c2, e = .returned (.agg #[.int .i64 L.st, .slice a1 n1 c1, .slice a2 n2 c2]) ∧ Rws w.heap.size w'.heap.size L (.slice a1 n1 c1) (.slice a2 n2 c2) w' ∧ (IsLm f L ∧ L.st ≤ 4000 ∧ n1 = L.next.length ∧ n2 = L.ends.length ∧ ∀ k, (Value.slice a1 n1 c1).ownBlock = some k → (Value.slice a2 n2 c2).ownBlock ≠ some k) ∧ Below w.heap.size w w' := by
  obtain ⟨L, h1, h2, a1, a2, c1, c2, rfl, hA, hb⟩ := h
  exact ⟨L, a1, _, c1, a2, _, c2, rfl, ⟨Nat.le_refl _, hA.head, hA.tail.head, hA.lt, hA.tail.lt⟩, ⟨h1, h2, rfl, rfl, fun k e => (List.pairwise_cons.1 hA.two).1 _ List.mem_cons_self k e⟩, hb⟩
theorem Rws.apart {B H : Nat} {K : M} {v u : Value} {W : World} (h : Rws B H K v u W) (hd : ∀ k, v.ownBlock = some k → u.ownBlock ≠ some k) : Apart B [rowT 3 1 v K.next.length (K.next.map (Value.int .i64)), rowT 4 1 u K.ends.length (K.ends.map Value.bool)] W := by
  have hl : ∀ k, (v.ownBlock = some k ∨ u.ownBlock = some k) → B ≤ k ∧ k < W.heap.size := by
    intro k hk
    have h3 := h.hH
    rcases hk with hk | hk
    · have := h.l1 k hk; omega
    · have := h.l2 k hk; omega
  refine ⟨?_, List.pairwise_cons.2 ⟨fun t ht k e => ?_, List.pairwise_cons.2 ⟨fun t ht => by simp at ht, .nil⟩⟩⟩
  · intro t ht
    simp only [List.mem_cons, List.not_mem_nil, or_false] at ht
    rcases ht with rfl | rfl
    · exact ⟨h.r1, fun k e => hl k (.inl e)⟩
    · exact ⟨h.r2, fun k e => hl k (.inr e)⟩
  · simp only [List.mem_cons, List.not_mem_nil, or_false] at ht
    subst ht
    exact hd k e
theorem Rws.ex1 {H : Nat} {K : M} {v u : Value} {w4 W : World} {o : Obj} (h : Rws (w4.alloc o).heap.size H K v u W) : ∃ B, B = w4.heap.size + 1 ∧ Rws B H K v u W := ⟨_, rfl, h.one'⟩
theorem Rws.ex0 {B H : Nat} {K : M} {v u : Value} {W : World} (h : Rws B H K v u W) : ∃ C, C = B ∧ Rws C H K v u W := ⟨_, rfl, h⟩
end Go.Proofs.Ytjdeahdngpccpaa

namespace Go.Proofs.Ytjdeahdngpccpaa
open Go.RowKit Go.Maps

def arr2 (c : Int) : Value := .agg #[.int .i64 (p1 c), .int .i64 (p2 c)]
def key2 (c : Int) : Lit := .string (keyBytes [.int .i64 (p1 c), .int .i64 (p2 c)])
def wf2 (c : Int) : Prop := (Lit.int .i64 (p1 c)).wf = true ∧ (Lit.int .i64 (p2 c)).wf = true
theorem row2 : (126 : TypeId) < Try.prog.types.size := of_decide_eq_true (by kernel_rfl)
theorem wide2 : (match Try.prog.underlying 126 with | some (.array _ _) | some (.struct _) => true | _ => false) = true := by kernel_rfl
set_option maxRecDepth 100000 in
theorem lawK2 : Keyed Try.prog 126 := Keyed.of_law (deep_law_laid laidOut (m := 2) (by omega) row2 (by kernel_rfl) wide2)
theorem cells2 : Try.prog.cellsOf 126 = 2 := by kernel_rfl
theorem cells2e : Try.prog.cellsOf 3 = 1 := by kernel_rfl
theorem keyT2 : Try.prog.keyType 126 = true := by kernel_rfl
theorem formed2 {xs : Array Value} (h : xs.size = 2) : (Value.agg xs).formed Try.prog 126 = true := by
  simp [Value.formed, Try.underlying126, cells2, h]
theorem lits1p (d : Nat) (x : Int) (h : (Lit.int .i64 x).wf = true) : Try.prog.keyLits (d + 1) 3 [.int .i64 x] = some [.int .i64 x] := by
  simp [Program.keyLits, Try.underlying3, h]
theorem lits2 (d : Nat) (c : Int) (h : wf2 c) : Try.prog.keyLits (d + 2) 126 [.int .i64 (p1 c), .int .i64 (p2 c)] = some [.int .i64 (p1 c), .int .i64 (p2 c)] := by
  obtain ⟨h1, h2⟩ := h
  unfold Program.keyLits
  simp only [Try.underlying126, cells2]
  simp [cells2e, lits1p d _ h1, lits1p d _ h2]
theorem key2_of (c : Int) (h : wf2 c) : keyOf Try.prog 126 (arr2 c) = some (key2 c) := by
  obtain ⟨d, hd⟩ : ∃ d, Try.prog.types.size + 1 = d + 2 := ⟨Try.prog.types.size - 1, by have h : 1 ≤ Try.prog.types.size := Nat.lt_of_le_of_lt (Nat.zero_le _) row2; omega⟩
  unfold keyOf
  simp only [Try.underlying126]
  rw [keyT2, show (arr2 c).formed Try.prog 126 = true from formed2 rfl, hd]
  show (if (true && true) = true then Option.map (fun ls => Lit.string (keyBytes ls)) (Try.prog.keyLits (d + 2) 126 [.int .i64 (p1 c), .int .i64 (p2 c)]) else none) = _
  rw [lits2 d c h]
  rfl
theorem key2_inj {a b : Int} (ha : wf2 a) (hb : wf2 b) (h : key2 a = key2 b) : a = b := by
  have := lawK2.inj (key2_of a ha) (by rw [h]; exact key2_of b hb)
  simp only [arr2, Value.agg.injEq] at this
  simp at this
  rw [← pc_p a, ← pc_p b, this.1, this.2]
theorem key2_is (c : Int) : WideAt.IsKeyLit (key2 c) := trivial
theorem has_k2 {q : List Int} (c : Int) (hq : ∀ x ∈ q, wf2 x) (hc : wf2 c) : Maps.has (qD (H := Unit) key2 q) (key2 c) = decide (c ∈ q) := qD_has key2 key2_is q c (fun x hx e => key2_inj hc (hq x hx) e)
theorem at_k2 {q : List Int} (v : Int) (hq : ∀ x ∈ q, wf2 x) (hv : wf2 v) (c : Int) (hn : q.Nodup) (hm : v ∈ q) (h : (qD (H := Unit) key2 q).atKey (key2 v) (.lit (.int .i64 0)) = .lit (.int .i64 c)) : c = (q.idxOf v : Int) := by
  rw [qD_at (H := Unit) key2 key2_is q hn v (fun x hx e => key2_inj hv (hq x hx) e) hm (.lit (.int .i64 0))] at h
  simpa using h.symm

/-- the cells of pairs, one after the other -/
def prs (q : List Int) : List Value := q.flatMap (fun c => [.int .i64 (p1 c), .int .i64 (p2 c)])
theorem prs_snoc (q : List Int) (x : Int) : prs (q ++ [x]) = prs q ++ [.int .i64 (p1 x), .int .i64 (p2 x)] := by simp [prs]
theorem prs_length (q : List Int) : (prs q).length = q.length * 2 := by
  induction q with
  | nil => rfl
  | cons c q ih => show (prs q).length + 2 = (q.length + 1) * 2; omega
theorem prs_at (q : List Int) : ∀ (k : Nat) (h : k < q.length), (prs q)[k * 2]? = some (.int .i64 (p1 q[k])) ∧ (prs q)[k * 2 + 1]? = some (.int .i64 (p2 q[k])) := by
  induction q with
  | nil => intro k h; exact absurd h (Nat.not_lt_zero k)
  | cons c q ih =>
    intro k h
    cases k with
    | zero => exact ⟨rfl, rfl⟩
    | succ k =>
      have := ih k (by simpa using h)
      have e : (k + 1) * 2 = k * 2 + 2 := by omega
      rw [e]
      exact this
theorem infoPairF : (Try.prog.info? 126).map (fun i => (i.zero, i.size, i.bytes)) = some (some (.agg #[.int .i64 0, .int .i64 0]), 2, 16) := by kernel_rfl
end Go.Proofs.Ytjdeahdngpccpaa
