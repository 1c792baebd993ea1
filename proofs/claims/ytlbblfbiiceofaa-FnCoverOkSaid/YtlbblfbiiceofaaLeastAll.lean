/- Moore's rounds, as relations: which states are one after so many rounds. No program, no condition. spec.l2Same: whether two states of one class lead alike. No condition. Lists that number the parts of Moore's rounds. No program, no condition. The table that a search makes. No program, no condition. Languages of states, and the least machine of a language. No program, no condition. The trimmed machine takes the same words and is trimmed; the least machine out of any numbering of the last parts. No condition. One round of the program's parting, as plain data: states are numbered by their keys as these come. No program, no condition. Keys of four numbers: the law of the map's key, and what a key reads as. No condition. impl.refined: one round of the program's parting. No condition. impl.partsOf: the last parts of a machine, or too many. No condition. The two functions with which impl.leastOf walks the parts. No condition. The walk of machineFrom over numbers, for one pair of functions. No condition. impl.leastOf: the least machine of one that may be great, or none. No condition. The program's LeastMachine: the least machine of its language. No condition. spec.l2Classes: the parts of the states. No condition. The model's LeastMachine: the least machine of its language. No condition. -/
import Derived.Test.YtlbblfbiiceofaaLive
import Derived.Test.YtlbblfbiiceofaaOrderWalk
import Derived.Test.YtlbblfbiiceofaaBfs
import Derived.Test.YtlbblfbiiceofaaTrimmed
import Derived.Test.YtlbblfbiiceofaaFromWalk
import Derived.DeepKeys4
import Derived.Test.YtlbblfbiiceofaaFrame
import Derived.Test.YtlbblfbiiceofaaTrim
import Derived.Deep.CutBlock
import Derived.Deep.RegionWith
import Derived.Test.YtlbblfbiiceofaaTrimmed2
import Derived.Test.YtlbblfbiiceofaaBoxed
import Derived.Test.YtlbblfbiiceofaaSpecTrim
import Derived.Deep.RegionHeld3

namespace Go.Proofs.Ytlbblfbiiceofaa
open Go.RowKit

/-- one after n rounds -/
def eqv (m : M) : Nat → Int → Int → Bool
  | 0, x, y => m.endAt x == m.endAt y
  | n + 1, x, y => eqv m n x y && (List.range 3).all (fun l => if m.nx x (l : Int) = -1 then decide (m.nx y (l : Int) = -1) else !decide (m.nx y (l : Int) = -1) && eqv m n (m.nx x (l : Int)) (m.nx y (l : Int)))
theorem eqv_zero (m : M) (x y : Int) : eqv m 0 x y = true ↔ m.endAt x = m.endAt y := by simp [eqv]
theorem eqv_succ (m : M) (n : Nat) (x y : Int) : eqv m (n + 1) x y = true ↔ eqv m n x y = true ∧ ∀ l : Nat, l < 3 → (m.nx x (l : Int) = -1 ↔ m.nx y (l : Int) = -1) ∧ (m.nx x (l : Int) ≠ -1 → eqv m n (m.nx x (l : Int)) (m.nx y (l : Int)) = true) := by
  rw [eqv, Bool.and_eq_true, List.all_eq_true]
  refine and_congr Iff.rfl ⟨fun h l hl => ?_, fun h l hl => ?_⟩
  · have := h l (List.mem_range.2 hl)
    by_cases a : m.nx x (l : Int) = -1
    · rw [if_pos a] at this
      exact ⟨⟨fun _ => of_decide_eq_true this, fun _ => a⟩, fun b => absurd a b⟩
    · rw [if_neg a, Bool.and_eq_true] at this
      have hb : m.nx y (l : Int) ≠ -1 := by simpa using this.1
      exact ⟨⟨fun b => absurd b a, fun b => absurd b hb⟩, fun _ => this.2⟩
  · have := h l (List.mem_range.1 hl)
    by_cases a : m.nx x (l : Int) = -1
    · rw [if_pos a]
      exact decide_eq_true (this.1.1 a)
    · rw [if_neg a, Bool.and_eq_true]
      exact ⟨by simpa using fun b => a (this.1.2 b), this.2 a⟩
theorem eqv_refl (m : M) (n : Nat) (x : Int) : eqv m n x x = true := by
  induction n generalizing x with
  | zero => exact (eqv_zero m x x).2 rfl
  | succ n ih => exact (eqv_succ m n x x).2 ⟨ih x, fun l _ => ⟨Iff.rfl, fun _ => ih _⟩⟩
theorem eqv_symm (m : M) (n : Nat) (x y : Int) (h : eqv m n x y = true) : eqv m n y x = true := by
  induction n generalizing x y with
  | zero => exact (eqv_zero m y x).2 ((eqv_zero m x y).1 h).symm
  | succ n ih =>
    have h := (eqv_succ m n x y).1 h
    exact (eqv_succ m n y x).2 ⟨ih _ _ h.1, fun l hl => ⟨(h.2 l hl).1.symm, fun b => ih _ _ ((h.2 l hl).2 (fun a => b ((h.2 l hl).1.1 a)))⟩⟩
theorem eqv_trans (m : M) (n : Nat) (x y z : Int) (h : eqv m n x y = true) (k : eqv m n y z = true) : eqv m n x z = true := by
  induction n generalizing x y z with
  | zero => exact (eqv_zero m x z).2 (((eqv_zero m x y).1 h).trans ((eqv_zero m y z).1 k))
  | succ n ih =>
    have h := (eqv_succ m n x y).1 h
    have k := (eqv_succ m n y z).1 k
    exact (eqv_succ m n x z).2 ⟨ih _ _ _ h.1 k.1, fun l hl => ⟨(h.2 l hl).1.trans (k.2 l hl).1, fun b => ih _ _ _ ((h.2 l hl).2 b) ((k.2 l hl).2 (fun a => b ((h.2 l hl).1.2 a)))⟩⟩
theorem eqv_down (m : M) (n : Nat) (x y : Int) (h : eqv m (n + 1) x y = true) : eqv m n x y = true := ((eqv_succ m n x y).1 h).1
theorem eqv_down' (m : M) {n k : Nat} (hk : n ≤ k) (x y : Int) (h : eqv m k x y = true) : eqv m n x y = true := by
  induction k with
  | zero => have : n = 0 := by omega
            subst this; exact h
  | succ k ih =>
    by_cases e : n = k + 1
    · subst e; exact h
    · exact ih (by omega) (eqv_down m k x y h)

/-- the first one of a part -/
def fstOk (R : Int → Int → Bool) (k : Nat) : Bool := (List.range k).all (fun j => !R (j : Int) (k : Int))
theorem fstOk_iff (R : Int → Int → Bool) (k : Nat) : fstOk R k = true ↔ ∀ j, j < k → R (j : Int) (k : Int) = false := by
  simp [fstOk]
def firsts (R : Int → Int → Bool) (N : Nat) : List Nat := (List.range N).filter (fstOk R)
theorem firsts_mem (R : Int → Int → Bool) (N k : Nat) : k ∈ firsts R N ↔ k < N ∧ fstOk R k = true := by simp [firsts]
/-- the first one of k's part -/
def rep (R : Int → Int → Bool) (k : Nat) : Nat := ((List.range k).find? (fun (j : Nat) => R (j : Int) (k : Int))).getD k
theorem rep_le (R : Int → Int → Bool) (k : Nat) : rep R k ≤ k := by
  unfold rep
  cases h : (List.range k).find? (fun (j : Nat) => R (j : Int) (k : Int)) with
  | none => exact Nat.le_refl _
  | some j => have := List.mem_range.1 (List.mem_of_find?_eq_some h); show j ≤ k; omega
theorem rep_is (R : Int → Int → Bool) (hr : ∀ x, R x x = true) (k : Nat) : R (rep R k : Int) (k : Int) = true := by
  unfold rep
  cases h : (List.range k).find? (fun (j : Nat) => R (j : Int) (k : Int)) with
  | none => exact hr _
  | some j => exact List.find?_some (p := fun (j : Nat) => R (j : Int) (k : Int)) h
theorem rep_before (R : Int → Int → Bool) (k j : Nat) (h : j < rep R k) : R (j : Int) (k : Int) = false := by
  have hle := rep_le R k
  unfold rep at h
  cases hf : (List.range k).find? (fun (j : Nat) => R (j : Int) (k : Int)) with
  | none =>
    rw [hf] at h
    have := List.find?_eq_none.1 hf j (List.mem_range.2 h)
    simpa using this
  | some i =>
    rw [hf] at h
    have hi : j < i := h
    obtain ⟨hp, la, bs, hl, hn⟩ := List.find?_eq_some_iff_append.1 hf
    have hlen : la.length = i := by
      have h1 : (List.range k)[la.length]? = some i := by rw [hl]; simp
      rw [List.getElem?_eq_some_iff] at h1
      obtain ⟨h2, h3⟩ := h1
      simpa using h3
    have hm : j ∈ la := by
      have h1 : (List.range k)[j]? = la[j]? := by rw [hl, List.getElem?_append_left (by omega)]
      have hjk : j < k := by have := List.mem_range.1 (List.mem_of_find?_eq_some hf); omega
      rw [List.getElem?_eq_getElem (by simpa using hjk), List.getElem?_eq_getElem (by omega)] at h1
      have h2 : la[j]'(by omega) = j := by simpa using h1.symm
      have h3 : la[j]'(by omega) ∈ la := List.getElem_mem _
      rw [h2] at h3
      exact h3
    simpa using hn j hm
theorem rep_fst (R : Int → Int → Bool) (hr : ∀ x, R x x = true) (ht : ∀ x y z, R x y = true → R y z = true → R x z = true) (k : Nat) : fstOk R (rep R k) = true := by
  refine (fstOk_iff R _).2 (fun j hj => ?_)
  have h1 := rep_before R k j hj
  have h2 := rep_is R hr k
  cases hR : R (j : Int) (rep R k : Int) with
  | false => rfl
  | true => rw [ht _ _ _ hR h2] at h1; exact absurd h1 (by simp)
theorem fst_one (R : Int → Int → Bool) (hs : ∀ x y, R x y = true → R y x = true) {j k : Nat} (hj : fstOk R j = true) (hk : fstOk R k = true) (h : R (j : Int) (k : Int) = true) : j = k := by
  rcases Nat.lt_trichotomy j k with a | a | a
  · have := (fstOk_iff R k).1 hk j a
    rw [h] at this; exact absurd this (by simp)
  · exact a
  · have := (fstOk_iff R j).1 hj k a
    rw [hs _ _ h] at this; exact absurd this (by simp)
theorem rep_eq (R : Int → Int → Bool) (hr : ∀ x, R x x = true) (hs : ∀ x y, R x y = true → R y x = true) (ht : ∀ x y z, R x y = true → R y z = true → R x z = true) (j k : Nat) : rep R j = rep R k ↔ R (j : Int) (k : Int) = true := by
  have hj := rep_is R hr j
  have hk := rep_is R hr k
  constructor
  · intro h
    rw [h] at hj
    exact ht _ _ _ (hs _ _ hj) hk
  · intro h
    exact fst_one R hs (rep_fst R hr ht j) (rep_fst R hr ht k) (ht _ _ _ (ht _ _ _ hj h) (hs _ _ hk))

theorem firsts_sub (m : M) (n N : Nat) : (firsts (eqv m n) N).Sublist (firsts (eqv m (n + 1)) N) := by
  have h : firsts (eqv m n) N = (firsts (eqv m (n + 1)) N).filter (fstOk (eqv m n)) := by
    unfold firsts
    rw [List.filter_filter]
    refine List.filter_congr (fun k _ => ?_)
    cases h : fstOk (eqv m n) k with
    | false => simp
    | true =>
      have : fstOk (eqv m (n + 1)) k = true := (fstOk_iff _ k).2 (fun j hj => by
        cases hR : eqv m (n + 1) (j : Int) (k : Int) with
        | false => rfl
        | true => have := (fstOk_iff _ k).1 h j hj
                  rw [eqv_down m n _ _ hR] at this; exact absurd this (by simp))
      simp [this]
  rw [h]
  exact List.filter_sublist
/-- no more parts: the same parts -/
theorem same_parts (m : M) (n N : Nat) (h : (firsts (eqv m (n + 1)) N).length ≤ (firsts (eqv m n) N).length) (x y : Nat) (hx : x < N) (hy : y < N) (hR : eqv m n (x : Int) (y : Int) = true) : eqv m (n + 1) (x : Int) (y : Int) = true := by
  have he := (firsts_sub m n N).eq_of_length_le h
  have hf : ∀ z : Nat, z < N → fstOk (eqv m n) (rep (eqv m (n + 1)) z) = true := fun z hz => by
    have h1 : rep (eqv m (n + 1)) z ∈ firsts (eqv m (n + 1)) N := (firsts_mem _ _ _).2 ⟨Nat.lt_of_le_of_lt (rep_le _ _) hz, rep_fst _ (eqv_refl m _) (eqv_trans m _) z⟩
    rw [← he] at h1
    exact ((firsts_mem _ _ _).1 h1).2
  have hjx := rep_is (eqv m (n + 1)) (eqv_refl m _) x
  have hjy := rep_is (eqv m (n + 1)) (eqv_refl m _) y
  have h1 := fst_one (eqv m n) (eqv_symm m n) (hf x hx) (hf y hy) (eqv_trans m n _ _ _ (eqv_trans m n _ _ _ (eqv_down m n _ _ hjx) hR) (eqv_symm m n _ _ (eqv_down m n _ _ hjy)))
  exact (rep_eq (eqv m (n + 1)) (eqv_refl m _) (eqv_symm m _) (eqv_trans m _) x y).1 h1

/-- a machine that leads to states alone -/
def closedM (m : M) (N : Nat) : Prop := ∀ x l : Nat, x < N → l < 3 → m.nx (x : Int) (l : Int) = -1 ∨ ∃ y : Nat, y < N ∧ m.nx (x : Int) (l : Int) = (y : Int)
/-- a round that has changed nothing -/
def still (m : M) (N n : Nat) : Prop := ∀ x y : Nat, x < N → y < N → eqv m n (x : Int) (y : Int) = true → eqv m (n + 1) (x : Int) (y : Int) = true
theorem still_next {m : M} {N n : Nat} (hc : closedM m N) (h : still m N n) : still m N (n + 1) := by
  intro x y hx hy hR
  have h1 := (eqv_succ m n x y).1 hR
  refine (eqv_succ m (n + 1) x y).2 ⟨hR, fun l hl => ⟨(h1.2 l hl).1, fun hne => ?_⟩⟩
  have h2 := (h1.2 l hl).2 hne
  obtain ⟨x', hx', ex⟩ := (hc x l hx hl).resolve_left hne
  obtain ⟨y', hy', ey⟩ := (hc y l hy hl).resolve_left (fun a => hne ((h1.2 l hl).1.2 a))
  rw [ex, ey] at h2 ⊢
  exact h x' y' hx' hy' h2
theorem still_later {m : M} {N n : Nat} (hc : closedM m N) (h : still m N n) (k : Nat) : still m N (n + k) := by
  induction k with
  | zero => exact h
  | succ k ih => exact still_next hc ih
theorem still_up {m : M} {N n : Nat} (hc : closedM m N) (h : still m N n) (k : Nat) (x y : Nat) (hx : x < N) (hy : y < N) (hR : eqv m n (x : Int) (y : Int) = true) : eqv m (n + k) (x : Int) (y : Int) = true := by
  induction k with
  | zero => exact hR
  | succ k ih => exact still_later hc h k x y hx hy ih
theorem firsts_le (R : Int → Int → Bool) (N : Nat) : (firsts R N).length ≤ N := by
  have := List.length_filter_le (fstOk R) (List.range N)
  rw [List.length_range] at this
  exact this
theorem firsts_mono (m : M) (N : Nat) {n k : Nat} (h : n ≤ k) : (firsts (eqv m n) N).length ≤ (firsts (eqv m k) N).length := by
  induction k with
  | zero => have : n = 0 := by omega
            subst this; exact Nat.le_refl _
  | succ k ih =>
    by_cases e : n = k + 1
    · subst e; exact Nat.le_refl _
    · exact Nat.le_trans (ih (by omega)) (firsts_sub m k N).length_le
theorem firsts_pos (R : Int → Int → Bool) {N : Nat} (h : 0 < N) : 0 < (firsts R N).length := by
  have : 0 ∈ firsts R N := (firsts_mem R N 0).2 ⟨h, (fstOk_iff R 0).2 (fun j hj => by omega)⟩
  exact List.length_pos_of_mem this
/-- as many parts again: still -/
theorem still_of_count {m : M} {N n : Nat} (h : (firsts (eqv m (n + 1)) N).length ≤ (firsts (eqv m n) N).length) : still m N n := fun x y hx hy hR => same_parts m n N h x y hx hy hR
/-- after as many rounds as there are states all is still -/
theorem still_end {m : M} {N : Nat} (hc : closedM m N) (h0 : 0 < N) : still m N (N - 1) := by
  have key : ∀ n, still m N n ∨ n + 2 ≤ (firsts (eqv m (n + 1)) N).length := by
    intro n
    induction n with
    | zero =>
      by_cases h : (firsts (eqv m 1) N).length ≤ (firsts (eqv m 0) N).length
      · exact .inl (still_of_count h)
      · have := firsts_pos (eqv m 0) h0
        exact .inr (by show 2 ≤ (firsts (eqv m 1) N).length; omega)
    | succ n ih =>
      rcases ih with ih | ih
      · exact .inl (still_next hc ih)
      · by_cases h : (firsts (eqv m (n + 1 + 1)) N).length ≤ (firsts (eqv m (n + 1)) N).length
        · exact .inl (still_of_count h)
        · exact .inr (by omega)
  rcases key (N - 1) with h | h
  · exact h
  · have := firsts_le (eqv m (N - 1 + 1)) N
    omega
/-- the last parts -/
theorem still_same {m : M} {N n k : Nat} (hc : closedM m N) (hn : still m N n) (hk : still m N k) (x y : Nat) (hx : x < N) (hy : y < N) : eqv m n (x : Int) (y : Int) = eqv m k (x : Int) (y : Int) := by
  have go : ∀ a b : Nat, still m N a → eqv m a (x : Int) (y : Int) = true → eqv m b (x : Int) (y : Int) = true := by
    intro a b ha h
    by_cases hab : a ≤ b
    · have := still_up hc ha (b - a) x y hx hy h
      rwa [show a + (b - a) = b by omega] at this
    · exact eqv_down' m (by omega) _ _ h
  cases h1 : eqv m n (x : Int) (y : Int) with
  | true => exact (go n k hn h1).symm
  | false =>
    cases h2 : eqv m k (x : Int) (y : Int) with
    | false => rfl
    | true => rw [go k n hk h2] at h1; exact absurd h1 (by simp)
end Go.Proofs.Ytlbblfbiiceofaa

namespace Go.Proofs.Ytlbblfbiiceofaa
open Go.RowKit

def sameL (m : M) (cls : List Int) (a b : Int) (l : Nat) : Bool :=
  if m.nx a (l : Int) = -1 then decide (m.nx b (l : Int) = -1) else !decide (m.nx b (l : Int) = -1) && (cls.getD (m.nx a (l : Int)).toNat 0 == cls.getD (m.nx b (l : Int)).toNat 0)
def sameTo (m : M) (cls : List Int) (a b : Int) (l : Nat) : Bool := (List.range l).all (sameL m cls a b)
def sameC (m : M) (cls : List Int) (a b : Int) : Bool := sameTo m cls a b 3 && (cls.getD a.toNat 0 == cls.getD b.toNat 0)
theorem sameTo_succ (m : M) (cls : List Int) (a b : Int) (l : Nat) : sameTo m cls a b (l + 1) = (sameTo m cls a b l && sameL m cls a b l) := by simp [sameTo, List.range_succ, List.all_append]
theorem sameTo_no {m : M} {cls : List Int} {a b : Int} {l k : Nat} (h : sameL m cls a b l = false) (hl : l < k) : sameTo m cls a b k = false := by
  cases hh : sameTo m cls a b k with
  | false => rfl
  | true => have := List.all_eq_true.1 hh l (List.mem_range.2 hl)
            rw [h] at this; exact absurd this (by simp)

set_option maxHeartbeats 1600000 in
theorem specSame_any (m : M) (nv ev : Value) (a : Option Addr) (a2 c2 : Nat) (cls : List Int) (j k : Nat) (w : World) (h1 : IsInts w nv m.next) (h2 : IsBools w ev m.ends) (hg : m.good) (h3 : IsInts w (.slice a a2 c2) cls) (hL : cls.length = m.ends.length) (hj : j < m.ends.length) (hk : k < m.ends.length) :
    Calls Try.prog 132 #[.agg #[.int .i64 m.st, nv, ev], .slice a a2 c2, .int .i64 (j : Int), .int .i64 (k : Int)] w fun e w' => e = .returned (.bool (sameC m cls (j : Int) (k : Int))) ∧ Below w.heap.size w w' := by
  have hM : MachBox w.heap.size m.st nv m.next ev m.ends (w.alloc (.cells #[.int .i64 m.st, nv, ev] 115)) := MachBox.new _ h1 h2
  have hb0 : Below w.heap.size w (w.alloc (.cells #[.int .i64 m.st, nv, ev] 115)) := (Below.refl _ _).alloc (Nat.le_refl _) _
  have C0 := Lib.hid (h3.below hb0)
  have M0 := Lib.hid hM
  have q0 := Lib.hid hb0
  have HG := Lib.hid hg
  clear hM hb0 h1 h2 h3
  have hsh := M.good_shape hg
  obtain ⟨e1, n1, d1, rfl⟩ := M0.out.ints.slice
  obtain ⟨g1, off1, rfl, hn1, hc1, hc1m, hg1, hcellN⟩ := ints_cells M0.out.ints (by omega)
  obtain ⟨g3, off3, rfl, hn3, hc3, hc3m, hg3, hcellC⟩ := ints_cells C0.out (by omega)
  subst hn1 hn3
  unfold maxLen at hc1m hc3m
  have HCN := Lib.hid hcellN
  have HCC := Lib.hid hcellC
  have HLL := Lib.hid hL
  have hSH := Lib.hid hsh
  have hj4 : j < 4000 := by omega
  have hk4 : k < 4000 := by omega
  have hjC : j < cls.length := by omega
  have hkC : k < cls.length := by omega
  have hj0 : (j : Int) < cls.length := by omega
  have hk0 : (k : Int) < cls.length := by omega
  clear hcellN hcellC hsh hg1 hg3 hL
  go_enter Try.func132, Try.ntmps132
  go_wp2_with fail
  generalize hW0 : w.alloc (.cells #[.int .i64 m.st, .slice (some ⟨g1, off1, none⟩) m.next.length d1, ev] 115) = W0 at *
  go_loopw [9] (fun i wr => ∃ l d : Nat, l ≤ 3 ∧ i = .int .i64 l ∧ sameTo m cls (j : Int) (k : Int) l = true ∧ wr = W0.drewN d) (fun i _ => 3 - (intOf i).toNat)
  case atStart => exact ⟨0, 0, by omega, rfl, rfl, rfl⟩
  case round =>
    obtain ⟨l, d, hl, rfl, hs, rfl⟩ := hrel
    have HS := Lib.hid hs
    clear hs
    have hbd := below_drewN (Below.refl W0.heap.size W0) d
    have Md := M0.out.below hbd
    have y0 := Md.c0
    have y1 := Md.c1
    have HQ := Lib.hid (q0.out.trans (hbd.mono q0.out.size))
    clear hbd Md
    have HCN2 : Hid (∀ i (h : i < m.next.length), (W0.drewN d).cell? ⟨g1, off1 + i, none⟩ = some (.int .i64 m.next[i])) := Lib.hid (fun i h => HCN.out i h)
    have HCC2 : Hid (∀ i (h : i < cls.length), (W0.drewN d).cell? ⟨g3, off3 + i, none⟩ = some (.int .i64 cls[i])) := Lib.hid (fun i h => HCC.out i h)
    have HW : Hid (∀ q, ∃ d', (W0.drewN d).drewN q = W0.drewN d') := by
      have : ∀ q, ∃ d', (W0.drewN d).drewN q = W0.drewN d' := fun q => ⟨d + q, by rw [World.drewN_drewN]⟩
      exact Lib.hid this
    by_cases hl3 : l < 3
    · obtain ⟨p, hp1, hp2, hp3⟩ := M.gnx_at HG.out (j : Int) (l : Int) (by omega) (by have := hSH.out; omega) (by omega) (by omega)
      obtain ⟨r, hr1, hr2, hr3⟩ := M.gnx_at HG.out (k : Int) (l : Int) (by omega) (by have := hSH.out; omega) (by omega) (by omega)
      have hpb := HG.out.nxt p hp2
      have hrb := HG.out.nxt r hr2
      have hcp := HCN2.out p hp2
      have hcr := HCN2.out r hr2
      have hq1 : IntKind.i64.wrap (3 * (j : Int)) = 3 * (j : Int) := IntWalk.i64_in _ (by omega)
      have hq2 : IntKind.i64.wrap (3 * (j : Int) + (l : Int)) = 3 * (j : Int) + (l : Int) := IntWalk.i64_in _ (by omega)
      have hq3 : 3 * (j : Int) + (l : Int) = p := by omega
      have hr4 : IntKind.i64.wrap (3 * (k : Int)) = 3 * (k : Int) := IntWalk.i64_in _ (by omega)
      have hr5 : IntKind.i64.wrap (3 * (k : Int) + (l : Int)) = 3 * (k : Int) + (l : Int) := IntWalk.i64_in _ (by omega)
      have hr6 : 3 * (k : Int) + (l : Int) = r := by omega
      have HSL : Hid (sameL m cls (j : Int) (k : Int) l = (if m.next[p] = -1 then decide (m.next[r] = -1) else !decide (m.next[r] = -1) && (cls.getD (m.next[p]).toNat 0 == cls.getD (m.next[r]).toNat 0))) := by
        have : sameL m cls (j : Int) (k : Int) l = (if m.next[p] = -1 then decide (m.next[r] = -1) else !decide (m.next[r] = -1) && (cls.getD (m.next[p]).toNat 0 == cls.getD (m.next[r]).toNat 0)) := by
          unfold sameL; rw [hp3, hr3]
        exact Lib.hid this
      clear hp1 hp3 hr1 hr3
      generalize m.next[p] = x at *
      generalize m.next[r] = y at *
      generalize hWW : W0.drewN d = WW at *
      have hst := hSH.out.2.2.2
      have hxN : x < cls.length := by rw [HLL.out]; omega
      have hyN : y < cls.length := by rw [HLL.out]; omega
      by_cases hx : x < 0
      · by_cases hy : y < 0
        · have HN : Hid (sameL m cls (j : Int) (k : Int) l = true) := by
            have : sameL m cls (j : Int) (k : Int) l = true := by rw [HSL.out, if_pos (by omega)]; exact decide_eq_true (by omega)
            exact Lib.hid this
          obtain rfl : x = -1 := by omega
          obtain rfl : y = -1 := by omega
          clear HSL hx hy
          go_wp2
          go_quiet (fail)
          go_wp2
          go_roundw
          case rel => exact ⟨l + 1, _, by omega, by go_num, by rw [sameTo_succ, HS.out, HN.out]; rfl, (HW.out _).choose_spec⟩
          case measure => simp [intOf]; omega
        · have HN : Hid (sameL m cls (j : Int) (k : Int) l = false) := by
            have : sameL m cls (j : Int) (k : Int) l = false := by rw [HSL.out, if_pos (by omega)]; exact decide_eq_false (by omega)
            exact Lib.hid this
          obtain rfl : x = -1 := by omega
          have hy1 : decide (y < 0) = false := decide_eq_false hy
          clear HSL hx
          have HF : Hid (sameC m cls (j : Int) (k : Int) = false) := by
            have : sameC m cls (j : Int) (k : Int) = false := by rw [sameC, sameTo_no HN.out hl3, Bool.false_and]
            exact Lib.hid this
          go_wp2
          go_quiet (fail)
          go_wp2
          go_ret
          exact ⟨ret_bool HF.out.symm, below_drewN HQ.out _⟩
      · have hxg : 0 ≤ x := by omega
        have hsl : x.toNat < cls.length := by omega
        have hcs := HCC2.out x.toNat hsl
        have hx1 : decide (x < 0) = false := decide_eq_false hx
        by_cases hy : y < 0
        · have HN : Hid (sameL m cls (j : Int) (k : Int) l = false) := by
            have : sameL m cls (j : Int) (k : Int) l = false := by rw [HSL.out, if_neg (by omega), decide_eq_true (by omega)]; rfl
            exact Lib.hid this
          obtain rfl : y = -1 := by omega
          clear HSL hy hcs
          have HF : Hid (sameC m cls (j : Int) (k : Int) = false) := by
            have : sameC m cls (j : Int) (k : Int) = false := by rw [sameC, sameTo_no HN.out hl3, Bool.false_and]
            exact Lib.hid this
          go_wp2
          go_quiet (fail)
          go_wp2
          go_ret
          exact ⟨ret_bool HF.out.symm, below_drewN HQ.out _⟩
        · have hyg : 0 ≤ y := by omega
          have hul : y.toNat < cls.length := by omega
          have hcu := HCC2.out y.toNat hul
          have hy1 : decide (y < 0) = false := decide_eq_false hy
          have HE : Hid (sameL m cls (j : Int) (k : Int) l = (cls[x.toNat] == cls[y.toNat])) := by
            have : sameL m cls (j : Int) (k : Int) l = (cls[x.toNat] == cls[y.toNat]) := by
              rw [HSL.out, if_neg (by omega), decide_eq_false (by omega), List.getD_eq_getElem?_getD, List.getElem?_eq_getElem hsl, List.getD_eq_getElem?_getD, List.getElem?_eq_getElem hul]; simp
            exact Lib.hid this
          clear HSL
          generalize cls[x.toNat] = cs at *
          generalize cls[y.toNat] = cu at *
          by_cases hcc : cs = cu
          · have hcb : (cs != cu) = false := by simp [hcc]
            have HN : Hid (sameL m cls (j : Int) (k : Int) l = true) := by
              have : sameL m cls (j : Int) (k : Int) l = true := by rw [HE.out]; simp [hcc]
              exact Lib.hid this
            clear hcc HE
            go_wp2
            go_quiet (fail)
            go_wp2
            go_roundw
            case rel => exact ⟨l + 1, _, by omega, by go_num, by rw [sameTo_succ, HS.out, HN.out]; rfl, (HW.out _).choose_spec⟩
            case measure => simp [intOf]; omega
          · have hcb : (cs != cu) = true := by simpa using hcc
            have HN : Hid (sameL m cls (j : Int) (k : Int) l = false) := by
              have : sameL m cls (j : Int) (k : Int) l = false := by rw [HE.out]; simpa using hcc
              exact Lib.hid this
            clear hcc HE
            have HF : Hid (sameC m cls (j : Int) (k : Int) = false) := by
              have : sameC m cls (j : Int) (k : Int) = false := by rw [sameC, sameTo_no HN.out hl3, Bool.false_and]
              exact Lib.hid this
            go_wp2
            go_quiet (fail)
            go_wp2
            go_ret
            exact ⟨ret_bool HF.out.symm, below_drewN HQ.out _⟩
    · obtain rfl : l = 3 := by omega
      have hjc : j < cls.length := by rw [HLL.out]; exact hj
      have hkc : k < cls.length := by rw [HLL.out]; exact hk
      have hcj := HCC2.out j hjc
      have hck := HCC2.out k hkc
      have HF : Hid (sameC m cls (j : Int) (k : Int) = (cls[j] == cls[k])) := by
        have : sameC m cls (j : Int) (k : Int) = (cls[j] == cls[k]) := by
          rw [sameC, HS.out, Int.toNat_natCast, Int.toNat_natCast, List.getD_eq_getElem?_getD, List.getElem?_eq_getElem hjc, List.getD_eq_getElem?_getD, List.getElem?_eq_getElem hkc]; simp
        exact Lib.hid this
      generalize cls[j] = cj at *
      generalize cls[k] = ck at *
      generalize W0.drewN d = WW at *
      go_wp2
      go_quiet (fail)
      go_wp2
      go_ret
      exact ⟨ret_bool HF.out.symm, below_drewN HQ.out _⟩
end Go.Proofs.Ytlbblfbiiceofaa

namespace Go.Proofs.Ytlbblfbiiceofaa
open Go.RowKit

/-- a list that tells the parts after n rounds -/
def isPart (m : M) (N n : Nat) (cls : List Int) : Prop := cls.length = N ∧ ∀ x y : Nat, x < N → y < N → (cls.getD x 0 = cls.getD y 0 ↔ eqv m n (x : Int) (y : Int) = true)
theorem sameC_eqv {m : M} {N n : Nat} {cls : List Int} (h : isPart m N n cls) (hc : closedM m N) (j k : Nat) (hj : j < N) (hk : k < N) : sameC m cls (j : Int) (k : Int) = eqv m (n + 1) (j : Int) (k : Int) := by
  have key : sameC m cls (j : Int) (k : Int) = true ↔ eqv m (n + 1) (j : Int) (k : Int) = true := by
    rw [eqv_succ, sameC, Bool.and_eq_true, sameTo, List.all_eq_true, beq_iff_eq, Int.toNat_natCast, Int.toNat_natCast, h.2 j k hj hk, and_comm]
    refine and_congr Iff.rfl ⟨fun H l hl => ?_, fun H l hl => ?_⟩
    · have hs := H l (List.mem_range.2 hl)
      unfold sameL at hs
      by_cases a : m.nx (j : Int) (l : Int) = -1
      · rw [if_pos a] at hs
        exact ⟨⟨fun _ => of_decide_eq_true hs, fun _ => a⟩, fun b => absurd a b⟩
      · rw [if_neg a, Bool.and_eq_true] at hs
        have hb : m.nx (k : Int) (l : Int) ≠ -1 := by simpa using hs.1
        refine ⟨⟨fun b => absurd b a, fun b => absurd b hb⟩, fun _ => ?_⟩
        obtain ⟨x, hx, ex⟩ := (hc j l hj hl).resolve_left a
        obtain ⟨y, hy, ey⟩ := (hc k l hk hl).resolve_left hb
        have h2 := hs.2
        rw [ex, ey] at h2 ⊢
        rw [Int.toNat_natCast, Int.toNat_natCast, beq_iff_eq] at h2
        exact (h.2 x y hx hy).1 h2
    · have hl := List.mem_range.1 hl
      have hs := H l hl
      unfold sameL
      by_cases a : m.nx (j : Int) (l : Int) = -1
      · rw [if_pos a]
        exact decide_eq_true (hs.1.1 a)
      · have hb : m.nx (k : Int) (l : Int) ≠ -1 := fun b => a (hs.1.2 b)
        rw [if_neg a, Bool.and_eq_true]
        refine ⟨by simpa using hb, ?_⟩
        have h2 := hs.2 a
        obtain ⟨x, hx, ex⟩ := (hc j l hj hl).resolve_left a
        obtain ⟨y, hy, ey⟩ := (hc k l hk hl).resolve_left hb
        rw [ex, ey] at h2 ⊢
        rw [Int.toNat_natCast, Int.toNat_natCast, beq_iff_eq]
        exact (h.2 x y hx hy).2 h2
  cases h1 : sameC m cls (j : Int) (k : Int) with
  | true => exact (key.1 h1).symm
  | false =>
    cases h2 : eqv m (n + 1) (j : Int) (k : Int) with
    | false => rfl
    | true => rw [key.2 h2] at h1; exact absurd h1 (by simp)

/-- the first ones, as the list that the model makes -/
def repL (R : Int → Int → Bool) (N : Nat) : List Int := (List.range N).map (fun (k : Nat) => (rep R k : Int))
theorem repL_length (R : Int → Int → Bool) (N : Nat) : (repL R N).length = N := by simp [repL]
theorem repL_get (R : Int → Int → Bool) (N k : Nat) (h : k < N) : (repL R N).getD k 0 = (rep R k : Int) := by simp [repL, List.getD, h]
theorem repL_succ (R : Int → Int → Bool) (N : Nat) : repL R (N + 1) = repL R N ++ [(rep R N : Int)] := by simp [repL, List.range_succ]
theorem repL_part (m : M) (N n : Nat) : isPart m N n (repL (eqv m n) N) := by
  refine ⟨repL_length _ _, fun x y hx hy => ?_⟩
  rw [repL_get _ _ _ hx, repL_get _ _ _ hy, ← rep_eq (eqv m n) (eqv_refl m n) (eqv_symm m n) (eqv_trans m n)]
  omega
/-- the list of a round again: still -/
theorem still_of_repL {m : M} {N n : Nat} {cls : List Int} (h : isPart m N n cls) (he : cls = repL (eqv m (n + 1)) N) : still m N n := by
  intro x y hx hy hR
  have h1 := (h.2 x y hx hy).2 hR
  rw [he] at h1
  exact ((repL_part m N (n + 1)).2 x y hx hy).1 h1
theorem rep_hit {R : Int → Int → Bool} (hr : ∀ x, R x x = true) {j k : Nat} (h : R (j : Int) (k : Int) = true) (hb : ∀ i : Nat, i < j → R (i : Int) (k : Int) = false) : rep R k = j := by
  rcases Nat.lt_trichotomy (rep R k) j with a | a | a
  · have h1 := hb _ a
    rw [rep_is R hr k] at h1; exact absurd h1 (by simp)
  · exact a
  · have h1 := rep_before R k j a
    rw [h] at h1; exact absurd h1 (by simp)
theorem rep_none {R : Int → Int → Bool} (hr : ∀ x, R x x = true) {k : Nat} (hb : ∀ i : Nat, i < k → R (i : Int) (k : Int) = false) : rep R k = k := rep_hit hr (hr _) hb
/-- what the model's inner round takes over is the first one itself -/
theorem rep_of_hit {R : Int → Int → Bool} (hr : ∀ x, R x x = true) (hs : ∀ x y, R x y = true → R y x = true) (ht : ∀ x y z, R x y = true → R y z = true → R x z = true) {j k : Nat} (h : R (j : Int) (k : Int) = true) : rep R j = rep R k := (rep_eq R hr hs ht j k).2 h
/-- the list that the model begins with -/
def iniL (m : M) (k : Nat) : List Int := (List.range k).map (fun (i : Nat) => if m.endAt (i : Int) = true then 1 else 0)
theorem iniL_length (m : M) (k : Nat) : (iniL m k).length = k := by simp [iniL]
theorem iniL_succ (m : M) (k : Nat) : iniL m (k + 1) = iniL m k ++ [if m.endAt (k : Int) = true then 1 else 0] := by simp [iniL, List.range_succ]
theorem iniL_get (m : M) (N k : Nat) (h : k < N) : (iniL m N).getD k 0 = if m.endAt (k : Int) = true then 1 else 0 := by simp [iniL, List.getD, h]
theorem iniL_part (m : M) (N : Nat) : isPart m N 0 (iniL m N) := by
  refine ⟨iniL_length _ _, fun x y hx hy => ?_⟩
  rw [iniL_get _ _ _ hx, iniL_get _ _ _ hy, eqv_zero]
  cases m.endAt (x : Int) <;> cases m.endAt (y : Int) <;> simp
theorem good_closed {m : M} (h : m.good) : closedM m m.ends.length := by
  intro x l hx hl
  have hs := M.good_shape h
  obtain ⟨k, _, hk, he⟩ := M.gnx_at h (x : Int) (l : Int) (by omega) (by omega) (by omega) (by omega)
  have hb := h.nxt k hk
  rw [he]
  by_cases h0 : m.next[k] = -1
  · exact .inl h0
  · exact .inr ⟨(m.next[k]).toNat, by omega, by omega⟩
end Go.Proofs.Ytlbblfbiiceofaa

namespace Go.Proofs.Ytlbblfbiiceofaa
section
variable {α : Type} [DecidableEq α]
/-- the number of what a letter leads to -/
def enc (q : List α) : Option α → Int
  | none => -1
  | some b => (q.idxOf b : Int)
theorem enc_pre {q q' : List α} (h : q <+: q') {o : Option α} (ho : ∀ b, o = some b → b ∈ q) : enc q' o = enc q o := by
  cases o with
  | none => rfl
  | some b =>
    obtain ⟨t, rfl⟩ := h
    show ((q ++ t).idxOf b : Int) = (q.idxOf b : Int)
    rw [List.idxOf_append, if_pos (ho b rfl)]
theorem bfs1_tab (p : List α × List Int) (t : Option α) : (bfs1 p t).2 = p.2 ++ [enc (bfs1 p t).1 t] ∧ ∀ b, t = some b → b ∈ (bfs1 p t).1 := by
  cases t with
  | none => exact ⟨rfl, fun b e => by cases e⟩
  | some b =>
    by_cases h : b ∈ p.1
    · rw [bfs1_old h]
      exact ⟨rfl, fun c e => by cases e; exact h⟩
    · rw [bfs1_new h]
      refine ⟨?_, fun c e => by cases e; simp⟩
      show p.2 ++ [(p.1.length : Int)] = p.2 ++ [((p.1 ++ [b]).idxOf b : Int)]
      rw [List.idxOf_append, if_neg h]
      simp
theorem bfsL_tab (on : α → Nat → Option α) (x : α) (p : List α × List Int) (l : Nat) :
    (bfsL on x p l).2 = p.2 ++ (List.range l).map (fun i => enc (bfsL on x p l).1 (on x i)) ∧ ∀ i, i < l → ∀ b, on x i = some b → b ∈ (bfsL on x p l).1 := by
  induction l with
  | zero => exact ⟨by simp [bfsL], fun i h => absurd h (Nat.not_lt_zero _)⟩
  | succ l ih =>
    obtain ⟨h1, h2⟩ := ih
    obtain ⟨g1, g2⟩ := bfs1_tab (bfsL on x p l) (on x l)
    have hp := bfs1_prefix (bfsL on x p l) (on x l)
    refine ⟨?_, fun i hi b hb => ?_⟩
    · rw [bfsL, g1, h1, List.range_succ, List.map_append, List.append_assoc]
      congr 1
      congr 1
      refine List.map_congr_left fun i hi => ?_
      exact (enc_pre hp (h2 i (List.mem_range.1 hi))).symm
    · rw [bfsL]
      rcases Nat.lt_succ_iff_lt_or_eq.1 hi with hi | rfl
      · exact hp.subset (h2 i hi b hb)
      · exact g2 b hb
theorem bfsTo_tab (on : α → Nat → Option α) (s0 : α) (n : Nat) (h : n ≤ (bfsTo on s0 n).1.length) :
    ∀ i l x, i < n → l < 3 → (bfsTo on s0 n).1[i]? = some x → (bfsTo on s0 n).2[3 * i + l]? = some (enc (bfsTo on s0 n).1 (on x l)) ∧ ∀ b, on x l = some b → b ∈ (bfsTo on s0 n).1 := by
  induction n with
  | zero => intro i l x hi; exact absurd hi (Nat.not_lt_zero _)
  | succ n ih =>
    intro i l x hi hl hx
    by_cases hn : n < (bfsTo on s0 n).1.length
    · have ih := ih (by omega)
      have hlen := bfsTo_len (on := on) (s0 := s0) n (by omega)
      have hpre := bfsTo_prefix on s0 n
      rw [bfsTo_step hn] at hx hpre ⊢
      obtain ⟨h1, h2⟩ := bfsL_tab on (bfsTo on s0 n).1[n] (bfsTo on s0 n) 3
      generalize hQ : bfsL on (bfsTo on s0 n).1[n] (bfsTo on s0 n) 3 = Q at *
      rcases Nat.lt_succ_iff_lt_or_eq.1 hi with hin | rfl
      · have hx' : (bfsTo on s0 n).1[i]? = some x := by
          obtain ⟨t, ht⟩ := hpre
          rw [← ht, List.getElem?_append_left (by omega)] at hx
          exact hx
        obtain ⟨a1, a2⟩ := ih i l x hin hl hx'
        refine ⟨?_, fun b hb => hpre.subset (a2 b hb)⟩
        rw [h1, List.getElem?_append_left (by omega), a1, enc_pre hpre a2]
      · have hx' : (bfsTo on s0 i).1[i] = x := by
          obtain ⟨t, ht⟩ := hpre
          rw [← ht, List.getElem?_append_left hn, List.getElem?_eq_getElem hn] at hx
          exact Option.some.inj hx
        rw [hx'] at h1 h2
        refine ⟨?_, fun b hb => h2 l hl b hb⟩
        rw [h1, List.getElem?_append_right (by omega), hlen, show 3 * i + l - 3 * i = l from by omega, List.getElem?_map, List.getElem?_range hl]
        rfl
    · have e := bfsTo_stop (on := on) (s0 := s0) (n := n) (by omega)
      rw [e] at h
      omega
end
end Go.Proofs.Ytlbblfbiiceofaa

namespace Go.Proofs.Ytlbblfbiiceofaa

/-- what a state takes -/
def M.lang (m : M) (s : Int) (u : List (Fin 3)) : Bool := m.endAt (m.walk s (u.map (fun l => l.val)))
theorem M.lang_cons (m : M) (s : Int) (l : Fin 3) (u : List (Fin 3)) : m.lang s (l :: u) = m.lang (m.nx s (l.val : Int)) u := rfl
theorem M.lang_nil (m : M) (s : Int) : m.lang s [] = m.endAt s := rfl
theorem M.lang_neg (m : M) (u : List (Fin 3)) : m.lang (-1) u = false := by rw [M.lang, M.walk_neg]; simp [M.endAt]
theorem fin_list : ∀ ls : List Nat, (∀ l ∈ ls, l < 3) → ∃ u : List (Fin 3), u.map (fun l => l.val) = ls
  | [], _ => ⟨[], rfl⟩
  | l :: ls, h => by
    obtain ⟨u, hu⟩ := fin_list ls (fun x hx => h x (List.mem_cons_of_mem _ hx))
    exact ⟨⟨l, h l List.mem_cons_self⟩ :: u, by rw [List.map_cons, hu]⟩
theorem M.live_iff (m : M) (s : Int) : m.Live s ↔ ∃ u, m.lang s u = true := by
  constructor
  · rintro ⟨ls, h1, h2⟩
    obtain ⟨u, hu⟩ := fin_list ls h1
    exact ⟨u, by rw [M.lang, hu]; exact h2⟩
  · rintro ⟨u, hu⟩
    have hu : m.endAt (m.walk s (u.map (fun l => l.val))) = true := hu
    exact ⟨u.map (fun l => l.val), fun l hl => by obtain ⟨x, _, rfl⟩ := List.mem_map.1 hl; exact x.isLt, hu⟩

/-- a search over states that take different languages -/
structure Srch (P : Int → Prop) (on : Int → Nat → Option Int) (s : Int) (F : Int → List (Fin 3) → Bool) : Prop where
  p0 : P s
  ps : ∀ x, P x → ∀ l b, l < 3 → on x l = some b → P b
  inj : ∀ a b, P a → P b → F a = F b → a = b
  go : ∀ x, P x → ∀ (l : Fin 3) b, on x l.val = some b → ∀ u, F b u = F x (l :: u)
  no : ∀ x, P x → ∀ l : Fin 3, on x l.val = none → ∀ u, F x (l :: u) = false
  live : ∀ x, P x → ∀ l b, l < 3 → on x l = some b → ∃ u, F b u = true

/-- two searches for one language find the same -/
theorem Srch.same {P Q : Int → Prop} {on on' : Int → Nat → Option Int} {s t : Int} {F G : Int → List (Fin 3) → Bool} (A : Srch P on s F) (B : Srch Q on' t G) (h : F s = G t) (n : Nat) :
    (bfsTo on' t n).2 = (bfsTo on s n).2 ∧ (bfsTo on' t n).1.map (fun x => G x []) = (bfsTo on s n).1.map (fun x => F x []) ∧ (bfsTo on' t n).1.length = (bfsTo on s n).1.length := by
  classical
  have hf : ∃ f : Int → Int, ∀ a, (∃ b, Q b ∧ G b = F a) → Q (f a) ∧ G (f a) = F a :=
    ⟨fun a => if h : ∃ b, Q b ∧ G b = F a then h.choose else 0, fun a h => by simp only [dif_pos h]; exact h.choose_spec⟩
  obtain ⟨f, hf⟩ := hf
  have hf0 := hf s ⟨t, B.p0, h.symm⟩
  have hft : f s = t := B.inj _ _ hf0.1 B.p0 (hf0.2.trans h)
  have e := bfsTo_map (f := f) (P := fun a => P a ∧ ∃ b, Q b ∧ G b = F a) (on := on) (on' := on') (s0 := s) ⟨A.p0, t, B.p0, h.symm⟩
    (by
      rintro x ⟨hx, y, hy, hxy⟩ l b hl hb
      refine ⟨A.ps x hx l b hl hb, ?_⟩
      cases hc : on' y l with
      | none =>
        obtain ⟨u, hu⟩ := A.live x hx l b hl hb
        have h1 := B.no y hy ⟨l, hl⟩ hc u
        rw [hxy, ← A.go x hx ⟨l, hl⟩ b hb u, hu] at h1
        cases h1
      | some c =>
        refine ⟨c, B.ps y hy l c hl hc, funext fun u => ?_⟩
        rw [B.go y hy ⟨l, hl⟩ c hc u, A.go x hx ⟨l, hl⟩ b hb u, hxy])
    (by
      rintro a b ⟨ha, ha'⟩ ⟨hb, hb'⟩ hab
      refine A.inj a b ha hb ?_
      rw [← (hf a ha').2, ← (hf b hb').2, hab])
    (by
      rintro x ⟨hx, hx'⟩ l hl
      obtain ⟨hq, hg⟩ := hf x hx'
      cases hb : on x l with
      | none =>
        cases hc : on' (f x) l with
        | none => rfl
        | some c =>
          obtain ⟨u, hu⟩ := B.live _ hq l c hl hc
          have h1 := A.no x hx ⟨l, hl⟩ hb u
          rw [← hg, ← B.go _ hq ⟨l, hl⟩ c hc u, hu] at h1
          cases h1
      | some b =>
        cases hc : on' (f x) l with
        | none =>
          obtain ⟨u, hu⟩ := A.live x hx l b hl hb
          have h1 := B.no _ hq ⟨l, hl⟩ hc u
          rw [hg, ← A.go x hx ⟨l, hl⟩ b hb u, hu] at h1
          cases h1
        | some c =>
          have hGc : G c = F b := funext fun u => by rw [B.go _ hq ⟨l, hl⟩ c hc u, A.go x hx ⟨l, hl⟩ b hb u, hg]
          have hfb := hf b ⟨c, B.ps _ hq l c hl hc, hGc⟩
          show some c = some (f b)
          rw [B.inj c (f b) (B.ps _ hq l c hl hc) hfb.1 (hGc.trans hfb.2.symm)]) n
  rw [hft] at e
  have hP : ∀ a ∈ (bfsTo on s n).1, ∃ b, Q b ∧ G b = F a := by
    have := bfsTo_all (P := fun a => P a ∧ ∃ b, Q b ∧ G b = F a) (on := on) (s0 := s) ⟨A.p0, t, B.p0, h.symm⟩
      (by
        rintro x ⟨hx, y, hy, hxy⟩ l b hl hb
        refine ⟨A.ps x hx l b hl hb, ?_⟩
        cases hc : on' y l with
        | none =>
          obtain ⟨u, hu⟩ := A.live x hx l b hl hb
          have h1 := B.no y hy ⟨l, hl⟩ hc u
          rw [hxy, ← A.go x hx ⟨l, hl⟩ b hb u, hu] at h1
          cases h1
        | some c =>
          refine ⟨c, B.ps y hy l c hl hc, funext fun u => ?_⟩
          rw [B.go y hy ⟨l, hl⟩ c hc u, A.go x hx ⟨l, hl⟩ b hb u, hxy]) n
    exact fun a ha => (this a ha).2
  rw [e]
  refine ⟨rfl, ?_, by simp⟩
  rw [List.map_map]
  exact List.map_congr_left fun a ha => by show G (f a) [] = F a []; rw [(hf a (hP a ha)).2]

/-- the machine that a search makes -/
def bM (on : Int → Nat → Option Int) (s : Int) (N : Nat) (ends : Int → Bool) : M := ⟨(N : Int), (bfsTo on s N).2, (bfsTo on s N).1.map ends⟩
section
variable {on : Int → Nat → Option Int} {s : Int} {N : Nat} {ends : Int → Bool}
theorem bM_nx (hN : (bfsTo on s N).1.length = N) {i l : Nat} {x : Int} (hi : i < N) (hl : l < 3) (hx : (bfsTo on s N).1[i]? = some x) :
    (bM on s N ends).nx (i : Int) (l : Int) = enc (bfsTo on s N).1 (on x l) ∧ ∀ b, on x l = some b → b ∈ (bfsTo on s N).1 := by
  obtain ⟨h1, h2⟩ := bfsTo_tab on s N (by omega) i l x hi hl hx
  refine ⟨?_, h2⟩
  have e : (3 * (i : Int) + (l : Int)).toNat = 3 * i + l := by omega
  rw [M.nx, if_neg (by omega), e, List.getD_eq_getElem?_getD]
  show ((bfsTo on s N).2[3 * i + l]?).getD (-1) = _
  rw [h1]; rfl
theorem bM_end {i : Nat} {x : Int} (hx : (bfsTo on s N).1[i]? = some x) : (bM on s N ends).endAt (i : Int) = ends x := by
  rw [M.endAt, if_neg (by omega), Int.toNat_natCast, List.getD_eq_getElem?_getD]
  show (((bfsTo on s N).1.map ends)[i]?).getD false = _
  rw [List.getElem?_map, hx]; rfl
theorem bM_at (hN : (bfsTo on s N).1.length = N) {i : Nat} (hi : i < N) : ∃ x, (bfsTo on s N).1[i]? = some x ∧ x ∈ (bfsTo on s N).1 := by
  have h : i < (bfsTo on s N).1.length := by omega
  exact ⟨_, List.getElem?_eq_getElem h, List.getElem_mem h⟩
theorem bM_first : (bfsTo on s N).1[0]? = some s := by
  obtain ⟨t, ht⟩ := bfsTo_prefix' on s (Nat.zero_le N)
  rw [← ht]; rfl
theorem bM_idx {b : Int} (h : b ∈ (bfsTo on s N).1) : (bfsTo on s N).1[(bfsTo on s N).1.idxOf b]? = some b := by
  obtain ⟨h1, h2⟩ := idxOf_at h
  rw [List.getElem?_eq_getElem h1, h2]
theorem bM_lang {P : Int → Prop} {F : Int → List (Fin 3) → Bool} (hN : (bfsTo on s N).1.length = N) (hall : ∀ x ∈ (bfsTo on s N).1, P x) (h0 : ∀ x, P x → F x [] = ends x)
    (hgo : ∀ x, P x → ∀ (l : Fin 3) b, on x l.val = some b → ∀ u, F b u = F x (l :: u)) (hno : ∀ x, P x → ∀ l : Fin 3, on x l.val = none → ∀ u, F x (l :: u) = false) (u : List (Fin 3)) :
    ∀ (i : Nat) (x : Int), (bfsTo on s N).1[i]? = some x → (bM on s N ends).lang (i : Int) u = F x u := by
  induction u with
  | nil =>
    intro i x hx
    rw [M.lang_nil, bM_end hx, h0 x (hall x (List.mem_of_getElem? hx))]
  | cons l u ih =>
    intro i x hx
    have hi : i < N := by have := (List.getElem?_eq_some_iff.1 hx).1; omega
    have hPx := hall x (List.mem_of_getElem? hx)
    obtain ⟨h1, h2⟩ := bM_nx (ends := ends) hN hi l.isLt hx
    rw [M.lang_cons, h1]
    cases hc : on x l.val with
    | none => rw [hno x hPx l hc u]; exact M.lang_neg _ u
    | some b => rw [← hgo x hPx l b hc u]; exact ih _ b (bM_idx (h2 b hc))
theorem bM_good (hN : (bfsTo on s N).1.length = N) (h4 : N ≤ 4000) : (bM on s N ends).good := by
  have h1 := bfsTo_pos on s N
  have h2 := bfsTo_len (on := on) (s0 := s) N (by omega)
  refine ⟨?_, ?_, ?_, ?_, fun k hk => ?_⟩
  · show (1 : Int) ≤ (N : Int); omega
  · show (N : Int) ≤ 4000; omega
  · show ((bfsTo on s N).2.length : Int) = 3 * (N : Int); omega
  · show (((bfsTo on s N).1.map ends).length : Int) = (N : Int); rw [List.length_map]; omega
  · have h := bfsTo_num on s N _ (List.getElem_mem hk)
    show _ ∧ _ ≤ (N : Int) - 1
    have e : (bM on s N ends).next = (bfsTo on s N).2 := rfl
    constructor
    · exact h.1
    · have := h.2; rw [hN] at this; exact Int.le_sub_one_of_lt this
end

/-- a machine is the least one of a language -/
def IsLm (f : List (Fin 3) → Bool) (k : M) : Prop :=
  ∃ (P : Int → Prop) (on : Int → Nat → Option Int) (s : Int) (F : Int → List (Fin 3) → Bool) (N : Nat), Srch P on s F ∧ F s = f ∧ (bfsTo on s N).1.length = N ∧ k = bM on s N (fun x => F x [])
theorem IsLm.one {f : List (Fin 3) → Bool} {k k' : M} (h : IsLm f k) (h' : IsLm f k') : k = k' := by
  obtain ⟨P, on, s, F, N, A, hs, hN, rfl⟩ := h
  obtain ⟨Q, on', t, G, N', B, ht, hN', rfl⟩ := h'
  have hst : F s = G t := hs.trans ht.symm
  obtain ⟨h1, h2, h3⟩ := A.same B hst N
  have e : N' = N := bfsTo_one hN' (h3.trans hN)
  subst e
  rw [bM, bM, h1, h2]
theorem Srch.all {P : Int → Prop} {on : Int → Nat → Option Int} {s : Int} {F : Int → List (Fin 3) → Bool} (A : Srch P on s F) (n : Nat) : ∀ x ∈ (bfsTo on s n).1, P x := bfsTo_all A.p0 (fun x hx l b hl h => A.ps x hx l b hl h) n
theorem IsLm.lang {f : List (Fin 3) → Bool} {k : M} (h : IsLm f k) : k.lang 0 = f := by
  obtain ⟨P, on, s, F, N, A, rfl, hN, rfl⟩ := h
  exact funext fun u => bM_lang hN (A.all N) (fun _ _ => rfl) A.go A.no u 0 s bM_first
theorem IsLm.good {f : List (Fin 3) → Bool} {k : M} (h : IsLm f k) (h4 : k.st ≤ 4000) : k.good := by
  obtain ⟨P, on, s, F, N, A, rfl, hN, rfl⟩ := h
  exact bM_good hN (by have : (N : Int) ≤ 4000 := h4; omega)
/-- two states of a least machine take different languages -/
theorem IsLm.differ {f : List (Fin 3) → Bool} {k : M} (h : IsLm f k) {i j : Nat} (hi : (i : Int) < k.st) (hj : (j : Int) < k.st) (e : k.lang (i : Int) = k.lang (j : Int)) : i = j := by
  obtain ⟨P, on, s, F, N, A, rfl, hN, rfl⟩ := h
  have hi : i < N := by have : (i : Int) < (N : Int) := hi; omega
  have hj : j < N := by have : (j : Int) < (N : Int) := hj; omega
  obtain ⟨x, hx, hxm⟩ := bM_at hN hi
  obtain ⟨y, hy, hym⟩ := bM_at hN hj
  have hxy : F x = F y := funext fun u => by
    rw [← bM_lang hN (A.all N) (fun _ _ => rfl) A.go A.no u i x hx, ← bM_lang hN (A.all N) (fun _ _ => rfl) A.go A.no u j y hy, e]
  have := A.inj x y (A.all N x hxm) (A.all N y hym) hxy
  subst this
  obtain ⟨h1, h2⟩ := List.getElem?_eq_some_iff.1 hx
  obtain ⟨h3, h4⟩ := List.getElem?_eq_some_iff.1 hy
  have hnd := bfsTo_nodup on s N
  rw [← idxOf_nodup hnd h1, ← idxOf_nodup hnd h3, h2, h4]
theorem IsLm.trim {f : List (Fin 3) → Bool} {k : M} (h : IsLm f k) {i l : Nat} (hi : (i : Int) < k.st) (hl : l < 3) (hn : k.nx (i : Int) (l : Int) ≠ -1) : k.Live (k.nx (i : Int) (l : Int)) := by
  obtain ⟨P, on, s, F, N, A, rfl, hN, rfl⟩ := h
  have hi : i < N := by have : (i : Int) < (N : Int) := hi; omega
  obtain ⟨x, hx, hxm⟩ := bM_at hN hi
  obtain ⟨h1, h2⟩ := bM_nx (ends := fun x => F x []) hN hi hl hx
  rw [h1] at hn ⊢
  cases hc : on x l with
  | none => rw [hc] at hn; exact absurd rfl hn
  | some b =>
    obtain ⟨u, hu⟩ := A.live x (A.all N x hxm) l b hl hc
    refine (M.live_iff _ _).2 ⟨u, ?_⟩
    show (bM on s N fun x => F x []).lang ((bfsTo on s N).1.idxOf b : Int) u = true
    rw [bM_lang hN (A.all N) (fun _ _ => rfl) A.go A.no u _ b (bM_idx (h2 b hc)), hu]

/-- no state of a machine leads to one that takes nothing -/
def trimOk (t : M) (N : Nat) : Prop := ∀ x l : Nat, x < N → l < 3 → t.nx (x : Int) (l : Int) ≠ -1 → t.Live (t.nx (x : Int) (l : Int))
theorem eqv_words (t : M) (u : List (Fin 3)) : ∀ (k : Nat) (x y : Int), u.length ≤ k → eqv t k x y = true → t.lang x u = t.lang y u := by
  induction u with
  | nil => exact fun k x y _ h => (eqv_zero t x y).1 (eqv_down' t (Nat.zero_le k) x y h)
  | cons l u ih =>
    intro k x y hk h
    obtain ⟨k, rfl⟩ : ∃ j, k = j + 1 := ⟨k - 1, by simp at hk; omega⟩
    have h2 := ((eqv_succ t k x y).1 h).2 l.val l.isLt
    rw [M.lang_cons, M.lang_cons]
    by_cases e : t.nx x (l.val : Int) = -1
    · rw [e, h2.1.1 e]
    · exact ih k _ _ (by simp at hk; omega) (h2.2 e)
theorem eqv_lang {t : M} {N n : Nat} (hc : closedM t N) (ht : trimOk t N) (hs : still t N n) {x y : Nat} (hx : x < N) (hy : y < N) : eqv t n (x : Int) (y : Int) = true ↔ t.lang (x : Int) = t.lang (y : Int) := by
  constructor
  · intro h
    exact funext fun u => eqv_words t u (n + u.length) _ _ (by omega) (still_up hc hs u.length x y hx hy h)
  · intro h
    have key : ∀ k, ∀ x y : Nat, x < N → y < N → t.lang (x : Int) = t.lang (y : Int) → eqv t k (x : Int) (y : Int) = true := by
      intro k
      induction k with
      | zero => exact fun x y _ _ h => (eqv_zero t _ _).2 (congrFun h [])
      | succ k ih =>
        intro x y hx hy h
        have side : ∀ a b : Nat, a < N → b < N → t.lang (a : Int) = t.lang (b : Int) → ∀ l : Nat, l < 3 → t.nx (a : Int) (l : Int) = -1 → t.nx (b : Int) (l : Int) = -1 := by
          intro a b ha hb hab l hl e
          by_cases e2 : t.nx (b : Int) (l : Int) = -1
          · exact e2
          · obtain ⟨u, hu⟩ := (M.live_iff _ _).1 (ht b l hb hl e2)
            have h1 : t.lang (b : Int) (⟨l, hl⟩ :: u) = true := hu
            rw [← hab] at h1
            have h2 : t.lang (t.nx (a : Int) (l : Int)) u = true := h1
            rw [e, M.lang_neg] at h2
            cases h2
        refine (eqv_succ t k _ _).2 ⟨ih x y hx hy h, fun l hl => ⟨⟨side x y hx hy h l hl, side y x hy hx h.symm l hl⟩, fun e => ?_⟩⟩
        have e2 : t.nx (y : Int) (l : Int) ≠ -1 := fun e3 => e (side y x hy hx h.symm l hl e3)
        obtain ⟨a, ha, hae⟩ := (hc x l hx hl).resolve_left e
        obtain ⟨b, hb, hbe⟩ := (hc y l hy hl).resolve_left e2
        have hab : t.lang (a : Int) = t.lang (b : Int) := funext fun u => by
          have := congrFun h (⟨l, hl⟩ :: u)
          rw [M.lang_cons, M.lang_cons] at this
          rw [← hae, ← hbe]; exact this
        rw [hae, hbe]
        exact ih a b ha hb hab
    exact key n x y hx hy h

/-- the parts of a machine that is trimmed are a search -/
theorem srch_parts {t : M} {N n : Nat} (hc : closedM t N) (ht : trimOk t N) (hs : still t N n) (h0 : 0 < N) (cl : Nat → Int) (hcl : ∀ x y : Nat, x < N → y < N → (cl x = cl y ↔ eqv t n (x : Int) (y : Int) = true))
    (rp : Int → Nat) (hrp : ∀ x, x < N → rp (cl x) < N ∧ cl (rp (cl x)) = cl x) (on : Int → Nat → Option Int)
    (hon : ∀ x, x < N → ∀ l, l < 3 → on (cl x) l = if t.nx (rp (cl x) : Int) (l : Int) = -1 then none else some (cl (t.nx (rp (cl x) : Int) (l : Int)).toNat)) :
    Srch (fun c => ∃ x, x < N ∧ cl x = c) on (cl 0) (fun c => t.lang (rp c : Int)) ∧ t.lang (rp (cl 0) : Int) = t.lang 0 := by
  have L : ∀ x, x < N → t.lang (rp (cl x) : Int) = t.lang (x : Int) := fun x hx => (eqv_lang hc ht hs (hrp x hx).1 hx).1 ((hcl _ _ (hrp x hx).1 hx).1 (hrp x hx).2)
  have step : ∀ x, x < N → ∀ l, l < 3 → ∀ b, on (cl x) l = some b → ∃ y : Nat, y < N ∧ t.nx (rp (cl x) : Int) (l : Int) = (y : Int) ∧ b = cl y := by
    intro x hx l hl b hb
    rw [hon x hx l hl] at hb
    split at hb
    · cases hb
    · rename_i hne
      obtain ⟨y, hy, e⟩ := (hc _ l (hrp x hx).1 hl).resolve_left hne
      rw [e, Int.toNat_natCast] at hb
      exact ⟨y, hy, e, (Option.some.inj hb).symm⟩
  refine ⟨⟨⟨0, h0, rfl⟩, ?_, ?_, ?_, ?_, ?_⟩, L 0 h0⟩
  · rintro _ ⟨x, hx, rfl⟩ l b hl hb
    obtain ⟨y, hy, _, rfl⟩ := step x hx l hl b hb
    exact ⟨y, hy, rfl⟩
  · rintro _ _ ⟨x, hx, rfl⟩ ⟨y, hy, rfl⟩ h
    rw [L x hx, L y hy] at h
    exact (hcl x y hx hy).2 ((eqv_lang hc ht hs hx hy).2 h)
  · rintro _ ⟨x, hx, rfl⟩ l b hb u
    obtain ⟨y, hy, e, rfl⟩ := step x hx l.val l.isLt b hb
    rw [L y hy, M.lang_cons, e]
  · rintro _ ⟨x, hx, rfl⟩ l hb u
    rw [hon x hx l.val l.isLt] at hb
    split at hb
    · rename_i e
      rw [M.lang_cons, e, M.lang_neg]
    · cases hb
  · rintro _ ⟨x, hx, rfl⟩ l b hl hb
    obtain ⟨y, hy, e, rfl⟩ := step x hx l hl b hb
    rw [L y hy, ← e]
    exact (M.live_iff _ _).1 (ht _ l (hrp x hx).1 hl (by rw [e]; omega))
end Go.Proofs.Ytlbblfbiiceofaa

namespace Go.Proofs.Ytlbblfbiiceofaa

theorem trimOn_some {m : M} {X : List Bool} {x : Int} {l : Nat} {b : Int} (h : trimOn m X x l = some b) : b = m.nx x (l : Int) ∧ 0 ≤ b ∧ X.getD b.toNat false = true := by
  unfold trimOn at h
  split at h
  · rename_i hc; cases h; exact ⟨rfl, hc.1, hc.2⟩
  · cases h
theorem tm_eq (m : M) : tm m = bM (trimOn m (lrounds m m.ends.length)) 0 (trimN m (lrounds m m.ends.length)) m.endAt := rfl
theorem tm_good {m : M} (hg : m.good) : (tm m).good := by
  rw [tm_eq]
  refine bM_good (trimN_is hg _) ?_
  have h1 := trimN_le hg (lrounds m m.ends.length)
  have h2 := hg.st1
  omega
theorem tm_none {m : M} (hg : m.good) {x : Int} (hx : inM m x) {l : Nat} (hl : l < 3) (h : trimOn m (lrounds m m.ends.length) x l = none) (u : List (Fin 3)) : m.lang (m.nx x (l : Int)) u = false := by
  have hL := lrounds_live hg
  have hb := M.gnx_bd hg x (l : Int) hx.2 (by omega) (by omega)
  have hs := M.good_shape hg
  cases hu : m.lang (m.nx x (l : Int)) u with
  | false => rfl
  | true =>
    unfold trimOn at h
    split at h
    · cases h
    · rename_i hc
      exfalso
      by_cases hn : m.nx x (l : Int) = -1
      · rw [hn, M.lang_neg] at hu; cases hu
      · refine hc ⟨by omega, ?_⟩
        have hk : (m.nx x (l : Int)).toNat < (lrounds m m.ends.length).length := by rw [hL.1]; omega
        rw [List.getD_eq_getElem?_getD, List.getElem?_eq_getElem hk]
        have : m.Live (((m.nx x (l : Int)).toNat : Nat) : Int) := by
          rw [show (((m.nx x (l : Int)).toNat : Nat) : Int) = m.nx x (l : Int) by omega]
          exact (M.live_iff _ _).2 ⟨u, hu⟩
        exact (hL.2 _ hk).2 this
theorem tm_lang_at {m : M} (hg : m.good) {i : Nat} {x : Int} (hx : (bfsTo (trimOn m (lrounds m m.ends.length)) 0 (trimN m (lrounds m m.ends.length))).1[i]? = some x) (u : List (Fin 3)) : (tm m).lang (i : Int) u = m.lang x u := by
  rw [tm_eq]
  refine bM_lang (P := inM m) (F := fun x u => m.lang x u) (trimN_is hg _) (bfsTo_all (inM_zero hg) (fun x hx l b hl h => trimOn_in hg _ x hx l b hl h) _) (fun x _ => rfl) ?_ ?_ u i x hx
  · intro y hy l b hb v
    obtain ⟨e, -, -⟩ := trimOn_some hb
    rw [M.lang_cons, e]
  · intro y hy l hb v
    rw [M.lang_cons]
    exact tm_none hg hy l.isLt hb v
theorem tm_lang {m : M} (hg : m.good) : (tm m).lang 0 = m.lang 0 := funext fun u => tm_lang_at hg (i := 0) bM_first u
theorem tm_len {m : M} (hg : m.good) : (tm m).ends.length = trimN m (lrounds m m.ends.length) := by
  show ((bfsTo _ 0 _).1.map m.endAt).length = _
  rw [List.length_map, trimN_is hg]
theorem tm_trim {m : M} (hg : m.good) : trimOk (tm m) (tm m).ends.length := by
  intro i l hi hl hn
  rw [tm_len hg] at hi
  obtain ⟨x, hx, hxm⟩ := bM_at (trimN_is hg _) hi
  have hin := bfsTo_all (inM_zero hg) (fun x hx l b hl h => trimOn_in hg (lrounds m m.ends.length) x hx l b hl h) _ x hxm
  obtain ⟨h1, h2⟩ := bM_nx (ends := m.endAt) (trimN_is hg _) hi hl hx
  rw [← tm_eq] at h1
  rw [h1] at hn ⊢
  cases hc : trimOn m (lrounds m m.ends.length) x l with
  | none => rw [hc] at hn; exact absurd rfl hn
  | some b =>
    obtain ⟨e, b0, bX⟩ := trimOn_some hc
    have hL := lrounds_live hg
    have hbm := h2 b hc
    have hk : b.toNat < (lrounds m m.ends.length).length := by
      rcases Nat.lt_or_ge b.toNat (lrounds m m.ends.length).length with h | h
      · exact h
      · rw [List.getD_eq_getElem?_getD, List.getElem?_eq_none h] at bX; cases bX
    rw [List.getD_eq_getElem?_getD, List.getElem?_eq_getElem hk] at bX
    have hlive := (hL.2 _ hk).1 bX
    rw [show ((b.toNat : Nat) : Int) = b by omega] at hlive
    obtain ⟨u, hu⟩ := (M.live_iff _ _).1 hlive
    refine (M.live_iff _ _).2 ⟨u, ?_⟩
    show (tm m).lang ((bfsTo (trimOn m (lrounds m m.ends.length)) 0 (trimN m (lrounds m m.ends.length))).1.idxOf b : Int) u = true
    rw [tm_lang_at hg (bM_idx hbm), hu]

theorem vals_le {cls l : List Int} (hn : l.Nodup) (h : ∀ c ∈ l, c ∈ cls) : l.length ≤ cls.length := by
  have h1 : (l.map fun c => (cls.idxOf c : Int)).Nodup := by
    refine List.pairwise_map.2 (List.Pairwise.imp_of_mem (fun {a b} ha hb hab e => ?_) hn)
    have i1 := List.idxOf_lt_length_iff.2 (h a ha)
    have i2 := List.idxOf_lt_length_iff.2 (h b hb)
    have e1 := List.getElem_idxOf i1
    have e2 := List.getElem_idxOf i2
    have e3 : cls.idxOf a = cls.idxOf b := by omega
    refine hab ?_
    rw [← e1, ← e2]
    congr 1
  have h2 := nodup_bound cls.length _ h1 (fun y hy => by
    obtain ⟨c, hc, rfl⟩ := List.mem_map.1 hy
    have := List.idxOf_lt_length_iff.2 (h c hc)
    omega)
  rwa [List.length_map] at h2
theorem getD_mem {cls : List Int} {x : Nat} (h : x < cls.length) : cls.getD x 0 ∈ cls := by
  rw [List.getD_eq_getElem?_getD, List.getElem?_eq_getElem h]; exact List.getElem_mem h
/-- the least machine, out of any list that numbers the last parts of a trimmed machine -/
theorem lm_of_parts {t : M} (hg : t.good) (ht : trimOk t t.ends.length) {n : Nat} (hs : still t t.ends.length n) {cls : List Int} (hp : isPart t t.ends.length n cls)
    (rp : Int → Nat) (hrp : ∀ x, x < t.ends.length → rp (cls.getD x 0) < t.ends.length ∧ cls.getD (rp (cls.getD x 0)) 0 = cls.getD x 0) (on : Int → Nat → Option Int)
    (hon : ∀ x, x < t.ends.length → ∀ l, l < 3 → on (cls.getD x 0) l = if t.nx (rp (cls.getD x 0) : Int) (l : Int) = -1 then none else some (cls.getD (t.nx (rp (cls.getD x 0) : Int) (l : Int)).toNat 0)) :
    ∃ K, (bfsTo on (cls.getD 0 0) K).1.length = K ∧ K ≤ t.ends.length ∧ IsLm (t.lang 0) (bM on (cls.getD 0 0) K (fun c => t.endAt (rp c : Int))) ∧ ∀ x l b, (∃ y, y < t.ends.length ∧ cls.getD y 0 = x) → l < 3 → on x l = some b → ∃ y, y < t.ends.length ∧ cls.getD y 0 = b := by
  have h0 : 0 < t.ends.length := by have := M.good_shape hg; omega
  obtain ⟨A, hA⟩ := srch_parts (good_closed hg) ht hs h0 (fun x => cls.getD x 0) (fun x y hx hy => hp.2 x y hx hy) rp hrp on hon
  have hbound : ∀ k, (bfsTo on (cls.getD 0 0) k).1.length ≤ t.ends.length := fun k => by
    have h := vals_le (cls := cls) (bfsTo_nodup on (cls.getD 0 0) k) (fun y hy => by
      obtain ⟨x, hx, rfl⟩ := A.all k y hy
      exact getD_mem (by rw [hp.1]; exact hx))
    rwa [hp.1] at h
  obtain ⟨K, hK, hK2⟩ := bfsTo_end hbound
  exact ⟨K, hK2, hK, ⟨_, on, _, _, K, A, hA ▸ rfl, hK2, rfl⟩, fun x l b hx hl h => A.ps x hx l b hl h⟩
end Go.Proofs.Ytlbblfbiiceofaa

namespace Go.Proofs.Ytlbblfbiiceofaa

/-- a key: the part of a state, and the parts to which the letters lead -/
structure K4 where
  a : Int
  b : Int
  c : Int
  d : Int
theorem K4.ext' {x y : K4} (h1 : x.a = y.a) (h2 : x.b = y.b) (h3 : x.c = y.c) (h4 : x.d = y.d) : x = y := by
  cases x; cases y; simp only at h1 h2 h3 h4; subst h1 h2 h3 h4; rfl
instance : DecidableEq K4 := fun x y =>
  if h1 : x.a = y.a then if h2 : x.b = y.b then if h3 : x.c = y.c then if h4 : x.d = y.d then .isTrue (K4.ext' h1 h2 h3 h4) else .isFalse (fun e => h4 (by rw [e])) else .isFalse (fun e => h3 (by rw [e])) else .isFalse (fun e => h2 (by rw [e])) else .isFalse (fun e => h1 (by rw [e]))
/-- the part to which a letter leads, or none -/
def kL (m : M) (cls : List Int) (x : Nat) (l : Nat) : Int := if m.nx (x : Int) (l : Int) = -1 then -1 else cls.getD (m.nx (x : Int) (l : Int)).toNat 0
def kk (m : M) (cls : List Int) (x : Nat) : K4 := ⟨cls.getD x 0, kL m cls x 0, kL m cls x 1, kL m cls x 2⟩
/-- the keys that have come -/
def qs (m : M) (cls : List Int) : Nat → List K4
  | 0 => []
  | k + 1 => if kk m cls k ∈ qs m cls k then qs m cls k else qs m cls k ++ [kk m cls k]
theorem qs_old {m : M} {cls : List Int} {k : Nat} (h : kk m cls k ∈ qs m cls k) : qs m cls (k + 1) = qs m cls k := by rw [qs, if_pos h]
theorem qs_new {m : M} {cls : List Int} {k : Nat} (h : kk m cls k ∉ qs m cls k) : qs m cls (k + 1) = qs m cls k ++ [kk m cls k] := by rw [qs, if_neg h]
theorem qs_nodup (m : M) (cls : List Int) : ∀ k, (qs m cls k).Nodup
  | 0 => by simp [qs]
  | k + 1 => by
    by_cases h : kk m cls k ∈ qs m cls k
    · rw [qs_old h]; exact qs_nodup m cls k
    · rw [qs_new h, List.nodup_append]
      refine ⟨qs_nodup m cls k, by simp, ?_⟩
      intro a ha b hb e
      obtain rfl := List.mem_singleton.1 hb
      exact h (e ▸ ha)
theorem qs_prefix (m : M) (cls : List Int) (k : Nat) : qs m cls k <+: qs m cls (k + 1) := by
  by_cases h : kk m cls k ∈ qs m cls k
  · rw [qs_old h]; exact List.prefix_rfl
  · rw [qs_new h]; exact List.prefix_append _ _
theorem qs_mem (m : M) (cls : List Int) : ∀ k x, x < k → kk m cls x ∈ qs m cls k
  | 0, x, h => absurd h (Nat.not_lt_zero x)
  | k + 1, x, h => by
    rcases Nat.lt_succ_iff_lt_or_eq.1 h with h | rfl
    · exact (qs_prefix m cls k).subset (qs_mem m cls k x h)
    · by_cases hx : kk m cls x ∈ qs m cls x
      · rw [qs_old hx]; exact hx
      · rw [qs_new hx]; simp
theorem qs_from (m : M) (cls : List Int) : ∀ k c, c ∈ qs m cls k → ∃ x, x < k ∧ kk m cls x = c
  | 0, c, h => by simp [qs] at h
  | k + 1, c, h => by
    by_cases hx : kk m cls k ∈ qs m cls k
    · rw [qs_old hx] at h
      obtain ⟨x, h1, h2⟩ := qs_from m cls k c h
      exact ⟨x, by omega, h2⟩
    · rw [qs_new hx, List.mem_append] at h
      rcases h with h | h
      · obtain ⟨x, h1, h2⟩ := qs_from m cls k c h
        exact ⟨x, by omega, h2⟩
      · exact ⟨k, by omega, (List.mem_singleton.1 h).symm⟩
theorem qs_len (m : M) (cls : List Int) : ∀ k, (qs m cls k).length ≤ k
  | 0 => by simp [qs]
  | k + 1 => by
    have := qs_len m cls k
    by_cases h : kk m cls k ∈ qs m cls k
    · rw [qs_old h]; omega
    · rw [qs_new h, List.length_append]; simp; omega
theorem qs_idx {m : M} {cls : List Int} {k : Nat} {c : K4} (h : c ∈ qs m cls k) : (qs m cls (k + 1)).idxOf c = (qs m cls k).idxOf c := by
  obtain ⟨t, ht⟩ := qs_prefix m cls k
  rw [← ht, List.idxOf_append, if_pos h]
/-- the number of the key of k among those that have come, with it -/
def fin1 (m : M) (cls : List Int) (k : Nat) : Int := ((qs m cls (k + 1)).idxOf (kk m cls k) : Int)
theorem fin1_old {m : M} {cls : List Int} {k : Nat} (h : kk m cls k ∈ qs m cls k) : fin1 m cls k = ((qs m cls k).idxOf (kk m cls k) : Int) := by rw [fin1, qs_old h]
theorem fin1_new {m : M} {cls : List Int} {k : Nat} (h : kk m cls k ∉ qs m cls k) : fin1 m cls k = ((qs m cls k).length : Int) := by
  rw [fin1, qs_new h, List.idxOf_append, if_neg h]; simp
theorem fin1_later (m : M) (cls : List Int) (x : Nat) : ∀ k, x < k → ((qs m cls k).idxOf (kk m cls x) : Int) = fin1 m cls x
  | 0, h => absurd h (Nat.not_lt_zero x)
  | k + 1, h => by
    rcases Nat.lt_succ_iff_lt_or_eq.1 h with h | rfl
    · rw [qs_idx (qs_mem m cls k x h)]; exact fin1_later m cls x k h
    · rfl
/-- the parts, so far -/
def finL (m : M) (cls : List Int) (N k : Nat) : List Int := (List.range N).map fun (x : Nat) => if x < k then fin1 m cls x else 0
theorem finL_length (m : M) (cls : List Int) (N k : Nat) : (finL m cls N k).length = N := by simp [finL]
theorem finL_zero (m : M) (cls : List Int) (N : Nat) : finL m cls N 0 = List.replicate N 0 := by
  apply List.ext_getElem
  · simp [finL]
  · intro i h1 h2; simp [finL]
theorem finL_set (m : M) (cls : List Int) (N k : Nat) : (finL m cls N k).set k (fin1 m cls k) = finL m cls N (k + 1) := by
  apply List.ext_getElem
  · simp [finL]
  · intro i h1 h2
    rw [List.getElem_set]
    by_cases e : k = i
    · subst e; simp [finL]
    · rw [if_neg e]
      by_cases h : i < k
      · simp [finL, h, Nat.lt_succ_of_lt h]
      · have : ¬ i < k + 1 := by omega
        simp [finL, h, this]
theorem finL_get (m : M) (cls : List Int) {N x : Nat} (h : x < N) : (finL m cls N N).getD x 0 = fin1 m cls x := by
  simp [finL, List.getD, h]
theorem fin1_bd (m : M) (cls : List Int) {N x : Nat} (h : x < N) : 0 ≤ fin1 m cls x ∧ fin1 m cls x < ((qs m cls N).length : Int) := by
  rw [← fin1_later m cls x N h]
  have := List.idxOf_lt_length_iff.2 (qs_mem m cls N x h)
  omega
theorem fin1_inj (m : M) (cls : List Int) {N x y : Nat} (hx : x < N) (hy : y < N) : fin1 m cls x = fin1 m cls y ↔ kk m cls x = kk m cls y := by
  rw [← fin1_later m cls x N hx, ← fin1_later m cls y N hy]
  constructor
  · intro h
    have h2 : (qs m cls N).idxOf (kk m cls x) = (qs m cls N).idxOf (kk m cls y) := by omega
    have a := List.idxOf_lt_length_iff.2 (qs_mem m cls N x hx)
    have b := List.idxOf_lt_length_iff.2 (qs_mem m cls N y hy)
    have e1 := List.getElem_idxOf a
    have e2 := List.getElem_idxOf b
    rw [← e1, ← e2]
    congr 1
  · intro h; rw [h]
/-- one key: one after one round more -/
theorem kk_iff {m : M} {N n : Nat} {cls : List Int} (h : isPart m N n cls) (hc : closedM m N) (h0 : ∀ x, x < N → 0 ≤ cls.getD x 0) {x y : Nat} (hx : x < N) (hy : y < N) : kk m cls x = kk m cls y ↔ eqv m (n + 1) (x : Int) (y : Int) = true := by
  have one : ∀ l : Nat, l < 3 → (kL m cls x l = kL m cls y l ↔ ((m.nx (x : Int) (l : Int) = -1 ↔ m.nx (y : Int) (l : Int) = -1) ∧ (m.nx (x : Int) (l : Int) ≠ -1 → eqv m n (m.nx (x : Int) (l : Int)) (m.nx (y : Int) (l : Int)) = true))) := by
    intro l hl
    unfold kL
    by_cases a : m.nx (x : Int) (l : Int) = -1
    · rw [if_pos a]
      by_cases b : m.nx (y : Int) (l : Int) = -1
      · rw [if_pos b]; simp [a, b]
      · rw [if_neg b]
        obtain ⟨v, hv, ev⟩ := (hc y l hy hl).resolve_left b
        have := h0 v hv
        rw [ev, Int.toNat_natCast]
        constructor
        · intro e; omega
        · rintro ⟨e, -⟩; exact absurd (ev ▸ e.1 a) (by omega)
    · rw [if_neg a]
      obtain ⟨u, hu, eu⟩ := (hc x l hx hl).resolve_left a
      by_cases b : m.nx (y : Int) (l : Int) = -1
      · rw [if_pos b]
        have := h0 u hu
        rw [eu, Int.toNat_natCast]
        constructor
        · intro e; omega
        · rintro ⟨e, -⟩; exact absurd (eu ▸ e.2 b) (by omega)
      · rw [if_neg b]
        obtain ⟨v, hv, ev⟩ := (hc y l hy hl).resolve_left b
        rw [eu, ev, Int.toNat_natCast, Int.toNat_natCast, h.2 u v hu hv]
        constructor
        · intro e; exact ⟨⟨fun q => absurd q (by omega), fun q => absurd q (by omega)⟩, fun _ => e⟩
        · rintro ⟨-, e⟩; exact e (by omega)
  rw [eqv_succ, ← h.2 x y hx hy]
  have o0 := one 0 (by omega)
  have o1 := one 1 (by omega)
  have o2 := one 2 (by omega)
  unfold kk
  simp only [K4.mk.injEq]
  constructor
  · rintro ⟨e, e0, e1, e2⟩
    refine ⟨e, fun l hl => ?_⟩
    match l, hl with
    | 0, _ => exact o0.1 e0
    | 1, _ => exact o1.1 e1
    | 2, _ => exact o2.1 e2
  · rintro ⟨e, hh⟩
    exact ⟨e, o0.2 (hh 0 (by omega)), o1.2 (hh 1 (by omega)), o2.2 (hh 2 (by omega))⟩
theorem finL_part {m : M} {N n : Nat} {cls : List Int} (h : isPart m N n cls) (hc : closedM m N) (h0 : ∀ x, x < N → 0 ≤ cls.getD x 0) : isPart m N (n + 1) (finL m cls N N) := by
  refine ⟨finL_length _ _ _ _, fun x y hx hy => ?_⟩
  rw [finL_get m cls hx, finL_get m cls hy, fin1_inj m cls hx hy, kk_iff h hc h0 hx hy]
/-- as many keys as parts -/
theorem qs_firsts {m : M} {N n : Nat} {cls : List Int} (h : isPart m N n cls) (hc : closedM m N) (h0 : ∀ x, x < N → 0 ≤ cls.getD x 0) : ∀ k, k ≤ N → qs m cls k = (firsts (eqv m (n + 1)) k).map (kk m cls)
  | 0, _ => rfl
  | k + 1, hk => by
    have ih := qs_firsts h hc h0 k (by omega)
    have key : fstOk (eqv m (n + 1)) k = true ↔ kk m cls k ∉ qs m cls k := by
      rw [fstOk_iff]
      constructor
      · intro hf hm
        obtain ⟨x, hx, e⟩ := qs_from m cls k _ hm
        have := (kk_iff h hc h0 (by omega) (by omega)).1 e
        rw [hf x hx] at this; cases this
      · intro hm j hj
        cases he : eqv m (n + 1) (j : Int) (k : Int) with
        | false => rfl
        | true => exact absurd ((kk_iff h hc h0 (by omega) (by omega)).2 he ▸ qs_mem m cls k j hj) hm
    have hf : firsts (eqv m (n + 1)) (k + 1) = firsts (eqv m (n + 1)) k ++ (if fstOk (eqv m (n + 1)) k = true then [k] else []) := by
      unfold firsts
      rw [List.range_succ, List.filter_append]
      congr 1
      by_cases hq : fstOk (eqv m (n + 1)) k = true
      · simp [hq]
      · simp [hq]
    rw [hf]
    by_cases hq : kk m cls k ∈ qs m cls k
    · rw [qs_old hq, if_neg (fun e => key.1 e hq), List.append_nil, ih]
    · rw [qs_new hq, if_pos (key.2 hq), List.map_append, ← ih]; rfl
theorem qs_count {m : M} {N n : Nat} {cls : List Int} (h : isPart m N n cls) (hc : closedM m N) (h0 : ∀ x, x < N → 0 ≤ cls.getD x 0) : (qs m cls N).length = (firsts (eqv m (n + 1)) N).length := by
  rw [qs_firsts h hc h0 N (Nat.le_refl _), List.length_map]
/-- the last one of each part among the first k -/
def stnL (cls : List Int) (many : Nat) : Nat → List Int
  | 0 => List.replicate many 0
  | k + 1 => (stnL cls many k).set (cls.getD k 0).toNat (k : Int)
theorem stnL_length (cls : List Int) (many : Nat) : ∀ k, (stnL cls many k).length = many
  | 0 => by simp [stnL]
  | k + 1 => by rw [stnL, List.length_set]; exact stnL_length cls many k
theorem stnL_at (cls : List Int) (many : Nat) : ∀ k, (∀ x, x < k → 0 ≤ cls.getD x 0 ∧ cls.getD x 0 < (many : Int)) → ∀ x, x < k → ∃ y : Nat, y < k ∧ (stnL cls many k).getD (cls.getD x 0).toNat 0 = (y : Int) ∧ cls.getD y 0 = cls.getD x 0
  | 0, _, x, hx => absurd hx (Nat.not_lt_zero x)
  | k + 1, hb, x, hx => by
    have hbk := hb k (by omega)
    have hbx := hb x hx
    have hl := stnL_length cls many k
    by_cases e : (cls.getD k 0).toNat = (cls.getD x 0).toNat
    · refine ⟨k, by omega, ?_, by omega⟩
      rw [stnL, e, List.getD_eq_getElem?_getD, List.getElem?_set_self (by omega)]; rfl
    · have hxk : x < k := by
        rcases Nat.lt_succ_iff_lt_or_eq.1 hx with h | rfl
        · exact h
        · exact absurd rfl e
      obtain ⟨y, h1, h2, h3⟩ := stnL_at cls many k (fun x hx => hb x (by omega)) x hxk
      refine ⟨y, by omega, ?_, h3⟩
      rw [stnL, List.getD_eq_getElem?_getD, List.getElem?_set_ne e, ← List.getD_eq_getElem?_getD]
      exact h2
end Go.Proofs.Ytlbblfbiiceofaa

namespace Go.Proofs.Ytlbblfbiiceofaa
open Go.RowKit Go.Maps

def arr4 (k : K4) : Value := .agg #[.int .i64 k.a, .int .i64 k.b, .int .i64 k.c, .int .i64 k.d]
def key4 (k : K4) : Lit := .string (keyBytes [.int .i64 k.a, .int .i64 k.b, .int .i64 k.c, .int .i64 k.d])
def wf4 (k : K4) : Prop := (Lit.int .i64 k.a).wf = true ∧ (Lit.int .i64 k.b).wf = true ∧ (Lit.int .i64 k.c).wf = true ∧ (Lit.int .i64 k.d).wf = true
theorem cells4e : Try.prog.cellsOf 3 = 1 := by kernel_rfl
theorem lits1 (d : Nat) (x : Int) (h : (Lit.int .i64 x).wf = true) : Try.prog.keyLits (d + 1) 3 [.int .i64 x] = some [.int .i64 x] := by
  simp [Program.keyLits, Try.underlying3, h]
theorem key4_is (k : K4) : WideAt.IsKeyLit (key4 k) := trivial
theorem qD_tidy (q : List K4) : Tidy (qD (H := Unit) key4 q) := by
  induction q using snoc_ind with
  | h0 => exact tidy_empty
  | h1 l b ih => rw [qD_snoc]; exact ih.put (key4_is b) _
end Go.Proofs.Ytlbblfbiiceofaa

namespace Go.Proofs.Ytlbblfbiiceofaa
open Go.RowKit Go.Maps

def kaL (m : M) (cls : List Int) (x l : Nat) : Array Value := #[.int .i64 (cls.getD x 0), .int .i64 (if 0 < l then kL m cls x 0 else 0), .int .i64 (if 1 < l then kL m cls x 1 else 0), .int .i64 (if 2 < l then kL m cls x 2 else 0)]
theorem kaL_set (m : M) (cls : List Int) (x : Nat) : ∀ l, l < 3 → (kaL m cls x l).setIfInBounds (l + 1) (.int .i64 (kL m cls x l)) = kaL m cls x (l + 1)
  | 0, _ => rfl
  | 1, _ => rfl
  | 2, _ => rfl
theorem kaL_at (m : M) (cls : List Int) (x : Nat) : ∀ l, l < 3 → ∃ v, (kaL m cls x l)[l + 1]? = some v
  | 0, _ => ⟨_, rfl⟩
  | 1, _ => ⟨_, rfl⟩
  | 2, _ => ⟨_, rfl⟩

end Go.Proofs.Ytlbblfbiiceofaa

namespace Go.Proofs.Ytlbblfbiiceofaa
open Go.RowKit Go.Maps

/-- what partsOf tells: a list of parts, and how many there are; the last parts, unless there are too many -/
def PartsI (m : M) (w : World) (e : Ending) (w' : World) : Prop :=
  ∃ (g n many : Nat) (cls : List Int), e = .returned (.tuple #[.slice (some ⟨g, 0, none⟩) m.ends.length m.ends.length, .int .i64 (many : Int)]) ∧ isPart m m.ends.length n cls ∧ (∀ x, x < m.ends.length → 0 ≤ cls.getD x 0 ∧ cls.getD x 0 < (many : Int)) ∧
    many = (firsts (eqv m n) m.ends.length).length ∧ (many ≤ 48 → still m m.ends.length n) ∧
    Apart w.heap.size [rowT 3 1 (.slice (some ⟨g, 0, none⟩) m.ends.length m.ends.length) m.ends.length (cls.map (Value.int .i64))] w' ∧ Below w.heap.size w w'
/-- the numbers with which the program begins, so far -/
def bgL (m : M) (N k : Nat) : List Int := (List.range N).map fun (x : Nat) => if x < k ∧ m.endAt (x : Int) = true then 1 else 0
theorem bgL_length (m : M) (N k : Nat) : (bgL m N k).length = N := by simp [bgL]
theorem bgL_zero (m : M) (N : Nat) : bgL m N 0 = List.replicate N 0 := by
  apply List.ext_getElem
  · simp [bgL]
  · intro i h1 h2; simp [bgL]
theorem bgL_all (m : M) (N : Nat) : bgL m N N = iniL m N := by
  apply List.ext_getElem
  · simp [bgL, iniL]
  · intro i h1 h2
    rw [bgL_length] at h1
    simp [bgL, iniL, h1]
theorem bgL_yes (m : M) (N k : Nat) (h : m.endAt (k : Int) = true) : (bgL m N k).set k 1 = bgL m N (k + 1) := by
  apply List.ext_getElem
  · simp [bgL]
  · intro i h1 h2
    rw [List.getElem_set]
    by_cases e : k = i
    · subst e; simp [bgL, h]
    · rw [if_neg e]
      have : i < k + 1 ↔ i < k := by omega
      simp [bgL, this]
theorem bgL_no (m : M) (N k : Nat) (h : m.endAt (k : Int) = false) : bgL m N k = bgL m N (k + 1) := by
  apply List.ext_getElem
  · simp [bgL]
  · intro i h1 h2
    by_cases e : k = i
    · subst e; simp [bgL, h]
    · have : i < k + 1 ↔ i < k := by omega
      simp [bgL, this]
theorem iniL_bd (m : M) (N x : Nat) (h : x < N) : 0 ≤ (iniL m N).getD x 0 ∧ (iniL m N).getD x 0 < 1000000 := by
  rw [iniL_get m N x h]; split <;> omega
theorem made_bg {w : World} {v : Value} {N : Nat} (m : M) (h : w.ownsRow 0 3 1 v N (madeCells (Value.int .i64 0).cells (N * 1)).toList) : w.ownsRow 0 3 1 v N ((bgL m N 0).map (Value.int .i64)) := by
  have e : (madeCells (Value.int .i64 0).cells (N * 1)).toList = (bgL m N 0).map (Value.int .i64) := by
    rw [bgL_zero, Nat.mul_one, List.map_replicate]; exact toList_madeCells_one _ _
  rwa [e] at h
theorem ownOne {C : Nat} {w w3 : World} {v : Value} {n : Nat} {xs : List Value} (hC : C ≤ w.heap.size) (hg : w.grownBy w3 none) (h : w3.ownsRow 0 3 1 v n xs) (hk : v.ownBlock = some w.heap.size) : Apart C [rowT 3 1 v n xs] w3 :=
  (Apart.nil C w).more hg _ h hC (fun k e => by
    have : k = w.heap.size := by
      have e2 : v.ownBlock = some k := e
      rw [hk] at e2; exact (Option.some.inj e2).symm
    subst this
    exact ⟨Nat.le_refl _, (World.ownsRow.lt h _ hk).2⟩)
/-- a row of numbers of the call's own -/
structure Own1 (W0 : World) (C N g : Nat) (fs : List Int) (w : World) : Prop where
  keep : Below C W0 w
  sz : C ≤ w.heap.size
  ap : Apart C [rowT 3 1 (.slice (some ⟨g, 0, none⟩) N N) N (fs.map (Value.int .i64))] w
section
variable {W0 w w' : World} {C N g : Nat} {fs : List Int}
theorem Own1.row (h : Own1 W0 C N g fs w) : w.ownsRow 0 3 1 (.slice (some ⟨g, 0, none⟩) N N) N (fs.map (Value.int .i64)) := h.ap.head
theorem Own1.same (h : Own1 W0 C N g fs w) (hg : w.grownBy w' none) : Own1 W0 C N g fs w' := ⟨h.keep.grown hg h.sz (fun _ e => by cases e), Nat.le_trans h.sz hg.size, h.ap.same hg⟩
theorem Own1.below (h : Own1 W0 C N g fs w) (hb : Below w.heap.size w w') : Own1 W0 C N g fs w' := h.same (grown_below hb)
theorem Own1.put (h : Own1 W0 C N g fs w) (k : Nat) (u : Int) : Own1 W0 C N g (fs.set k u) (w.setCell ⟨g, k, none⟩ (.int .i64 u)) := by
  have hlt := h.ap.lt g rfl
  have a := h.ap.setRow h.sz k (.int .i64 u)
  rw [← List.map_set] at a
  exact ⟨h.keep.setCell (p := ⟨g, k, none⟩) hlt.1 _, by simpa using h.sz, a⟩
theorem Own1.cell (h : Own1 W0 C N g fs w) (k : Nat) (hk : k < N) (hf : fs.length = N) : w.cell? ⟨g, k, none⟩ = some (.int .i64 (fs.getD k 0)) := by
  rw [World.ownsRow.cellAt h.row k (by omega), List.getElem?_map, List.getElem?_eq_getElem (by omega), List.getD_eq_getElem?_getD, List.getElem?_eq_getElem (by omega)]
  rfl
theorem Own1.froz (h : Own1 W0 C N g fs w) (k : Nat) : w.frozen? ⟨g, k, none⟩ = false := h.row.frozenAt k
end
theorem still_more {m : M} {N n : Nat} (hc : closedM m N) (h : (firsts (eqv m (n + 1)) N).length ≤ (firsts (eqv m n) N).length) : still m N (n + 1) := still_next hc (still_of_count h)

end Go.Proofs.Ytlbblfbiiceofaa

namespace Go.Proofs.Ytlbblfbiiceofaa
open Go.RowKit

/-- the part to which a letter leads from a state -/
def lOn (t : M) (cls : List Int) (y l : Nat) : Option Int := if t.nx (y : Int) (l : Int) = -1 then none else some (cls.getD (t.nx (y : Int) (l : Int)).toNat 0)
def LOnPost (t : M) (cls : List Int) (y l : Nat) (W : World) (e : Ending) (W' : World) : Prop := ∃ v b, e = .returned (.tuple #[.int .i64 v, .bool b]) ∧ lOn t cls y l = (if b = true then some v else none) ∧ Below W.heap.size W W'

end Go.Proofs.Ytlbblfbiiceofaa

namespace Go.Proofs.Ytlbblfbiiceofaa
open Go.RowKit Go.Maps

end Go.Proofs.Ytlbblfbiiceofaa

namespace Go.Proofs.Ytlbblfbiiceofaa
open Go.RowKit Go.Maps

/-- what leastOf tells: the least machine, in memory of its own, or that there are too many parts -/
def LeastI (m : M) (w : World) (e : Ending) (w' : World) : Prop :=
  ∃ (k : M) (ok : Bool) (a1 a2 : Option Addr) (c1 c2 : Nat), e = .returned (.tuple #[.agg #[.int .i64 k.st, .slice a1 k.next.length c1, .slice a2 k.ends.length c2], .bool ok]) ∧
    Apart w.heap.size [rowT 3 1 (.slice a1 k.next.length c1) k.next.length (k.next.map (Value.int .i64)), rowT 4 1 (.slice a2 k.ends.length c2) k.ends.length (k.ends.map Value.bool)] w' ∧ Below w.heap.size w w' ∧
    ((ok = true ∧ IsLm (m.lang 0) k ∧ k.st ≤ 48) ∨ (ok = false ∧ k = ⟨0, [], []⟩ ∧ ∃ n, 48 < (firsts (eqv (tm m) n) (tm m).ends.length).length))
/-- the search over the program's parts -/
def liOn (t : M) (cls : List Int) (many : Nat) (c : Int) (l : Nat) : Option Int := lOn t cls ((stnL cls many t.ends.length).getD c.toNat 0).toNat l
def liEnds (t : M) (cls : List Int) (many : Nat) (c : Int) : Bool := t.endAt (((stnL cls many t.ends.length).getD c.toNat 0).toNat : Int)
def liM (t : M) (cls : List Int) (many K : Nat) (p0 : Int) : M := bM (liOn t cls many) p0 K (liEnds t cls many)
/-- the least machine, out of the program's parts -/
theorem lm_impl {t : M} (hg : t.good) (ht : trimOk t t.ends.length) {n many : Nat} (hs : still t t.ends.length n) {cls : List Int} (hp : isPart t t.ends.length n cls) (hb : ∀ x, x < t.ends.length → 0 ≤ cls.getD x 0 ∧ cls.getD x 0 < (many : Int)) (hm : many = (firsts (eqv t n) t.ends.length).length) :
    ∃ K, (bfsTo (liOn t cls many) (cls.getD 0 0) K).1.length = K ∧ K ≤ many ∧ IsLm (t.lang 0) (liM t cls many K (cls.getD 0 0)) ∧
      ∀ x l b, (∃ y, y < t.ends.length ∧ cls.getD y 0 = x) → l < 3 → liOn t cls many x l = some b → ∃ y, y < t.ends.length ∧ cls.getD y 0 = b := by
  have hmN : many ≤ t.ends.length := by rw [hm]; exact firsts_le _ _
  have hst := stnL_at cls many t.ends.length hb
  have hrp : ∀ x, x < t.ends.length → ((stnL cls many t.ends.length).getD (cls.getD x 0).toNat 0).toNat < t.ends.length ∧ cls.getD ((stnL cls many t.ends.length).getD (cls.getD x 0).toNat 0).toNat 0 = cls.getD x 0 := by
    intro x hx
    obtain ⟨y, h1, h2, h3⟩ := hst x hx
    rw [h2, Int.toNat_natCast]
    exact ⟨h1, h3⟩
  obtain ⟨K, h1, h2, h3, h4⟩ := lm_of_parts hg ht hs hp (fun c => ((stnL cls many t.ends.length).getD c.toNat 0).toNat) hrp (liOn t cls many) (fun x hx l hl => rfl)
  refine ⟨K, h1, ?_, h3, h4⟩
  have h5 := nodup_bound many _ (bfsTo_nodup (liOn t cls many) (cls.getD 0 0) K) (fun y hy => by
    have h6 : ∃ x, x < t.ends.length ∧ cls.getD x 0 = y := bfsTo_all (P := fun y => ∃ x, x < t.ends.length ∧ cls.getD x 0 = y) ⟨0, by have := M.good_shape hg; omega, rfl⟩ (fun x hx l b hl hb => h4 x l b hx hl hb) K y hy
    obtain ⟨x, hx, rfl⟩ := h6
    exact hb x hx)
  omega
/-- a slice in a box of its own -/
theorem boxed1 {C : Nat} {ts : List Thing} {w : World} (v : Value) (t : TypeId) (hA : Apart C ts w) (hC : C ≤ w.heap.size) : Apart C (cellsT w.heap.size #[v] t :: ts) (w.alloc (.cells #[v] t)) :=
  hA.more (World.grownBy_alloc w _ none) _ (heap_alloc_new w _) hC (fun j e => by cases e; simp)
theorem least_made {w w6 w7 : World} {ts : List Thing} {many : Nat} (cls : List Int) (hQ : Below w.heap.size w w6) (hA : Apart w.heap.size ts w6) (hg : w6.grownBy w7 none) (ho : w7.ownsRow 0 3 1 (.slice (some ⟨w6.heap.size, 0, none⟩) many many) many (madeCells (Value.int .i64 0).cells (many * 1)).toList) :
    Apart w.heap.size (rowT 3 1 (.slice (some ⟨w6.heap.size, 0, none⟩) many many) many ((stnL cls many 0).map (Value.int .i64)) :: cellsT w7.heap.size #[.slice (some ⟨w6.heap.size, 0, none⟩) many many] 113 :: ts) (w7.alloc (.cells #[.slice (some ⟨w6.heap.size, 0, none⟩) many many] 113)) := by
  have e : (madeCells (Value.int .i64 0).cells (many * 1)).toList = (stnL cls many 0).map (Value.int .i64) := by
    rw [stnL, Nat.mul_one, List.map_replicate]; exact toList_madeCells_one _ _
  rw [e] at ho
  have A1 := hA.more hg (rowT 3 1 (.slice (some ⟨w6.heap.size, 0, none⟩) many many) many ((stnL cls many 0).map (Value.int .i64))) ho hQ.size (fun j e => by
    cases e; exact ⟨Nat.le_refl _, (World.ownsRow.lt ho _ rfl).2⟩)
  exact (boxed1 _ _ A1 (Nat.le_trans hQ.size hg.size)).perm (List.Perm.swap _ _ _)

end Go.Proofs.Ytlbblfbiiceofaa

namespace Go.Proofs.Ytlbblfbiiceofaa
open Go.RowKit

/-- LeastMachine's answer -/
def IsLmZ (m k : M) : Prop := (m.ok = true → IsLm (m.lang 0) k ∧ k.st ≤ 48) ∧ (m.ok = false → k = ⟨0, [], []⟩)
theorem IsLmZ.one {m k k' : M} (h : IsLmZ m k) (h' : IsLmZ m k') : k = k' := by
  cases hk : m.ok with
  | true => exact (h.1 hk).1.one (h'.1 hk).1
  | false => rw [h.2 hk, h'.2 hk]
theorem IsLmZ.len {m k : M} (h : IsLmZ m k) : k.next.length ≤ 1100000 ∧ k.ends.length ≤ 1100000 := by
  cases hk : m.ok with
  | true =>
    obtain ⟨h1, h2⟩ := h.1 hk
    have h3 := M.good_shape (h1.good (by omega))
    omega
  | false => rw [h.2 hk]; exact ⟨Nat.zero_le _, Nat.zero_le _⟩
def LeastNew (m : M) (w : World) (e : Ending) (w' : World) : Prop := ∃ k, IsLmZ m k ∧ MachNew k w e w'

end Go.Proofs.Ytlbblfbiiceofaa

namespace Go.Proofs.Ytlbblfbiiceofaa
open Go.RowKit

/-- a list of the last parts, in memory of its own -/
def PartsNew (m : M) (w : World) (e : Ending) (w' : World) : Prop :=
  ∃ (a : Option Addr) (c n : Nat) (cls : List Int), e = .returned (.slice a cls.length c) ∧ still m m.ends.length n ∧ isPart m m.ends.length n cls ∧
    Apart w.heap.size [rowT 3 1 (.slice a cls.length c) cls.length (cls.map (Value.int .i64))] w' ∧ Below w.heap.size w w'

/-- what the model's loops keep: the class row, and what lies below -/
structure Cls (W0 : World) (N : Nat) (cv : Value) (cls : List Int) (w : World) : Prop where
  ap : Apart N [rowT 3 1 cv cls.length (cls.map (Value.int .i64))] w
  keep : Below N W0 w
  sz : N ≤ w.heap.size
/-- the class row and the next one -/
structure Cl2 (W0 : World) (N : Nat) (cv : Value) (cls : List Int) (xv : Value) (nx : List Int) (w : World) : Prop where
  ap : Apart N [rowT 3 1 xv nx.length (nx.map (Value.int .i64)), rowT 3 1 cv cls.length (cls.map (Value.int .i64))] w
  keep : Below N W0 w
  sz : N ≤ w.heap.size
section
variable {W0 w w' : World} {N : Nat} {cv xv : Value} {cls nx : List Int}
theorem Cl2.same (h : Cl2 W0 N cv cls xv nx w) (hg : w.grownBy w' none) : Cl2 W0 N cv cls xv nx w' := ⟨h.ap.same hg, h.keep.grown hg h.sz (fun _ e => by cases e), Nat.le_trans h.sz hg.size⟩
theorem Cl2.below (h : Cl2 W0 N cv cls xv nx w) (hb : Below w.heap.size w w') : Cl2 W0 N cv cls xv nx w' := h.same (grown_below hb)
theorem Cls.same (h : Cls W0 N cv cls w) (hg : w.grownBy w' none) : Cls W0 N cv cls w' := ⟨h.ap.same hg, h.keep.grown hg h.sz (fun _ e => by cases e), Nat.le_trans h.sz hg.size⟩
theorem Cl2.rowX (h : Cl2 W0 N cv cls xv nx w) : w.ownsRow 0 3 1 xv nx.length (nx.map (Value.int .i64)) := h.ap.head
theorem Cl2.rowC (h : Cl2 W0 N cv cls xv nx w) : w.ownsRow 0 3 1 cv cls.length (cls.map (Value.int .i64)) := h.ap.tail.head
theorem Cl2.next (h : Cl2 W0 N cv cls xv nx w) : Cls W0 N xv nx w := ⟨⟨fun t ht => h.ap.all t (by simp at ht; subst ht; simp), .cons (by simp) .nil⟩, h.keep, h.sz⟩
theorem Cls.more (h : Cls W0 N cv cls w) : Cl2 W0 N cv cls (.slice (some ⟨w.heap.size, 0, none⟩) 0 0) [] (w.alloc (.cells #[] 3)) :=
  ⟨h.ap.more (World.grownBy_alloc w _ none) (rowT 3 1 (.slice (some ⟨w.heap.size, 0, none⟩) 0 0) 0 []) (World.ownsRow_lit (base := 0) (e := 3) (size := 1) w #[] 0 (Nat.zero_le _) (Nat.zero_le _) rfl) h.sz (fun k e => by cases e; simp), h.keep.alloc h.sz _, by simp; have := h.sz; omega⟩
theorem Cl2.push {x : Int} {t : TypeId} {g cp : Nat} {w1 : World} (h : Cl2 W0 N cv cls xv nx w) (hg : (w.alloc (.cells #[.int .i64 x] t)).grownBy w1 xv.ownBlock)
    (ho : w1.ownsRow 0 3 1 (.slice (some ⟨g, 0, none⟩) (nx.length + 1) cp) (nx.length + 1) (nx.map (Value.int .i64) ++ [.int .i64 x])) (hat : xv.ownBlock = some g ∨ g = (w.alloc (.cells #[.int .i64 x] t)).heap.size) :
    Cl2 W0 N cv cls (.slice (some ⟨g, 0, none⟩) (nx.length + 1) cp) (nx ++ [x]) w1 := by
  have h1 := h.same (World.grownBy_alloc w (.cells #[.int .i64 x] t) none)
  refine ⟨h1.ap.turn hg (rowT 3 1 (.slice (some ⟨g, 0, none⟩) (nx.length + 1) cp) (nx ++ [x]).length ((nx ++ [x]).map (Value.int .i64))) (by show World.ownsRow _ _ _ _ _ _ _; rw [List.length_append, List.map_append]; exact ho) h1.sz
    (fun j e => ⟨by cases e; exact hat.imp id (fun e => Nat.le_of_eq e.symm), (World.ownsRow.lt ho j e).2⟩), h1.keep.grown hg h1.sz (fun j e => (h1.ap.lt j e).1), Nat.le_trans h1.sz hg.size⟩
theorem Cl2.cellX {a : Option Addr} {n c : Nat} (h : Cl2 W0 N cv cls (.slice a n c) nx w) (k : Nat) (hk : k < nx.length) : ∃ g, a = some ⟨g, 0, none⟩ ∧ w.cell? ⟨g, k, none⟩ = some (.int .i64 nx[k]) := by
  obtain ⟨g, c', e, -, -⟩ := World.ownsRow.form h.rowX (by omega)
  simp only [Value.slice.injEq] at e
  obtain ⟨rfl, rfl, rfl⟩ := e
  exact ⟨g, rfl, by rw [World.ownsRow.cellAt h.rowX k (by omega)]; simp [hk]⟩
theorem Cl2.cellC {a : Option Addr} {n c : Nat} (h : Cl2 W0 N (.slice a n c) cls xv nx w) (k : Nat) (hk : k < cls.length) : ∃ g, a = some ⟨g, 0, none⟩ ∧ w.cell? ⟨g, k, none⟩ = some (.int .i64 cls[k]) := by
  obtain ⟨g, c', e, -, -⟩ := World.ownsRow.form h.rowC (by omega)
  simp only [Value.slice.injEq] at e
  obtain ⟨rfl, rfl, rfl⟩ := e
  exact ⟨g, rfl, by rw [World.ownsRow.cellAt h.rowC k (by omega)]; simp [hk]⟩
end
/-- whether the first ones of two lists are equal -/
def eqTo (a b : List Int) (k : Nat) : Bool := (List.range k).all fun i => a.getD i 0 == b.getD i 0
theorem eqTo_succ (a b : List Int) (k : Nat) : eqTo a b (k + 1) = (eqTo a b k && (a.getD k 0 == b.getD k 0)) := by simp [eqTo, List.range_succ, List.all_append]
theorem eqTo_all {a b : List Int} (h : a.length = b.length) (he : eqTo a b a.length = true) : a = b := by
  refine List.ext_getElem h fun i h1 h2 => ?_
  have := List.all_eq_true.1 he i (List.mem_range.2 h1)
  simpa [List.getD, h1, h2] using this
theorem still_N {m : M} (hg : m.good) : still m m.ends.length m.ends.length := by
  have hs := M.good_shape hg
  have := still_next (good_closed hg) (still_end (good_closed hg) (by omega))
  rwa [show m.ends.length - 1 + 1 = m.ends.length by omega] at this

theorem PartsNew.of {m : M} {w W0 wr : World} {a : Option Addr} {c n : Nat} {cls : List Int} (hq : Below w.heap.size w W0) (h : Cls W0 (w.heap.size + 1) (.slice a m.ends.length c) cls wr) (hs : still m m.ends.length n) (hp : isPart m m.ends.length n cls) :
    PartsNew m w (.returned (.slice a m.ends.length c)) wr := by
  have e : m.ends.length = cls.length := hp.1.symm
  refine ⟨a, c, n, cls, by rw [e], hs, hp, ?_, hq.trans (h.keep.mono (by omega))⟩
  have := h.ap.mono (B' := w.heap.size) (by omega)
  rw [e] at this
  exact this

set_option maxHeartbeats 1600000 in
set_option maxRecDepth 100000 in
theorem specClasses_any (m : M) (nv ev : Value) (w : World) (h1 : IsInts w nv m.next) (h2 : IsBools w ev m.ends) (hg : m.good) :
    Calls Try.prog 127 #[.agg #[.int .i64 m.st, nv, ev]] w (PartsNew m w) := by
  obtain ⟨i0, hi, hz0, hz1, hz2⟩ := info_parts infoIntF
  have HI := Lib.hid (And.intro hi (And.intro hz0 (And.intro hz1 hz2)))
  clear hi hz0 hz1 hz2
  have hM : MachBox w.heap.size m.st nv m.next ev m.ends (w.alloc (.cells #[.int .i64 m.st, nv, ev] 115)) := MachBox.new _ h1 h2
  have hb0 : Below w.heap.size w (w.alloc (.cells #[.int .i64 m.st, nv, ev] 115)) := (Below.refl _ _).alloc (Nat.le_refl _) _
  have M0 := Lib.hid hM
  have q0 := Lib.hid hb0
  have HG := Lib.hid hg
  have hsh := M.good_shape hg
  obtain ⟨a1, n1, c1, rfl⟩ := M0.out.ints.slice
  obtain ⟨a2, n2, c2, rfl⟩ := M0.out.bools.slice
  obtain ⟨g2, off2, rfl, hn2, hg2, hcells⟩ := bools_cells M0.out.bools (by omega)
  subst hn2
  have HCB := Lib.hid hcells
  have HSH := Lib.hid hsh
  clear hM hb0 h1 h2 hcells hsh
  go_enter Try.func127, Try.ntmps127
  go_wp2_with fail
  have hs0 : (w.alloc (.cells #[.int .i64 m.st, .slice a1 n1 c1, .slice (some ⟨g2, off2, none⟩) m.ends.length c2] 115)).heap.size = w.heap.size + 1 := by simp
  have HS0 := Lib.hid hs0
  generalize hW0 : w.alloc (.cells #[.int .i64 m.st, .slice a1 n1 c1, .slice (some ⟨g2, off2, none⟩) m.ends.length c2] 115) = W0 at *
  have hcls : Apart (w.heap.size + 1) [rowT 3 1 (.slice (some ⟨w.heap.size + 1, 0, none⟩) 0 0) (iniL m 0).length ((iniL m 0).map (Value.int .i64))] (W0.alloc (.cells #[] 3)) := by
    rw [← hs0]
    exact (Apart.nil W0.heap.size W0).more (World.grownBy_alloc W0 _ none) (rowT 3 1 (.slice (some ⟨W0.heap.size, 0, none⟩) 0 0) 0 []) (World.ownsRow_lit (base := 0) (e := 3) (size := 1) W0 #[] 0 (Nat.zero_le _) (Nat.zero_le _) rfl) (Nat.le_refl _) (fun k e => by cases e; simp)
  have HCLS := Lib.hid hcls
  have hbc := Lib.hid ((Below.refl W0.heap.size W0).alloc (Nat.le_refl _) (.cells #[] 3))
  clear hcls hs0
  rw [HS0.out] at hbc
  go_loopw [3, 4] (fun cv i wr => ∃ k : Nat, k ≤ m.ends.length ∧ i = .int .i64 k ∧ Apart (w.heap.size + 1) [rowT 3 1 cv (iniL m k).length ((iniL m k).map (Value.int .i64))] wr ∧ Below (w.heap.size + 1) W0 wr) (fun _ i _ => m.ends.length - (intOf i).toNat)
  case atStart => exact ⟨0, Nat.zero_le _, rfl, HCLS.out, hbc.out⟩
  case round =>
    obtain ⟨k, hkk, rfl, hA, hB⟩ := hrel
    obtain ⟨ac, cc, rfl⟩ := ownsRow_slice hA.head
    have A1 := Lib.hid hA
    have B1 := Lib.hid hB
    clear hA hB
    have M4 := Lib.hid (M0.out.below (by rw [HS0.out]; exact B1.out))
    have y0 := M4.out.c0
    have y2 := M4.out.c2
    have HSZ : Hid (w.heap.size + 1 ≤ wr.heap.size) := by
      have : w.heap.size + 1 ≤ wr.heap.size := by have := B1.out.size; rw [HS0.out] at this; exact this
      exact Lib.hid this
    by_cases hlt : k < m.ends.length
    · have hlt' : (k : Int) < m.st := by have := HSH.out; omega
      have hkl : (iniL m k).length ≤ 4000 := by rw [iniL_length]; have := HSH.out; omega
      have hk4 : k ≤ 4000 := by have := HSH.out; omega
      have hce : wr.cell? ⟨g2, off2 + k, none⟩ = some (.bool m.ends[k]) := by
        have h := HCB.out k (.bool m.ends[k]) (by simp [hlt])
        rw [add_off] at h
        exact (B1.out.cell (p := ⟨g2, off2 + k, none⟩) (by rw [← HS0.out]; exact hg2)).trans h
      have HE : Hid (m.endAt (k : Int) = m.ends[k]) := by
        have : m.endAt (k : Int) = m.ends[k] := by
          rw [M.endAt, if_neg (by omega), Int.toNat_natCast, List.getD_eq_getElem?_getD, List.getElem?_eq_getElem hlt]; rfl
        exact Lib.hid this
      generalize m.ends[k] = eb at *
      clear hg2
      cases eb with
      | true =>
        have HSU : Hid (iniL m (k + 1) = iniL m k ++ [1]) := by
          have : iniL m (k + 1) = iniL m k ++ [1] := by rw [iniL_succ, HE.out]; simp
          exact Lib.hid this
        generalize iniL m k = Q at *
        go_wp2_with (at_builtin; refine wpList_append_lies _ rfl _ _ 113 rfl 0 3 i0 (.int .i64 0) 1 8 Try.underlying113 HI.out.1 HI.out.2.1 HI.out.2.2.1 HI.out.2.2.2 rfl (by decide) (.slice ac Q.length cc) Q.length (Q.map (Value.int .i64)) rfl (World.ownsRow.alloc A1.out.head _) ⟨wr.heap.size, 0, none⟩ 1 1 [.int .i64 (1 : Int)] rfl rfl (cell_one_new _ _ _) (by simp [Value.oneCell']) (by omega) (by unfold maxLen; omega) (by omega) (Nat.zero_le _) _ rfl ?_; intro g9 cp w4 hown hgrow hat hlt3)
        go_roundw
        case rel =>
          have a1 := A1.out.same (World.grownBy_alloc wr (.cells #[.int .i64 (1 : Int)] 3) none)
          have hsz : w.heap.size + 1 ≤ (wr.alloc (.cells #[.int .i64 (1 : Int)] 3)).heap.size := by have := HSZ.out; simp; omega
          refine ⟨k + 1, by omega, by go_num, ?_, (B1.out.alloc HSZ.out _).grown hgrow hsz (fun j e => (a1.lt j e).1)⟩
          rw [HSU.out]
          exact a1.turn hgrow (rowT 3 1 (.slice (some ⟨g9, 0, none⟩) (Q.length + 1) cp) (Q ++ [1]).length ((Q ++ [1]).map (Value.int .i64))) (by show World.ownsRow _ _ _ _ _ _ _; rw [List.length_append, List.map_append]; exact hown) hsz
            (fun j e => ⟨by cases e; exact hat.imp id (fun e => Nat.le_of_eq e.symm), (World.ownsRow.lt hown j e).2⟩)
        case measure => simp [intOf]; omega
      | false =>
        have HSU : Hid (iniL m (k + 1) = iniL m k ++ [0]) := by
          have : iniL m (k + 1) = iniL m k ++ [0] := by rw [iniL_succ, HE.out]; simp
          exact Lib.hid this
        generalize iniL m k = Q at *
        go_wp2_with (at_builtin; refine wpList_append_lies _ rfl _ _ 113 rfl 0 3 i0 (.int .i64 0) 1 8 Try.underlying113 HI.out.1 HI.out.2.1 HI.out.2.2.1 HI.out.2.2.2 rfl (by decide) (.slice ac Q.length cc) Q.length (Q.map (Value.int .i64)) rfl (World.ownsRow.alloc A1.out.head _) ⟨wr.heap.size, 0, none⟩ 1 1 [.int .i64 (0 : Int)] rfl rfl (cell_one_new _ _ _) (by simp [Value.oneCell']) (by omega) (by unfold maxLen; omega) (by omega) (Nat.zero_le _) _ rfl ?_; intro g9 cp w4 hown hgrow hat hlt3)
        go_roundw
        case rel =>
          have a1 := A1.out.same (World.grownBy_alloc wr (.cells #[.int .i64 (0 : Int)] 3) none)
          have hsz : w.heap.size + 1 ≤ (wr.alloc (.cells #[.int .i64 (0 : Int)] 3)).heap.size := by have := HSZ.out; simp; omega
          refine ⟨k + 1, by omega, by go_num, ?_, (B1.out.alloc HSZ.out _).grown hgrow hsz (fun j e => (a1.lt j e).1)⟩
          rw [HSU.out]
          exact a1.turn hgrow (rowT 3 1 (.slice (some ⟨g9, 0, none⟩) (Q.length + 1) cp) (Q ++ [0]).length ((Q ++ [0]).map (Value.int .i64))) (by show World.ownsRow _ _ _ _ _ _ _; rw [List.length_append, List.map_append]; exact hown) hsz
            (fun j e => ⟨by cases e; exact hat.imp id (fun e => Nat.le_of_eq e.symm), (World.ownsRow.lt hown j e).2⟩)
        case measure => simp [intOf]; omega
    · obtain rfl : k = m.ends.length := by omega
      have hlt' : ¬ ((m.ends.length : Int) < m.st) := by have := HSH.out; omega
      have HC0 : Hid (Cls W0 (w.heap.size + 1) (.slice ac m.ends.length cc) (iniL m m.ends.length) wr) := Lib.hid (by have h : Cls W0 (w.heap.size + 1) (.slice ac (iniL m m.ends.length).length cc) (iniL m m.ends.length) wr := ⟨A1.out, B1.out, HSZ.out⟩; have e := iniL_length m m.ends.length; rw [show (Value.slice ac (iniL m m.ends.length).length cc) = .slice ac m.ends.length cc by rw [e]] at h; exact h)
      have HP0 := Lib.hid (iniL_part m m.ends.length)
      have HL0 : (iniL m m.ends.length).length = m.ends.length := iniL_length _ _
      rw [HL0]
      go_wp2_with fail
      clear HCLS hbc A1 B1 HSZ y0 y2 M4
      have HN4 : m.ends.length ≤ 4000 := by have := HSH.out; omega
      have HNp : 0 < m.ends.length := by have := HSH.out; omega
      have HE3 := Lib.hid HSH.out.2.2.2
      go_loopw [3, 6] (fun cv i wr => ∃ (r : Nat) (ac : Option Addr) (cc : Nat) (cls : List Int), r ≤ m.ends.length ∧ i = .int .i64 (r : Int) ∧ cv = .slice ac m.ends.length cc ∧ isPart m m.ends.length r cls ∧ Cls W0 (w.heap.size + 1) (.slice ac m.ends.length cc) cls wr) (fun _ i _ => m.ends.length - (intOf i).toNat)
      case atStart => exact ⟨0, ac, cc, _, Nat.zero_le _, rfl, rfl, HP0.out, HC0.out⟩
      case round =>
        obtain ⟨r, ac, cc, cls, hr, rfl, rfl, hP, hC⟩ := hrel
        have HP := Lib.hid hP
        have HC := Lib.hid hC
        have hcl : cls.length = m.ends.length := hP.1
        have HCL := Lib.hid hcl
        clear hP hC hcl
        have M5 := Lib.hid (M0.out.below (by rw [HS0.out]; exact HC.out.keep))
        have y0 := M5.out.c0
        by_cases hlt : r < m.ends.length
        · have hlt' : (r : Int) < m.st := by have := HE3.out; omega
          have HX0 := Lib.hid HC.out.more
          have HEr := Lib.hid (eqv_refl m (r + 1))
          go_wp2_with fail
          go_loopw [7, 8] (fun xv i wr => ∃ (k : Nat) (ax : Option Addr) (cx : Nat), k ≤ m.ends.length ∧ i = .int .i64 (k : Int) ∧ xv = .slice ax k cx ∧ Cl2 W0 (w.heap.size + 1) (.slice ac m.ends.length cc) cls (.slice ax k cx) (repL (eqv m (r + 1)) k) wr) (fun _ i _ => m.ends.length - (intOf i).toNat)
          case atStart => exact ⟨0, _, 0, Nat.zero_le _, rfl, rfl, HX0.out⟩
          case round =>
            obtain ⟨k, ax, cx, hk, rfl, rfl, hX⟩ := hrel
            have HX := Lib.hid hX
            have hkl : (repL (eqv m (r + 1)) k).length = k := repL_length _ _
            have HKL := Lib.hid hkl
            have HSU := Lib.hid (repL_succ (eqv m (r + 1)) k)
            clear hX hkl
            have M6 := Lib.hid (M0.out.below (by rw [HS0.out]; exact HX.out.keep))
            have y0 := M6.out.c0
            by_cases hlk : k < m.ends.length
            · have hlk' : (k : Int) < m.st := by have := HE3.out; omega
              have HSAME : Hid (∀ j : Nat, j < m.ends.length → sameC m cls (j : Int) (k : Int) = eqv m (r + 1) (j : Int) (k : Int)) := Lib.hid (fun j hj => sameC_eqv HP.out (good_closed HG.out) j k hj hlk)
              go_upto_block 6 with fail
              go_cut [9, 10] from 36 to 60 (fun nv jv wx => nv = .int .i64 (rep (eqv m (r + 1)) k : Int) ∧ Cl2 W0 (w.heap.size + 1) (.slice ac m.ends.length cc) cls (.slice ax k cx) (repL (eqv m (r + 1)) k) wx)
              case first =>
                go_wp2_with fail
                go_loopw [9, 10] (fun nv i wr => ∃ j : Nat, j ≤ k ∧ i = .int .i64 (j : Int) ∧ nv = .int .i64 (k : Int) ∧ (∀ i : Nat, i < j → eqv m (r + 1) (i : Int) (k : Int) = false) ∧ Cl2 W0 (w.heap.size + 1) (.slice ac m.ends.length cc) cls (.slice ax k cx) (repL (eqv m (r + 1)) k) wr) (fun _ i _ => k - (intOf i).toNat)
                case atStart => exact ⟨0, Nat.zero_le _, rfl, rfl, fun i h => absurd h (Nat.not_lt_zero i), HX.out⟩
                case round =>
                  obtain ⟨j, hj, rfl, rfl, hno, hY⟩ := hrel
                  have HY := Lib.hid hY
                  have HNO := Lib.hid hno
                  clear hY hno
                  have M7 := Lib.hid (M0.out.below (by rw [HS0.out]; exact HY.out.keep))
                  have y0 := M7.out.c0
                  have y1 := M7.out.c1
                  have y2 := M7.out.c2
                  by_cases hjk : j < k
                  · have HC7 := Lib.hid (IsInts.of_owns HY.out.rowC)
                    have HSJ := HSAME.out j (by omega)
                    go_wp2_with fail
                    refine (specSame_any m _ _ _ _ _ cls j k _ M7.out.ints M7.out.bools HG.out HC7.out (HCL.out) (by omega) hlk).mono ?_
                    rintro e w7 ⟨rfl, hb7⟩
                    have HY7 := Lib.hid (HY.out.below hb7)
                    rw [HSJ]
                    have HHIT := Lib.hid (rep_of_hit (j := j) (k := k) (eqv_refl m (r + 1)) (eqv_symm m (r + 1)) (eqv_trans m (r + 1)))
                    clear y0 y1 y2 hb7 HSJ
                    generalize hee : eqv m (r + 1) (j : Int) (k : Int) = ee at *
                    have HEE := Lib.hid hee
                    clear hee
                    cases ee with
                    | true =>
                      have HH := Lib.hid (HHIT.out rfl)
                      obtain ⟨gx, rfl, hcx⟩ := HY7.out.cellX j (by rw [HKL.out]; exact hjk)
                      have hxe : (repL (eqv m (r + 1)) k)[j]'(by rw [HKL.out]; exact hjk) = (rep (eqv m (r + 1)) k : Int) := by
                        have := repL_get (eqv m (r + 1)) k j hjk
                        rw [List.getD_eq_getElem?_getD, List.getElem?_eq_getElem (by rw [HKL.out]; exact hjk)] at this
                        rw [show ((repL (eqv m (r + 1)) k)[j]'(by rw [HKL.out]; exact hjk)) = (rep (eqv m (r + 1)) j : Int) from this, HH.out]
                      rw [hxe] at hcx
                      clear hxe
                      go_wp2_with fail
                      go_meet
                      case rel => exact ⟨rfl, HY7.out⟩
                    | false =>
                      go_wp2_with fail
                      go_roundw
                      case rel => exact ⟨j + 1, by omega, by go_num, rfl, fun i hi => by
                        rcases Nat.lt_succ_iff_lt_or_eq.1 hi with h | rfl
                        · exact HNO.out i h
                        · exact HEE.out, HY7.out⟩
                      case measure => simp [intOf]; omega
                  · obtain rfl : j = k := by omega
                    have HRN := Lib.hid (rep_none (eqv_refl m (r + 1)) (fun i hi => HNO.out i hi))
                    go_wp2_with fail
                    go_meet
                    case rel => exact ⟨by rw [HRN.out], HY.out⟩
              case rest =>
                obtain ⟨rfl, hZ⟩ := hcut
                have HZ := Lib.hid hZ
                clear hZ y0
                have hk4 : k ≤ 4000 := by omega
                generalize hQ : repL (eqv m (r + 1)) k = Q at *
                have HQL : Q.length = k := HKL.out
                generalize rep (eqv m (r + 1)) k = v at *
                subst HQL
                go_wp2_with (at_builtin; refine wpList_append_lies _ rfl _ _ 113 rfl 0 3 i0 (.int .i64 0) 1 8 Try.underlying113 HI.out.1 HI.out.2.1 HI.out.2.2.1 HI.out.2.2.2 rfl (by decide) (.slice ax Q.length cx) Q.length (Q.map (Value.int .i64)) rfl (World.ownsRow.alloc HZ.out.rowX _) ⟨wc.heap.size, 0, none⟩ 1 1 [.int .i64 (v : Int)] rfl rfl (cell_one_new _ _ _) (by simp [Value.oneCell']) (by omega) (by unfold maxLen; omega) (by omega) (Nat.zero_le _) _ rfl ?_; intro g9 cp w4 hown hgrow hat hlt3; have HP9 := Lib.hid (HZ.out.push hgrow hown hat))
                go_roundw
                case rel => exact ⟨Q.length + 1, _, cp, by omega, by go_num, rfl, by rw [HSU.out]; exact HP9.out⟩
                case measure => simp [intOf]; omega
            · obtain rfl : k = m.ends.length := by omega
              have hlk' : ¬ ((m.ends.length : Int) < m.st) := by have := HE3.out; omega
              go_wp2_with fail
              go_loopw [11, 12] (fun sv i wr => ∃ k : Nat, k ≤ m.ends.length ∧ i = .int .i64 (k : Int) ∧ sv = .bool (eqTo (repL (eqv m (r + 1)) m.ends.length) cls k) ∧ Cl2 W0 (w.heap.size + 1) (.slice ac m.ends.length cc) cls (.slice ax m.ends.length cx) (repL (eqv m (r + 1)) m.ends.length) wr) (fun _ i _ => m.ends.length - (intOf i).toNat)
              case atStart => exact ⟨0, Nat.zero_le _, rfl, rfl, HX.out⟩
              case round =>
                obtain ⟨k, hk5, rfl, rfl, hV⟩ := hrel
                have HV := Lib.hid hV
                clear hV y0
                have M8 := Lib.hid (M0.out.below (by rw [HS0.out]; exact HV.out.keep))
                have y0 := M8.out.c0
                by_cases hlk5 : k < m.ends.length
                · have hlk6 : (k : Int) < m.st := by have := HE3.out; omega
                  have HES := Lib.hid (eqTo_succ (repL (eqv m (r + 1)) m.ends.length) cls k)
                  have hk4 : k ≤ 4000 := by omega
                  obtain ⟨gx, rfl, hcx⟩ := HV.out.cellX k (by rw [HKL.out]; exact hlk5)
                  obtain ⟨gc, rfl, hcc⟩ := HV.out.cellC k (by rw [HCL.out]; exact hlk5)
                  have hga : (repL (eqv m (r + 1)) m.ends.length).getD k 0 = (repL (eqv m (r + 1)) m.ends.length)[k]'(by rw [HKL.out]; exact hlk5) := by rw [List.getD_eq_getElem?_getD, List.getElem?_eq_getElem (by rw [HKL.out]; exact hlk5)]; rfl
                  have hgb : cls.getD k 0 = cls[k]'(by rw [HCL.out]; exact hlk5) := by rw [List.getD_eq_getElem?_getD, List.getElem?_eq_getElem (by rw [HCL.out]; exact hlk5)]; rfl
                  rw [← hga] at hcx
                  rw [← hgb] at hcc
                  clear hga hgb
                  generalize (repL (eqv m (r + 1)) m.ends.length).getD k 0 = za at *
                  generalize cls.getD k 0 = zb at *
                  generalize eqTo (repL (eqv m (r + 1)) m.ends.length) cls k = sb at *
                  cases sb with
                  | false =>
                    have HE5 : Hid (eqTo (repL (eqv m (r + 1)) m.ends.length) cls (k + 1) = false) := Lib.hid (by rw [HES.out, Bool.false_and])
                    clear HES
                    go_wp2_with fail
                    go_quiet (fail)
                    go_wp2_with fail
                    go_roundw
                    case rel => exact ⟨k + 1, by omega, by go_num, by rw [HE5.out], HV.out.same (grown_drewN _ _ none)⟩
                    case measure => simp [intOf]; omega
                  | true =>
                    by_cases hz : za = zb
                    · have hz' : (za == zb) = true := by simp [hz]
                      have HE5 : Hid (eqTo (repL (eqv m (r + 1)) m.ends.length) cls (k + 1) = true) := Lib.hid (by rw [HES.out, Bool.true_and, hz'])
                      clear HES hz
                      go_wp2_with fail
                      go_quiet (fail)
                      go_wp2_with fail
                      go_roundw
                      case rel => exact ⟨k + 1, by omega, by go_num, by rw [HE5.out], HV.out.same (grown_drewN _ _ none)⟩
                      case measure => simp [intOf]; omega
                    · have hz' : (za == zb) = false := by simpa using hz
                      have HE5 : Hid (eqTo (repL (eqv m (r + 1)) m.ends.length) cls (k + 1) = false) := Lib.hid (by rw [HES.out, Bool.true_and, hz'])
                      clear HES hz
                      go_wp2_with fail
                      go_quiet (fail)
                      go_wp2_with fail
                      go_roundw
                      case rel => exact ⟨k + 1, by omega, by go_num, by rw [HE5.out], HV.out.same (grown_drewN _ _ none)⟩
                      case measure => simp [intOf]; omega
                · obtain rfl : k = m.ends.length := by omega
                  have HALL := Lib.hid (fun h => eqTo_all (a := repL (eqv m (r + 1)) m.ends.length) (b := cls) (by rw [HKL.out, HCL.out]) h)
                  rw [HKL.out] at HALL
                  have HRP := Lib.hid (repL_part m m.ends.length (r + 1))
                  generalize eqTo (repL (eqv m (r + 1)) m.ends.length) cls m.ends.length = sb at *
                  cases sb with
                  | false =>
                    go_wp2_with fail
                    go_roundw
                    case rel => exact ⟨r + 1, ax, cx, _, by omega, by go_num, rfl, HRP.out, HV.out.next⟩
                    case measure => simp [intOf]; omega
                  | true =>
                    have HST := Lib.hid (still_next (good_closed HG.out) (still_of_repL HP.out (HALL.out rfl).symm))
                    go_wp2_with fail
                    go_ret
                    exact PartsNew.of q0.out HV.out.next HST.out HRP.out
        · obtain rfl : r = m.ends.length := by omega
          have hlt' : ¬ ((m.ends.length : Int) < m.st) := by have := HE3.out; omega
          have HST := Lib.hid (still_N HG.out)
          go_wp2_with fail
          go_ret
          exact PartsNew.of q0.out HC.out HST.out HP.out
end Go.Proofs.Ytlbblfbiiceofaa

namespace Go.Proofs.Ytlbblfbiiceofaa
open Go.RowKit

theorem ordOn_trim {t : M} (hg : t.good) (ht : trimOk t t.ends.length) (cls : List Int) {c : Int} (hc : ordRep cls c < t.ends.length) (l : Nat) (hl : l < 3) :
    ordOn t cls (lrounds t t.ends.length) c l = if t.nx (ordRep cls c : Int) (l : Int) = -1 then none else some (cls.getD (t.nx (ordRep cls c : Int) (l : Int)).toNat 0) := by
  have hs := M.good_shape hg
  have hb := M.gnx_bd hg (ordRep cls c : Int) (l : Int) (by omega) (by omega) (by omega)
  unfold ordOn
  by_cases h : t.nx (ordRep cls c : Int) (l : Int) = -1
  · rw [if_pos h, if_neg (by omega)]
  · rw [if_neg h, if_pos]
    refine ⟨by omega, ?_⟩
    have hL := lrounds_live hg
    have hk : (t.nx (ordRep cls c : Int) (l : Int)).toNat < (lrounds t t.ends.length).length := by rw [hL.1]; omega
    rw [List.getD_eq_getElem?_getD, List.getElem?_eq_getElem hk]
    have h3 := ht (ordRep cls c) l hc hl h
    have h4 : t.Live (((t.nx (ordRep cls c : Int) (l : Int)).toNat : Nat) : Int) := by
      rw [show (((t.nx (ordRep cls c : Int) (l : Int)).toNat : Nat) : Int) = t.nx (ordRep cls c : Int) (l : Int) by omega]
      exact h3
    exact (hL.2 _ hk).2 h4
theorem lm_spec {t : M} (hg : t.good) (ht : trimOk t t.ends.length) {n : Nat} (hs : still t t.ends.length n) {cls : List Int} (hp : isPart t t.ends.length n cls) :
    ∃ K, (bfsTo (ordOn t cls (lrounds t t.ends.length)) (cls.getD 0 0) K).1.length = K ∧ K ≤ t.ends.length ∧ IsLm (t.lang 0) ⟨K, (bfsTo (ordOn t cls (lrounds t t.ends.length)) (cls.getD 0 0) K).2, (bfsTo (ordOn t cls (lrounds t t.ends.length)) (cls.getD 0 0) K).1.map (ordEnds t cls)⟩ := by
  have hrp : ∀ x, x < t.ends.length → ordRep cls (cls.getD x 0) < t.ends.length ∧ cls.getD (ordRep cls (cls.getD x 0)) 0 = cls.getD x 0 := by
    intro x hx
    obtain ⟨h1, h2⟩ := idxOf_at (getD_mem (cls := cls) (x := x) (by rw [hp.1]; exact hx))
    refine ⟨by rw [← hp.1]; exact h1, ?_⟩
    unfold ordRep
    rw [List.getD_eq_getElem?_getD, List.getElem?_eq_getElem h1, h2]; rfl
  obtain ⟨K, h1, h2, h3, -⟩ := lm_of_parts hg ht hs hp (ordRep cls) hrp (ordOn t cls (lrounds t t.ends.length)) (fun x hx l hl => ordOn_trim hg ht cls (hrp x hx).1 l hl)
  exact ⟨K, h1, h2, h3⟩

set_option maxHeartbeats 1600000 in
set_option maxRecDepth 100000 in
theorem specLeastZ (m : M) (nv ev : Value) (w : World) (h1 : IsInts w nv m.next) (h2 : IsBools w ev m.ends) (hst : (Lit.int .i64 m.st).wf = true) :
    Calls Try.prog 116 #[.agg #[.int .i64 m.st, nv, ev]] w (LeastNew m w) := by
  have hM : MachBox w.heap.size m.st nv m.next ev m.ends (w.alloc (.cells #[.int .i64 m.st, nv, ev] 115)) := MachBox.new _ h1 h2
  have hb2 := (Below.refl _ (w.alloc (.cells #[.int .i64 m.st, nv, ev] 115))).alloc (Nat.le_refl _) (.cells #[.int .i64 0, .slice none 0 0, .slice none 0 0] 115)
  have M2 := Lib.hid (hM.below hb2)
  have q2 := Lib.hid (((Below.refl w.heap.size w).alloc (Nat.le_refl _) (.cells #[.int .i64 m.st, nv, ev] 115)).trans (hb2.mono (by simp)))
  have c0 := fun i => World.cell?_alloc_new (w.alloc (.cells #[.int .i64 m.st, nv, ev] 115)) #[.int .i64 0, .slice none 0 0, .slice none 0 0] 115 i
  have f0 := fun i => World.frozen?_alloc_new (w.alloc (.cells #[.int .i64 m.st, nv, ev] 115)) #[.int .i64 0, .slice none 0 0, .slice none 0 0] 115 i
  simp only [World.size_alloc] at c0 f0
  have hs2 : ((w.alloc (.cells #[.int .i64 m.st, nv, ev] 115)).alloc (.cells #[.int .i64 0, .slice none 0 0, .slice none 0 0] 115)).heap.size = w.heap.size + 1 + 1 := by simp
  have HS2 := Lib.hid hs2
  have HC0 := Lib.hid c0
  have HF0 := Lib.hid f0
  have y0 := M2.out.c0
  have y1 := M2.out.c1
  have y2 := M2.out.c2
  clear hs2 c0 f0 hM hb2 h1 h2
  go_enter Try.func116, Try.ntmps116
  go_wp2_with fail
  refine (specMachineOk_any m nv ev _ M2.out.ints M2.out.bools hst).mono ?_
  rintro e w3 ⟨rfl, hb3⟩
  have M3 := Lib.hid (M2.out.below hb3)
  have q3 := Lib.hid (q2.out.trans (hb3.mono (by rw [HS2.out]; omega)))
  have d0 : ∀ i, w3.cell? ⟨w.heap.size + 1, i, none⟩ = (#[.int .i64 0, .slice none 0 0, .slice none 0 0] : Array Value)[i]? := fun i => (hb3.cell (p := ⟨w.heap.size + 1, i, none⟩) (by rw [HS2.out]; show w.heap.size + 1 < _; omega)).trans (HC0.out i)
  have g0 : ∀ i, w3.frozen? ⟨w.heap.size + 1, i, none⟩ = false := fun i => (hb3.frozen (p := ⟨w.heap.size + 1, i, none⟩) (by rw [HS2.out]; show w.heap.size + 1 < _; omega)).trans (HF0.out i)
  have hs3 : w.heap.size + 1 + 1 ≤ w3.heap.size := by have := hb3.size; rw [HS2.out] at this; exact this
  have D0 := Lib.hid d0
  have G0 := Lib.hid g0
  have y0 := M3.out.c0
  have y1 := M3.out.c1
  have y2 := M3.out.c2
  clear hb3 d0 g0
  cases hk : m.ok with
  | false =>
    have HZ : Hid (IsLmZ m ⟨0, [], []⟩) := Lib.hid ⟨fun h => (by rw [hk] at h; cases h), fun _ => rfl⟩
    clear hk
    have h0 : w3.cell? ⟨w.heap.size + 1, 0, none⟩ = some (.int .i64 0) := D0.out 0
    have h1 : w3.cell? ⟨w.heap.size + 1, 1, none⟩ = some (.slice none 0 0) := D0.out 1
    have h2 : w3.cell? ⟨w.heap.size + 1, 2, none⟩ = some (.slice none 0 0) := D0.out 2
    have k0 := G0.out 0
    have k1 := G0.out 1
    have k2 := G0.out 2
    have FI := Lib.hid (fin_cells (x := .int .i64 0) (y := .slice none 0 0) (z := .slice none 0 0) (apart_nils (w.heap.size + 2) w3) q3.out (Nat.le_succ _) (by omega) (some3 h0 h1 h2) (by omega))
    go_wp2
    obtain ⟨r1, r2, r3, r4, r5⟩ := FI.out _ rfl
    refine bodyPost_ret (v := .agg #[.int .i64 0, .slice none 0 0, .slice none 0 0]) ?_ rfl ⟨⟨0, [], []⟩, HZ.out, none, none, 0, 0, rfl, r1, r2⟩
    simp [results, Try.results116, go_sem, r3, r4, r5]
  | true =>
    have HG := Lib.hid (M.ok_good hk)
    have HK := Lib.hid hk
    clear hk
    go_wp2_with fail
    clear y0 y1 y2
    refine (specTrimmed_any m nv ev w3 M3.out.ints M3.out.bools hst).mono ?_
    rintro e w4 hMN
    rw [show tmz m = tm m by rw [tmz, HK.out]; rfl] at hMN
    obtain ⟨n1, n2, k1, k2, rfl, hA4, hb4⟩ := hMN
    have HTL := Lib.hid (tm_lang HG.out)
    have HTG := Lib.hid (tm_good HG.out)
    have HTT := Lib.hid (tm_trim HG.out)
    have HT48 : Hid ((tm m).ends.length ≤ 48) := Lib.hid (by
      have h5 := tm_len HG.out
      have h6 := trimN_le HG.out (lrounds m m.ends.length)
      have h7 := (M.ok_shape HK.out).2.1
      omega)
    generalize tm m = T at *
    have MT := Lib.hid (MachBox.new (st := T.st) 115 (IsInts.of_owns hA4.head) (IsBools.of_owns hA4.tail.head))
    have Q4 := Lib.hid (hb4.alloc hb4.size (.cells #[.int .i64 T.st, .slice n1 T.next.length k1, .slice n2 T.ends.length k2] 115))
    have hgt : w.heap.size + 1 < w4.heap.size := by have h9 := hb4.size; omega
    clear hA4 hb4
    go_upto_region 4 with fail
    generalize hW5 : w4.alloc (.cells #[.int .i64 T.st, .slice n1 T.next.length k1, .slice n2 T.ends.length k2] 115) = w5 at *
    generalize hB4 : w4.heap.size = b4 at *
    clear hW5 hB4
    have MD := Lib.hid (MT.out.below (Below.refl _ w5).drew)
    have QD := Lib.hid Q4.out.drew
    have y0 := MD.out.c0
    have y1 := MD.out.c1
    have y2 := MD.out.c2
    have HN0 : Hid (0 < T.ends.length) := Lib.hid (by have h5 := M.good_shape HTG.out; omega)
    have HKC : Hid (∀ n cls, still T T.ends.length n → isPart T T.ends.length n cls → ∃ (h0 : 0 < cls.length) (K : Nat) (L : M), (bfsTo (ordOn T cls (lrounds T T.ends.length)) (cls[0]'h0) K).1.length = K ∧ K ≤ 48 ∧ IsLm (m.lang 0) L ∧ L.st ≤ 48 ∧ L = ⟨K, (bfsTo (ordOn T cls (lrounds T T.ends.length)) (cls[0]'h0) K).2, (bfsTo (ordOn T cls (lrounds T T.ends.length)) (cls[0]'h0) K).1.map (ordEnds T cls)⟩) := Lib.hid (fun n cls hs hp => by
      have h0 : 0 < cls.length := by rw [hp.1]; exact HN0.out
      obtain ⟨K, k1, k2, k3⟩ := lm_spec HTG.out HTT.out hs hp
      have e0 : cls.getD 0 0 = cls[0]'h0 := by rw [List.getD_eq_getElem?_getD, List.getElem?_eq_getElem h0]; rfl
      rw [e0] at k1 k3
      rw [HTL.out] at k3
      have h48 := HT48.out
      exact ⟨h0, K, _, k1, by omega, k3, by show (K : Int) ≤ 48; omega, rfl⟩)
    have HXL := Lib.hid (lrounds_live HTG.out).1
    go_region_held3 (fun w' => w'.cell? ⟨b4, 0, none⟩ = some (.int .i64 T.st) ∧ w'.cell? ⟨b4, 1, none⟩ = some (.slice n1 T.next.length k1) ∧ w'.cell? ⟨b4, 2, none⟩ = some (.slice n2 T.ends.length k2))
      (first | exact ⟨MD.out.c0, MD.out.c1, MD.out.c2⟩ | exact ⟨M6.out.c0, M6.out.c1, M6.out.c2⟩ | exact ⟨M7.out.c0, M7.out.c1, M7.out.c2⟩ | exact ⟨M8.out.c0, M8.out.c1, M8.out.c2⟩ | (refine ⟨?_, ?_, ?_⟩ <;> go_simp) | (refine ⟨?_, ?_, ?_⟩ <;> simp [World.cell?_setCell, y80, y81, y82, hneR, hneR2]))
      (first | (go_at_call 127; refine (specClasses_any T _ _ w5.drew MD.out.ints MD.out.bools HTG.out).mono ?_; rintro e w6 ⟨ac, cc, n, cls, rfl, hst6, hip6, hA6, hb6⟩; obtain ⟨h0c, K, L, hK1, hK2, hK3, hK4, hK5⟩ := HKC.out n cls hst6 hip6; have HKK := Lib.hid (And.intro hK1 (And.intro hK2 (And.intro hK3 (And.intro hK4 (And.intro hK5 hip6.1))))); have HI6 := Lib.hid (IsInts.of_owns hA6.head); have Q6 := Lib.hid (QD.out.trans (hb6.mono QD.out.size)); have M6 := Lib.hid (MD.out.below hb6); clear hst6 hip6 hA6 hb6 hK1 hK2 hK3 hK4 hK5) | (go_at_call 128; refine (specL2Live_any T _ _ w6 M6.out.ints M6.out.bools HTG.out).mono ?_; rintro e w7 ⟨al, cl, rfl, hA7, hb7⟩; have HI7 := Lib.hid (IsBools.of_owns hA7.head); have HC7 := Lib.hid (HI6.out.below hb7); have Q7 := Lib.hid (Q6.out.trans (hb7.mono Q6.out.size)); have M7 := Lib.hid (M6.out.below hb7); clear hA7 hb7) | (go_at_call 126; have HO := specL2Order_any T cls (lrounds T T.ends.length) _ _ _ _ w7 K M7.out.ints M7.out.bools HC7.out HI7.out HTG.out HKK.out.2.2.2.2.2 HXL.out h0c HKK.out.1 (by have := HKK.out.2.1; omega); rw [← HKK.out.2.2.2.2.1] at HO; refine HO.mono ?_; clear HO; rintro e w8 ⟨a1, a2, c1, c2, rfl, hA8, hb8⟩; have Q8 := Lib.hid (Q7.out.trans (hb8.mono Q7.out.size)); have M8 := Lib.hid (M7.out.below hb8); have HA8 := Lib.hid hA8; clear hA8 hb8; have y80 := M8.out.c0; have y81 := M8.out.c1; have y82 := M8.out.c2; have hneR : ¬ (b4 = w.heap.size + 1) := (by omega); have hneR2 : ¬ (w.heap.size + 1 = b4) := (by omega); have h0 : w8.cell? ⟨w.heap.size + 1, 0, none⟩ = some (.int .i64 0) := (Q8.out.cell (p := ⟨w.heap.size + 1, 0, none⟩) (by show w.heap.size + 1 < _; omega)).trans (D0.out 0); have h1 : w8.cell? ⟨w.heap.size + 1, 1, none⟩ = some (.slice none 0 0) := (Q8.out.cell (p := ⟨w.heap.size + 1, 1, none⟩) (by show w.heap.size + 1 < _; omega)).trans (D0.out 1); have h2 : w8.cell? ⟨w.heap.size + 1, 2, none⟩ = some (.slice none 0 0) := (Q8.out.cell (p := ⟨w.heap.size + 1, 2, none⟩) (by show w.heap.size + 1 < _; omega)).trans (D0.out 2); have kf0 : w8.frozen? ⟨w.heap.size + 1, 0, none⟩ = false := (Q8.out.frozen (p := ⟨w.heap.size + 1, 0, none⟩) (by show w.heap.size + 1 < _; omega)).trans (G0.out 0); have kf1 : w8.frozen? ⟨w.heap.size + 1, 1, none⟩ = false := (Q8.out.frozen (p := ⟨w.heap.size + 1, 1, none⟩) (by show w.heap.size + 1 < _; omega)).trans (G0.out 1); have kf2 : w8.frozen? ⟨w.heap.size + 1, 2, none⟩ = false := (Q8.out.frozen (p := ⟨w.heap.size + 1, 2, none⟩) (by show w.heap.size + 1 < _; omega)).trans (G0.out 2)))
    all_goals
      have FI := Lib.hid (fin_cells (x := .int .i64 L.st) (y := .slice a1 L.next.length c1) (z := .slice a2 L.ends.length c2) HA8.out (q3.out.trans (Q8.out.mono (by omega))) (Nat.le_succ _) (by have h9 := Q7.out.size; omega) (some3 h0 h1 h2) (by have h9 := Q7.out.size; omega))
      go_wp2
      obtain ⟨r1, r2, r3, r4, r5⟩ := FI.out _ rfl
      refine bodyPost_ret (v := .agg #[.int .i64 L.st, .slice a1 L.next.length c1, .slice a2 L.ends.length c2]) ?_ rfl ⟨L, ⟨fun _ => ⟨HKK.out.2.2.1, HKK.out.2.2.2.1⟩, fun h => by rw [HK.out] at h; cases h⟩, a1, a2, c1, c2, rfl, r1, r2⟩
      simp [results, Try.results116, go_sem, r3, r4, r5]
end Go.Proofs.Ytlbblfbiiceofaa
