/- impl.MostDone: what it returns, for every day. No condition. -/
import Derived.Test.YthihcnlbohhemaaDayGive
import Derived.Deep.CutRange
import Derived.Outline
import Derived.Deep.RegionHeld3
namespace Go.Proofs.Ythihcnlbohhemaa
open Go.RowKit

def recF (cs : List Nat) (n : Nat) (has : List Int) : Nat → Nat → Nat → Mv
  | 0 => fun _ t => (has, t, false)
  | f + 1 => mv cs n has f
theorem mv_is (cs : List Nat) (n : Nat) (has : List Int) (f duty tried : Nat) : mv cs n has f duty tried = mvL (recF cs n has f) (ca cs duty) n duty has n tried := by cases f <;> rfl
theorem give_any {n : Nat} {cs : List Nat} (G : Good n cs) {wB : World} {cv : Value} (h0 : IsNats wB cv cs) {gd ga : Nat} {has : List Int} (hH : Has cs n has) : ∀ (f duty tried : Nat) (ts : List Thing) (w : World), duty < cs.length → untried n tried ≤ f → tried < 2 ^ n →
    Own wB (rowT 3 1 (.slice (some ⟨gd, 0, none⟩) n n) n (has.map (Value.int .i64)) :: rowT 4 1 (.slice (some ⟨ga, 0, none⟩) n n) n (askL n tried) :: ts) w →
    Calls Try.prog 100 #[.agg #[.int .i64 n, cv, .slice (some ⟨gd, 0, none⟩) n n, .slice (some ⟨ga, 0, none⟩) n n], .int .i64 duty] w (GivePost wB gd ga n (mv cs n has f duty tried) ts) := by
  intro f
  induction f with
  | zero =>
    intro duty tried ts w hd hu ht hO
    rw [mv_is]
    exact give_loop G h0 hH (recF cs n has 0) 0 (fun d t _ h => absurd h (Nat.not_lt_zero _)) (fun d t ts w _ h _ _ => absurd h (Nat.not_lt_zero _)) duty tried ts w hd hu ht hO
  | succ f ih =>
    intro duty tried ts w hd hu ht hO
    rw [mv_is]
    exact give_loop G h0 hH (recF cs n has (f + 1)) (f + 1) (fun d t hd h => mv_moved hH f d t hd (by omega)) (fun d t ts w hd h ht hO => ih d t ts w hd (by omega) ht hO) duty tried ts w hd hu ht hO

theorem infoIntG : (Try.prog.info? 3).map (fun i => (i.zero, i.size, i.bytes)) = some (some (.int .i64 0), 1, 8) := by kernel_rfl
theorem infoBoolG : (Try.prog.info? 4).map (fun i => (i.zero, i.size, i.bytes)) = some (some (.bool false), 1, 1) := by kernel_rfl
def noneTo (n k : Nat) : List Int := List.replicate k (-1) ++ List.replicate (n - k) 0
theorem noneTo_zero (n : Nat) : noneTo n 0 = List.replicate n 0 := by simp [noneTo]
theorem noneTo_all (n : Nat) : noneTo n n = List.replicate n (-1) := by simp [noneTo]
theorem noneTo_length {n k : Nat} (h : k ≤ n) : (noneTo n k).length = n := by simp [noneTo]; omega
theorem noneTo_step {n k : Nat} (h : k < n) : (noneTo n k).set k (-1) = noneTo n (k + 1) := by
  have e : n - k = (n - (k + 1)) + 1 := by omega
  rw [noneTo, noneTo, List.set_append_right _ _ (by simp), List.length_replicate, Nat.sub_self, e, List.replicate_succ, List.set_cons_zero]
  rw [List.replicate_succ', List.append_assoc]; rfl
/-- a giving in which nobody does a duty -/
def NewPost (n : Nat) (cv : Value) (w : World) (e : Ending) (w' : World) : Prop :=
  ∃ gd ga, e = .returned (.agg #[.int .i64 n, cv, .slice (some ⟨gd, 0, none⟩) n n, .slice (some ⟨ga, 0, none⟩) n n]) ∧
    Own w [rowT 3 1 (.slice (some ⟨gd, 0, none⟩) n n) n ((List.replicate n (-1 : Int)).map (Value.int .i64)), rowT 4 1 (.slice (some ⟨ga, 0, none⟩) n n) n (askL n 0)] w'
theorem make_ints {n : Nat} (hn : n ≤ 6) : ∃ MI : Array Value, MI.size = n ∧ MI.toList = (List.replicate n (0 : Int)).map (Value.int .i64) ∧ ∀ W : World, (Instr.makeSlice 23 (.int .i64 (n : Int)) (.int .i64 (n : Int))).run Try.prog W = .ok (.slice (some ⟨W.heap.size, 0, none⟩) n n) (W.alloc (.cells MI 3)) := by
  obtain ⟨i0, hi, hz0, hz1, hz2⟩ := info_parts infoIntG
  refine ⟨madeCells (Value.int .i64 0).cells (n * 1), by simp [size_madeCells], ?_, fun W => ?_⟩
  · rw [Nat.mul_one, List.map_replicate]; exact toList_madeCells_one _ _
  · have := run_make (P := Try.prog) W 23 3 i0 (.int .i64 0) Try.underlying23 hi hz0 .i64 .i64 n n (by omega) (Int.le_refl _) (by rw [hz2]; omega) (by omega)
    rw [hz1] at this
    simpa using this
theorem make_bools {n : Nat} (hn : n ≤ 6) : ∃ MB : Array Value, MB.size = n ∧ MB.toList = askL n 0 ∧ ∀ W : World, (Instr.makeSlice 24 (.int .i64 (n : Int)) (.int .i64 (n : Int))).run Try.prog W = .ok (.slice (some ⟨W.heap.size, 0, none⟩) n n) (W.alloc (.cells MB 4)) := by
  obtain ⟨i0, hi, hz0, hz1, hz2⟩ := info_parts infoBoolG
  refine ⟨madeCells (Value.bool false).cells (n * 1), by simp [size_madeCells], ?_, fun W => ?_⟩
  · rw [Nat.mul_one]
    refine (toList_madeCells_one _ _).trans ?_
    apply List.ext_getElem
    · simp [askL]
    · intro i h1 h2; simp [askL]
  · have := run_make (P := Try.prog) W 24 4 i0 (.bool false) Try.underlying24 hi hz0 .i64 .i64 n n (by omega) (Int.le_refl _) (by rw [hz2]; omega) (by omega)
    rw [hz1] at this
    simpa using this

theorem pm321 {α : Type} (a b c : α) (ts : List α) : (a :: b :: c :: ts).Perm (c :: b :: a :: ts) := (List.Perm.swap b a _).trans ((List.Perm.cons b (List.Perm.swap c a _)).trans (List.Perm.swap c b _))
theorem pm312 {α : Type} (a b c : α) (ts : List α) : (a :: b :: c :: ts).Perm (c :: a :: b :: ts) := (List.Perm.cons a (List.Perm.swap c b _)).trans (List.Perm.swap c a _)
theorem pm231 {α : Type} (a b c : α) (ts : List α) : (a :: b :: c :: ts).Perm (b :: c :: a :: ts) := (List.Perm.swap b a _).trans (List.Perm.cons b (List.Perm.swap c a _))
theorem pm132 {α : Type} (a b c : α) (ts : List α) : (a :: b :: c :: ts).Perm (a :: c :: b :: ts) := List.Perm.cons a (List.Perm.swap c b _)
theorem pm213 {α : Type} (a b c : α) (ts : List α) : (a :: b :: c :: ts).Perm (b :: a :: c :: ts) := List.Perm.swap b a _

set_option maxHeartbeats 1600000 in
theorem newGiving_any {n : Nat} (hn : n ≤ 6) (a : Option Addr) (m c : Nat) (w : World) :
    Calls Try.prog 99 #[.agg #[.int .i64 n, .slice a m c]] w (NewPost n (.slice a m c) w) := by
  obtain ⟨MI, hmi1, hmi2, hmI⟩ := make_ints hn
  obtain ⟨MB, hmb1, hmb2, hmB⟩ := make_bools hn
  have OO := Lib.hid (((Own.nil w).box #[.int .i64 n, .slice a m c] 44).box #[.int .i64 0, .slice none 0 0, .slice none 0 0, .slice none 0 0] 96)
  go_enter Try.func99, Try.ntmps99
  go_upto_region 1 with fail
  simp only [World.size_alloc] at OO
  generalize hW : ((w.alloc (.cells #[.int .i64 n, .slice a m c] 44)).alloc (.cells #[.int .i64 0, .slice none 0 0, .slice none 0 0, .slice none 0 0] 96)) = W2 at *
  have b0 := cellsT_cell (OO.out.cells 1 (by simp) rfl) 0
  have b1 := cellsT_cell (OO.out.cells 1 (by simp) rfl) 1
  simp only [List.getElem?_toArray, List.getElem?_cons_zero, List.getElem?_cons_succ] at b0 b1
  have hs2 : W2.heap.size = w.heap.size + 2 := by rw [← hW]; simp
  have hlt0 : w.heap.size < W2.heap.size := by omega
  have hlt1 : w.heap.size < W2.heap.size + 1 := by omega
  have hlt2 : w.heap.size < W2.heap.size + 1 + 1 := by omega
  have HS2 := Lib.hid hs2
  clear hs2 hW
  go_cut [3] from 5 to 12 (fun v wx => ∃ b gd ga, v = .pointer (some ⟨b, 0, none⟩) ∧ Own w [rowT 3 1 (.slice (some ⟨gd, 0, none⟩) n n) n MI.toList, rowT 4 1 (.slice (some ⟨ga, 0, none⟩) n n) n MB.toList, cellsT b #[.int .i64 n, .slice a m c, .slice (some ⟨gd, 0, none⟩) n n, .slice (some ⟨ga, 0, none⟩) n n] 96, cellsT (w.heap.size + 1) #[.int .i64 0, .slice none 0 0, .slice none 0 0, .slice none 0 0] 96, cellsT w.heap.size #[.int .i64 n, .slice a m c] 44] wx)
  case first =>
    have hmx : n ≤ maxLen := by unfold maxLen; omega
    have FIBX : Hid ((fun wx => ∃ b gd ga, Value.pointer (some ⟨(W2.heap.size + 1 + 1), 0, none⟩) = Value.pointer (some ⟨b, 0, none⟩) ∧ Own w [rowT 3 1 (.slice (some ⟨gd, 0, none⟩) n n) n MI.toList, rowT 4 1 (.slice (some ⟨ga, 0, none⟩) n n) n MB.toList, cellsT b #[.int .i64 n, .slice a m c, .slice (some ⟨gd, 0, none⟩) n n, .slice (some ⟨ga, 0, none⟩) n n] 96, cellsT (w.heap.size + 1) #[.int .i64 0, .slice none 0 0, .slice none 0 0, .slice none 0 0] 96, cellsT w.heap.size #[.int .i64 n, .slice a m c] 44] wx) (((W2.alloc (.cells MI 3)).alloc (.cells MB 4)).alloc (.cells #[.int .i64 n, .slice a m c, .slice (some ⟨W2.heap.size, 0, none⟩) n n, .slice (some ⟨(W2.heap.size + 1), 0, none⟩) n n] 96)).drew) := Lib.hid (by
      have h := (((OO.out.lit 3 MI n hmi1 hmx).lit 4 MB n hmb1 hmx).box #[.int .i64 n, .slice a m c, .slice (some ⟨W2.heap.size, 0, none⟩) n n, .slice (some ⟨(W2.heap.size + 1), 0, none⟩) n n] 96).same (grown_drew _ none)
      simp only [World.size_alloc] at h
      exact ⟨_, _, _, rfl, h.perm (pm321 _ _ _ _)⟩)
    have FIXB : Hid ((fun wx => ∃ b gd ga, Value.pointer (some ⟨(W2.heap.size + 1), 0, none⟩) = Value.pointer (some ⟨b, 0, none⟩) ∧ Own w [rowT 3 1 (.slice (some ⟨gd, 0, none⟩) n n) n MI.toList, rowT 4 1 (.slice (some ⟨ga, 0, none⟩) n n) n MB.toList, cellsT b #[.int .i64 n, .slice a m c, .slice (some ⟨gd, 0, none⟩) n n, .slice (some ⟨ga, 0, none⟩) n n] 96, cellsT (w.heap.size + 1) #[.int .i64 0, .slice none 0 0, .slice none 0 0, .slice none 0 0] 96, cellsT w.heap.size #[.int .i64 n, .slice a m c] 44] wx) (((W2.alloc (.cells MI 3)).alloc (.cells #[.int .i64 n, .slice a m c, .slice (some ⟨W2.heap.size, 0, none⟩) n n, .slice (some ⟨(W2.heap.size + 1 + 1), 0, none⟩) n n] 96)).alloc (.cells MB 4)).drew) := Lib.hid (by
      have h := (((OO.out.lit 3 MI n hmi1 hmx).box #[.int .i64 n, .slice a m c, .slice (some ⟨W2.heap.size, 0, none⟩) n n, .slice (some ⟨(W2.heap.size + 1 + 1), 0, none⟩) n n] 96).lit 4 MB n hmb1 hmx).same (grown_drew _ none)
      simp only [World.size_alloc] at h
      exact ⟨_, _, _, rfl, h.perm (pm312 _ _ _ _)⟩)
    have FBIX : Hid ((fun wx => ∃ b gd ga, Value.pointer (some ⟨(W2.heap.size + 1 + 1), 0, none⟩) = Value.pointer (some ⟨b, 0, none⟩) ∧ Own w [rowT 3 1 (.slice (some ⟨gd, 0, none⟩) n n) n MI.toList, rowT 4 1 (.slice (some ⟨ga, 0, none⟩) n n) n MB.toList, cellsT b #[.int .i64 n, .slice a m c, .slice (some ⟨gd, 0, none⟩) n n, .slice (some ⟨ga, 0, none⟩) n n] 96, cellsT (w.heap.size + 1) #[.int .i64 0, .slice none 0 0, .slice none 0 0, .slice none 0 0] 96, cellsT w.heap.size #[.int .i64 n, .slice a m c] 44] wx) (((W2.alloc (.cells MB 4)).alloc (.cells MI 3)).alloc (.cells #[.int .i64 n, .slice a m c, .slice (some ⟨(W2.heap.size + 1), 0, none⟩) n n, .slice (some ⟨W2.heap.size, 0, none⟩) n n] 96)).drew) := Lib.hid (by
      have h := (((OO.out.lit 4 MB n hmb1 hmx).lit 3 MI n hmi1 hmx).box #[.int .i64 n, .slice a m c, .slice (some ⟨(W2.heap.size + 1), 0, none⟩) n n, .slice (some ⟨W2.heap.size, 0, none⟩) n n] 96).same (grown_drew _ none)
      simp only [World.size_alloc] at h
      exact ⟨_, _, _, rfl, h.perm (pm231 _ _ _ _)⟩)
    have FBXI : Hid ((fun wx => ∃ b gd ga, Value.pointer (some ⟨(W2.heap.size + 1), 0, none⟩) = Value.pointer (some ⟨b, 0, none⟩) ∧ Own w [rowT 3 1 (.slice (some ⟨gd, 0, none⟩) n n) n MI.toList, rowT 4 1 (.slice (some ⟨ga, 0, none⟩) n n) n MB.toList, cellsT b #[.int .i64 n, .slice a m c, .slice (some ⟨gd, 0, none⟩) n n, .slice (some ⟨ga, 0, none⟩) n n] 96, cellsT (w.heap.size + 1) #[.int .i64 0, .slice none 0 0, .slice none 0 0, .slice none 0 0] 96, cellsT w.heap.size #[.int .i64 n, .slice a m c] 44] wx) (((W2.alloc (.cells MB 4)).alloc (.cells #[.int .i64 n, .slice a m c, .slice (some ⟨(W2.heap.size + 1 + 1), 0, none⟩) n n, .slice (some ⟨W2.heap.size, 0, none⟩) n n] 96)).alloc (.cells MI 3)).drew) := Lib.hid (by
      have h := (((OO.out.lit 4 MB n hmb1 hmx).box #[.int .i64 n, .slice a m c, .slice (some ⟨(W2.heap.size + 1 + 1), 0, none⟩) n n, .slice (some ⟨W2.heap.size, 0, none⟩) n n] 96).lit 3 MI n hmi1 hmx).same (grown_drew _ none)
      simp only [World.size_alloc] at h
      exact ⟨_, _, _, rfl, h.perm (pm132 _ _ _ _)⟩)
    have FXIB : Hid ((fun wx => ∃ b gd ga, Value.pointer (some ⟨W2.heap.size, 0, none⟩) = Value.pointer (some ⟨b, 0, none⟩) ∧ Own w [rowT 3 1 (.slice (some ⟨gd, 0, none⟩) n n) n MI.toList, rowT 4 1 (.slice (some ⟨ga, 0, none⟩) n n) n MB.toList, cellsT b #[.int .i64 n, .slice a m c, .slice (some ⟨gd, 0, none⟩) n n, .slice (some ⟨ga, 0, none⟩) n n] 96, cellsT (w.heap.size + 1) #[.int .i64 0, .slice none 0 0, .slice none 0 0, .slice none 0 0] 96, cellsT w.heap.size #[.int .i64 n, .slice a m c] 44] wx) (((W2.alloc (.cells #[.int .i64 n, .slice a m c, .slice (some ⟨(W2.heap.size + 1), 0, none⟩) n n, .slice (some ⟨(W2.heap.size + 1 + 1), 0, none⟩) n n] 96)).alloc (.cells MI 3)).alloc (.cells MB 4)).drew) := Lib.hid (by
      have h := (((OO.out.box #[.int .i64 n, .slice a m c, .slice (some ⟨(W2.heap.size + 1), 0, none⟩) n n, .slice (some ⟨(W2.heap.size + 1 + 1), 0, none⟩) n n] 96).lit 3 MI n hmi1 hmx).lit 4 MB n hmb1 hmx).same (grown_drew _ none)
      simp only [World.size_alloc] at h
      exact ⟨_, _, _, rfl, h.perm (pm213 _ _ _ _)⟩)
    have FXBI : Hid ((fun wx => ∃ b gd ga, Value.pointer (some ⟨W2.heap.size, 0, none⟩) = Value.pointer (some ⟨b, 0, none⟩) ∧ Own w [rowT 3 1 (.slice (some ⟨gd, 0, none⟩) n n) n MI.toList, rowT 4 1 (.slice (some ⟨ga, 0, none⟩) n n) n MB.toList, cellsT b #[.int .i64 n, .slice a m c, .slice (some ⟨gd, 0, none⟩) n n, .slice (some ⟨ga, 0, none⟩) n n] 96, cellsT (w.heap.size + 1) #[.int .i64 0, .slice none 0 0, .slice none 0 0, .slice none 0 0] 96, cellsT w.heap.size #[.int .i64 n, .slice a m c] 44] wx) (((W2.alloc (.cells #[.int .i64 n, .slice a m c, .slice (some ⟨(W2.heap.size + 1 + 1), 0, none⟩) n n, .slice (some ⟨(W2.heap.size + 1), 0, none⟩) n n] 96)).alloc (.cells MB 4)).alloc (.cells MI 3)).drew) := Lib.hid (by
      have h := (((OO.out.box #[.int .i64 n, .slice a m c, .slice (some ⟨(W2.heap.size + 1 + 1), 0, none⟩) n n, .slice (some ⟨(W2.heap.size + 1), 0, none⟩) n n] 96).lit 4 MB n hmb1 hmx).lit 3 MI n hmi1 hmx).same (grown_drew _ none)
      simp only [World.size_alloc] at h
      exact ⟨_, _, _, rfl, h⟩)
    clear hmx
    go_region_held3 (fun w' => w'.cell? ⟨w.heap.size, 0, none⟩ = some (.int .i64 n) ∧ w'.cell? ⟨w.heap.size, 1, none⟩ = some (.slice a m c)) (refine ⟨?_, ?_⟩ <;> go_simp) (fail)
    all_goals
      go_wp2_with fail
      go_meet
      first | exact FIBX.out | exact FIXB.out | exact FBIX.out | exact FBXI.out | exact FXIB.out | exact FXBI.out
  case rest =>
    obtain ⟨b, gd, ga, rfl, hO⟩ := hcut
    rw [hmi2, hmb2] at hO
    have O1 := Lib.hid hO
    have e0 := cellsT_cell (hO.cells 2 (by simp) rfl) 0
    have e1 := cellsT_cell (hO.cells 2 (by simp) rfl) 1
    have e2 := cellsT_cell (hO.cells 2 (by simp) rfl) 2
    have e3 := cellsT_cell (hO.cells 2 (by simp) rfl) 3
    simp only [List.getElem?_toArray, List.getElem?_cons_zero, List.getElem?_cons_succ] at e0 e1 e2 e3
    clear hO OO b0 b1 hlt0 hlt1 hlt2 hmI hmB hmi1 hmi2 hmb1 hmb2
    go_wp2_with fail
    clear e0 e1 e2 e3
    rw [← noneTo_zero] at O1
    go_loopw [16] (fun i wr => ∃ k : Nat, k ≤ n ∧ i = .int .i64 k ∧ Own w [rowT 3 1 (.slice (some ⟨gd, 0, none⟩) n n) n ((noneTo n k).map (Value.int .i64)), rowT 4 1 (.slice (some ⟨ga, 0, none⟩) n n) n (askL n 0), cellsT b #[.int .i64 n, .slice a m c, .slice (some ⟨gd, 0, none⟩) n n, .slice (some ⟨ga, 0, none⟩) n n] 96, cellsT (w.heap.size + 1) #[.int .i64 0, .slice none 0 0, .slice none 0 0, .slice none 0 0] 96, cellsT w.heap.size #[.int .i64 n, .slice a m c] 44] wr) (fun i _ => n - (intOf i).toNat)
    case atStart => exact ⟨0, Nat.zero_le _, rfl, O1.out⟩
    case round =>
      obtain ⟨k, hk, rfl, hO⟩ := hrel
      have O2 := Lib.hid hO
      have e0 := cellsT_cell (hO.cells 2 (by simp) rfl) 0
      have e1 := cellsT_cell (hO.cells 2 (by simp) rfl) 1
      have e2 := cellsT_cell (hO.cells 2 (by simp) rfl) 2
      have e3 := cellsT_cell (hO.cells 2 (by simp) rfl) 3
      simp only [List.getElem?_toArray, List.getElem?_cons_zero, List.getElem?_cons_succ] at e0 e1 e2 e3
      by_cases hlt : k < n
      · obtain ⟨z, hz⟩ : ∃ z : Int, wr.cell? ⟨gd, k, none⟩ = some (.int .i64 z) := by
          refine ⟨(noneTo n k)[k]'(by rw [noneTo_length hk]; exact hlt), ?_⟩
          have := (hO.row 0 (by simp) rfl).cellAt k (by omega)
          rw [this]; simp [noneTo_length hk, hlt]
        have hf := (hO.row 0 (by simp) rfl).frozenAt k
        have O3 := Lib.hid (by have h := hO.store (i := 0) (by simp) rfl k (.int .i64 (-1)); simp only [List.set_cons_zero, ← List.map_set, noneTo_step hlt] at h; exact h)
        clear hO
        go_wp2_with fail
        go_roundw
        case rel => exact ⟨k + 1, by omega, by go_num, O3.out⟩
        case measure => simp [intOf]; omega
      · obtain rfl : k = n := by omega
        have r0 := cellsT_cell (hO.cells 3 (by simp) rfl) 0
        have r1 := cellsT_cell (hO.cells 3 (by simp) rfl) 1
        have r2 := cellsT_cell (hO.cells 3 (by simp) rfl) 2
        have r3 := cellsT_cell (hO.cells 3 (by simp) rfl) 3
        simp only [List.getElem?_toArray, List.getElem?_cons_zero, List.getElem?_cons_succ] at r0 r1 r2 r3
        have f0 := cellsT_frozen (hO.cells 3 (by simp) rfl) 0
        have f1 := cellsT_frozen (hO.cells 3 (by simp) rfl) 1
        have f2 := cellsT_frozen (hO.cells 3 (by simp) rfl) 2
        have f3 := cellsT_frozen (hO.cells 3 (by simp) rfl) 3
        rw [noneTo_all] at O2
        clear hO
        go_wp2_with fail
        have hP := (((O2.out.put (i := 3) (by simp) rfl 0 (.int .i64 k)).put (i := 3) (by simp) rfl 1 (.slice a m c)).put (i := 3) (by simp) rfl 2 (.slice (some ⟨gd, 0, none⟩) k k)).put (i := 3) (by simp) rfl 3 (.slice (some ⟨ga, 0, none⟩) k k)
        clear r0 r1 r2 r3 f0 f1 f2 f3 e0 e1 e2 e3
        generalize ((((wr.setCell ⟨w.heap.size + 1, 0, none⟩ (.int .i64 k)).setCell ⟨w.heap.size + 1, 1, none⟩ (.slice a m c)).setCell ⟨w.heap.size + 1, 2, none⟩ (.slice (some ⟨gd, 0, none⟩) k k)).setCell ⟨w.heap.size + 1, 3, none⟩ (.slice (some ⟨ga, 0, none⟩) k k)) = W at *
        have x0 := cellsT_cell (hP.cells 3 (by simp) rfl) 0
        have x1 := cellsT_cell (hP.cells 3 (by simp) rfl) 1
        have x2 := cellsT_cell (hP.cells 3 (by simp) rfl) 2
        have x3 := cellsT_cell (hP.cells 3 (by simp) rfl) 3
        simp at x0 x1 x2 x3
        refine bodyPost_ret (v := .agg #[.int .i64 k, .slice a m c, .slice (some ⟨gd, 0, none⟩) k k, .slice (some ⟨ga, 0, none⟩) k k]) ?_ rfl ⟨gd, ga, rfl, hP.sub (List.Sublist.cons_cons _ (List.Sublist.cons_cons _ (List.nil_sublist _)))⟩
        simp [results, Try.results99, go_sem, x0, x1, x2, x3]
end Go.Proofs.Ythihcnlbohhemaa
