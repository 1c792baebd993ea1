/- slices.Insert of one number into a row of one's own; impl.inserted with the comparison that it is called with. No condition. -/
import Derived.Test.YtggohgkjdnnndaaShelfL
import Derived.Test.YtggohgkjdnnndaaLoadMath
import Derived.Test.YtggohgkjdnnndaaOwnD
import Derived.Test.YtggohgkjdnnndaaCopies
import Derived.Deep.QuietTactic
import Derived.BigQuiet
namespace Go.Proofs.Ytggohgkjdnnndaa
open Go.RowKit

/-- cells put one behind the other from a place on -/
def putMany (cs : Array Value) : Nat → List Value → Array Value
  | _, [] => cs
  | o, v :: r => putMany (cs.setIfInBounds o v) (o + 1) r
theorem putMany_size (vs : List Value) : ∀ (cs : Array Value) (o : Nat), (putMany cs o vs).size = cs.size := by
  induction vs with
  | nil => intro cs o; rfl
  | cons v r ih => intro cs o; rw [putMany, ih, Array.size_setIfInBounds]
theorem putMany_get (vs : List Value) : ∀ (cs : Array Value) (o j : Nat), o + vs.length ≤ cs.size → (putMany cs o vs)[j]? = if o ≤ j ∧ j < o + vs.length then vs[j - o]? else cs[j]? := by
  induction vs with
  | nil => intro cs o j _; simp only [putMany, List.length_nil]; rw [if_neg (by omega)]
  | cons v r ih =>
    intro cs o j h
    simp only [List.length_cons] at h ⊢
    rw [putMany, ih _ _ _ (by rw [Array.size_setIfInBounds]; omega)]
    by_cases h1 : j = o
    · subst h1
      rw [if_neg (by omega), if_pos (by omega), Array.getElem?_setIfInBounds]
      simp; omega
    · by_cases h2 : o + 1 ≤ j ∧ j < o + 1 + r.length
      · rw [if_pos h2, if_pos (by omega), show j - o = (j - (o + 1)) + 1 by omega, List.getElem?_cons_succ]
      · rw [if_neg h2, if_neg (by omega), Array.getElem?_setIfInBounds, if_neg (by omega)]
theorem heap_setCells (vs : List Value) : ∀ (w : World) (b o : Nat) (cs : Array Value) (t : TypeId), w.heap[b]? = some (.cells cs t (0, 0)) → (w.setCells b o vs).heap[b]? = some (.cells (putMany cs o vs) t (0, 0)) := by
  induction vs with
  | nil => intro w b o cs t h; exact h
  | cons v r ih => intro w b o cs t h; rw [World.setCells, putMany]; exact ih _ _ _ _ _ (heap_setCell_same w b o cs t v h)
theorem grown_setCells (vs : List Value) : ∀ (w : World) (b o : Nat), w.grownBy (w.setCells b o vs) (some b) := by
  induction vs with
  | nil => intro w b o; exact grown_self w _
  | cons v r ih =>
    intro w b o
    rw [World.setCells]
    have h1 := grown_setCell w b o v
    have h2 := ih (w.setCell ⟨b, o, none⟩ v) b (o + 1)
    exact ⟨h2.os.trans h1.os, h2.tape.trans h1.tape, h2.output.trans h1.output, Nat.le_trans h1.size h2.size, fun i hi hr => (h2.block i (Nat.lt_of_lt_of_le hi h1.size) hr).trans (h1.block i hi hr)⟩
theorem grown_then {a b c : World} {row : Option Nat} (h : a.grownBy b row) (k : b.grownBy c row) : a.grownBy c row :=
  ⟨k.os.trans h.os, k.tape.trans h.tape, k.output.trans h.output, Nat.le_trans h.size k.size, fun i hi hr => (k.block i (Nat.lt_of_lt_of_le hi h.size) hr).trans (h.block i hi hr)⟩

/-- a list with one more at a place -/
def putIn (ys : List Value) (i : Nat) (x : Value) : List Value := ys.take i ++ x :: ys.drop i
theorem putIn_length (ys : List Value) (i : Nat) (x : Value) (h : i ≤ ys.length) : (putIn ys i x).length = ys.length + 1 := by
  rw [putIn, List.length_append, List.length_take, List.length_cons, List.length_drop]; omega
theorem putIn_get (ys : List Value) (i : Nat) (x : Value) (h : i ≤ ys.length) (j : Nat) : (putIn ys i x)[j]? = if j < i then ys[j]? else if j = i then some x else ys[j - 1]? := by
  have hl : (ys.take i).length = i := by rw [List.length_take]; omega
  unfold putIn
  by_cases h1 : j < i
  · rw [if_pos h1, List.getElem?_append_left (by omega), List.getElem?_take, if_pos h1]
  · rw [if_neg h1, List.getElem?_append_right (by omega), hl]
    by_cases h2 : j = i
    · subst h2; simp
    · rw [if_neg h2, show j - i = (j - 1 - i) + 1 by omega, List.getElem?_cons_succ, List.getElem?_drop]
      congr 1; omega

/-- what slices.Insert leaves: the row with one more, in its own block or in a new one -/
def InsPost (base : Nat) (v : Value) (ys : List Value) (i : Nat) (x : Value) (w : World) (e : Ending) (w' : World) : Prop :=
  ∃ g cp, e = .returned (.slice (some ⟨g, 0, none⟩) (ys.length + 1) cp) ∧ w'.ownsRow base 3 1 (.slice (some ⟨g, 0, none⟩) (ys.length + 1) cp) (ys.length + 1) (putIn ys i x) ∧
    w.grownBy w' v.ownBlock ∧ (v.ownBlock = some g ∨ g = w.heap.size)

theorem insert_any (base : Nat) (v : Value) (ys : List Value) (i : Nat) (x : Value) (vb vc : Nat) (w : World) (h : w.ownsRow base 3 1 v ys.length ys) (h1 : ∀ y ∈ ys, y.oneCell' = true) (hx : x.oneCell' = true)
    (hi : i ≤ ys.length) (hl : ys.length ≤ 1000) (hb : base ≤ w.heap.size) (hv : w.heap[vb]? = some (.cells #[x] 3 (0, 0))) (hne : v.ownBlock ≠ some vb) :
    Calls Try.prog 90 #[v, .int .i64 i, .slice (some ⟨vb, 0, none⟩) 1 vc] w (InsPost base v ys i x w) := by
  have hvs : ∀ j u, [x][j]? = some u → w.cell? ⟨vb, 0 + j, none⟩ = some u := fun j u hj => by
    rw [Nat.zero_add, cell_of_row w vb j #[x] _ (0, 0) hv]
    simpa using hj
  have h1v : ∀ u ∈ [x], u.oneCell' = true := fun u hu => by rw [List.mem_singleton.1 hu]; exact hx
  have hm : ys.length + 1 ≤ maxLen := by unfold maxLen; omega
  have hρ : shInsert_ren.t 3 = 3 := rfl
  have hcs : ∀ (g : Nat) (cap : Nat) (cur : Array Value), w.heap[g]? = some (.cells cur 3 (0, 0)) → cur.size = cap * 1 → ys.length ≤ cap → cur.toList.take (ys.length * 1) = ys → ∀ j, j < ys.length → cur[j]? = ys[j]? := by
    intro g cap cur hg hs hc ht j hj
    rw [← ht, List.getElem?_take, if_pos (by rw [Nat.mul_one]; exact hj), Array.getElem?_toList]
  have hfrz : ∀ b k, w.heap[b]? = some (.cells k 3 (0, 0)) → ∀ j, w.frozen? ⟨b, j, none⟩ = false := fun b k hk j => frozen_of_row w b j k _ hk
  have htake : ∀ (cur : Array Value), ys.length + 1 ≤ cur.size → (∀ j, j < ys.length + 1 → cur[j]? = (putIn ys i x)[j]?) → cur.toList.take ((ys.length + 1) * 1) = putIn ys i x := by
    intro cur hs he
    apply List.ext_getElem?
    intro j
    rw [List.getElem?_take, Nat.mul_one]
    by_cases hj : j < ys.length + 1
    · rw [if_pos hj, Array.getElem?_toList]; exact he j hj
    · rw [if_neg hj, List.getElem?_eq_none (by rw [putIn_length _ _ _ hi]; omega)]
  have hpl := putIn_length ys i x hi
  rcases h.2 with ⟨rfl, hn⟩ | ⟨g, cap, cur, rfl, hbg, hg, hnc, hcm, hsz, htk⟩
  · obtain rfl : ys = [] := List.eq_nil_of_length_eq_zero hn
    obtain rfl : i = 0 := by simpa using hi
    refine (Any2.slices_Insert_int_end_grow shInsert_lays none 0 0 vb 0 1 vc [] [x] w (by omega) (by omega) (by omega) (by omega) rfl rfl (fun _ => rfl) (fun _ e => by cases e) hvs h1v).mono ?_
    rintro e w' ⟨rfl, rfl⟩
    rw [hρ]
    have hc1 := grownCap_ge w (0 + 1) 0 3
    have hc2 := grownCap_le_maxLen w (0 + 1) 0 3 (by unfold maxLen; omega)
    generalize grownCap w (0 + 1) 0 3 = cc at hc1 hc2 ⊢
    refine ⟨w.heap.size, cc, rfl, ⟨by simp [putIn], .inr ⟨_, _, _, rfl, hb, heap_alloc_new w.drew _, hc1, hc2, ?_, ?_⟩⟩, grown_then (grown_drew w _) (World.grownBy_alloc w.drew _ _), .inr rfl⟩
    · rw [Array.size_append, size_zeroCells]
      simp [Value.cells]
      omega
    · apply List.ext_getElem?
      intro j
      rw [List.getElem?_take]
      cases j with
      | zero => simp [putIn]
      | succ j => simp [putIn]
  · have hcell : ∀ j u, ys[j]? = some u → w.cell? ⟨g, 0 + j, none⟩ = some u := fun j u hj => by
      have hjl : j < ys.length := by
        rcases Nat.lt_or_ge j ys.length with h | h
        · exact h
        · rw [List.getElem?_eq_none h] at hj; cases hj
      rw [Nat.zero_add, cell_of_row w g j cur _ (0, 0) hg, hcs g cap cur hg hsz hnc htk j hjl]; exact hj
    have hgvb : vb ≠ g := fun e => hne (by rw [e]; rfl)
    have hsp : ∀ j, j < cap → (w.cell? ⟨g, 0 + j, none⟩).isSome = true := fun j hj => by
      rw [Nat.zero_add, cell_of_row w g j cur _ (0, 0) hg]
      simp; omega
    have hold := hcs g cap cur hg hsz hnc htk
    have hgl : g < w.heap.size := by
      rcases Nat.lt_or_ge g w.heap.size with h | h
      · exact h
      · rw [Array.getElem?_eq_none h] at hg; cases hg
    unfold maxLen at hcm
    by_cases hin : i < ys.length
    · by_cases hroom : ys.length + 1 ≤ cap
      · refine (Any2.slices_Insert_int_shift shInsert_lays g 0 ys.length cap i vb 0 1 vc ys [x] w hin (by omega) hroom (by omega) hgvb rfl rfl hcell (fun j hj => hsp j (by omega)) (fun j _ => by rw [Nat.zero_add]; exact hfrz g cur hg j) hvs h1 h1v 3 3 1 cur.size (by simp [World.shape?, hv]) (by simp [World.shape?, hg]) (by omega) (hfrz vb _ hv 0) (hfrz vb _ hv 1)).mono ?_
        rintro e w' ⟨rfl, rfl⟩
        have hg1 : w.drew.heap[g]? = some (.cells cur 3 (0, 0)) := hg
        have hg2 := heap_setCells (ys.drop i) w.drew g (0 + (i + 1)) cur _ hg1
        have hg3 := heap_setCells [x] _ g (0 + i) _ _ hg2
        refine ⟨g, cap, rfl, ⟨by rw [hpl, Nat.mul_one], .inr ⟨g, cap, _, rfl, hbg, hg3, hroom, by unfold maxLen; omega, by rw [putMany_size, putMany_size]; exact hsz, htake _ (by rw [putMany_size, putMany_size]; omega) ?_⟩⟩, grown_then (grown_drew w _) (grown_then (grown_setCells (ys.drop i) w.drew g _) (grown_setCells [x] _ g _)), .inl rfl⟩
        intro j hj
        rw [putMany_get _ _ _ _ (by rw [putMany_size]; simp; omega), putMany_get _ _ _ _ (by rw [List.length_drop]; omega), putIn_get _ _ _ hi]
        simp only [List.length_singleton, List.length_drop, Nat.zero_add]
        by_cases e1 : j < i
        · rw [if_neg (by omega), if_neg (by omega), if_pos e1]; exact hold j (by omega)
        · by_cases e2 : j = i
          · subst e2; rw [if_pos (by omega), if_neg (by omega), if_pos rfl]; simp
          · rw [if_neg (by omega), if_pos (by omega), if_neg e1, if_neg e2, List.getElem?_drop]
            congr 1; omega
      · refine (Any2.slices_Insert_int_grow shInsert_lays g 0 ys.length cap i vb 0 1 vc ys [x] w hin (by omega) hnc (by omega) (by omega) rfl rfl hcell hvs h1 h1v).mono ?_
        rintro e w' ⟨rfl, rfl⟩
        rw [hρ]
        have hc1 := grownCap_ge w (ys.length + 1) cap 3
        have hc2 := grownCap_le_maxLen w (ys.length + 1) cap 3 hm
        generalize grownCap w (ys.length + 1) cap 3 = cc at hc1 hc2 ⊢
        generalize hrow : (ys.take i).toArray ++ Builtin.zeroCells (Value.int .i64 0).cells (ys.length + 1 - i) ++ Builtin.zeroCells (Value.int .i64 0).cells (cc - (ys.length + 1)) = row
        have hrs : row.size = cc := by
          rw [← hrow, Array.size_append, Array.size_append, size_zeroCells, size_zeroCells]
          simp [Value.cells]
          omega
        have hrg : ∀ j, j < i → row[j]? = ys[j]? := fun j hj => by
          rw [← hrow, Array.getElem?_append_left (by rw [Array.size_append]; simp; omega), Array.getElem?_append_left (by simp; omega), List.getElem?_toArray, List.getElem?_take, if_pos hj]
        have hg0 := heap_alloc_new w (.cells row 3)
        have hg1 : (w.alloc (.cells row 3)).drew.heap[w.heap.size]? = some (.cells row 3 (0, 0)) := hg0
        have hg2 := heap_setCells [x] (w.alloc (.cells row 3)).drew w.heap.size i row _ hg1
        have hg3 := heap_setCells (ys.drop i) (((w.alloc (.cells row 3)).drew.setCells w.heap.size i [x]).drew) w.heap.size (i + 1) _ _ hg2
        refine ⟨w.heap.size, cc, rfl, ⟨by rw [hpl, Nat.mul_one], .inr ⟨_, cc, _, rfl, hb, hg3, hc1, hc2, by rw [putMany_size, putMany_size, Nat.mul_one]; exact hrs, htake _ (by rw [putMany_size, putMany_size]; omega) ?_⟩⟩, ?_, .inr rfl⟩
        · intro j hj
          rw [putMany_get _ _ _ _ (by rw [putMany_size, List.length_drop]; omega), putMany_get _ _ _ _ (by simp; omega), putIn_get _ _ _ hi]
          simp only [List.length_singleton, List.length_drop]
          by_cases e1 : j < i
          · rw [if_neg (by omega), if_neg (by omega), if_pos e1]; exact hrg j e1
          · by_cases e2 : j = i
            · subst e2; rw [if_neg (by omega), if_pos (by omega), if_neg e1, if_pos rfl]; simp
            · rw [if_pos (by omega), if_neg e1, if_neg e2, List.getElem?_drop]
              congr 1; omega
        · have a1 := World.grownBy_alloc w (.cells row 3) none
          have a2 := (grown_setCells [x] (w.alloc (.cells row 3)).drew w.heap.size i)
          have a3 := (grown_setCells (ys.drop i) (((w.alloc (.cells row 3)).drew.setCells w.heap.size i [x]).drew) w.heap.size (i + 1))
          refine ⟨a3.os.trans (a2.os.trans a1.os), a3.tape.trans (a2.tape.trans a1.tape), a3.output.trans (a2.output.trans a1.output), Nat.le_trans a1.size (Nat.le_trans a2.size a3.size), fun k hk _ => ?_⟩
          have k1 : some k ≠ some w.heap.size := fun e => by cases e; omega
          have k2 : k < (w.alloc (.cells row 3)).drew.heap.size := Nat.lt_of_lt_of_le hk a1.size
          exact (a3.block k (Nat.lt_of_lt_of_le k2 a2.size) k1).trans ((a2.block k k2 k1).trans (a1.block k hk (fun e => by cases e)))
    · obtain rfl : i = ys.length := by omega
      by_cases hroom : ys.length + 1 ≤ cap
      · refine (Any2.slices_Insert_int_end_room shInsert_lays g 0 ys.length cap vb 0 1 vc [x] w (by omega) hroom (by omega) rfl (fun j hj => by have := hsp (ys.length + j) (by omega); rwa [← Nat.add_assoc] at this) (fun j _ => hfrz g cur hg _) hvs h1v).mono ?_
        rintro e w' ⟨rfl, rfl⟩
        have hg3 := heap_setCells [x] w g (0 + ys.length) cur _ hg
        refine ⟨g, cap, rfl, ⟨by rw [hpl, Nat.mul_one], .inr ⟨g, cap, _, rfl, hbg, hg3, hroom, by unfold maxLen; omega, by rw [putMany_size]; exact hsz, htake _ (by rw [putMany_size]; omega) ?_⟩⟩, grown_setCells [x] w g _, .inl rfl⟩
        intro j hj
        rw [putMany_get _ _ _ _ (by simp; omega), putIn_get _ _ _ hi]
        simp only [List.length_singleton, Nat.zero_add]
        by_cases e1 : j < ys.length
        · rw [if_neg (by omega), if_pos e1]; exact hold j e1
        · obtain rfl : j = ys.length := by omega
          rw [if_pos (by omega), if_neg e1, if_pos rfl]; simp
      · refine (Any2.slices_Insert_int_end_grow shInsert_lays (some ⟨g, 0, none⟩) ys.length cap vb 0 1 vc ys [x] w (by omega) hnc (by omega) (by omega) rfl rfl (fun e => by cases e) (fun a e j u hj => by cases e; rw [Addr.add_lit]; exact hcell j u hj) hvs h1v).mono ?_
        rintro e w' ⟨rfl, rfl⟩
        rw [hρ]
        have hc1 := grownCap_ge w (ys.length + 1) cap 3
        have hc2 := grownCap_le_maxLen w (ys.length + 1) cap 3 hm
        generalize grownCap w (ys.length + 1) cap 3 = cc at hc1 hc2 ⊢
        have hrow : putIn ys ys.length x = ys ++ [x] := by simp [putIn]
        refine ⟨w.heap.size, cc, rfl, ⟨by rw [hpl, Nat.mul_one], .inr ⟨_, cc, _, rfl, hb, heap_alloc_new w.drew _, hc1, hc2, ?_, ?_⟩⟩, grown_then (grown_drew w _) (World.grownBy_alloc w.drew _ _), .inr rfl⟩
        · rw [Array.size_append, size_zeroCells]
          simp [Value.cells]
          omega
        · rw [hrow, Array.toList_append, List.take_append_of_le_length (by simp), List.take_of_length_le (by simp)]
end Go.Proofs.Ytggohgkjdnnndaa
