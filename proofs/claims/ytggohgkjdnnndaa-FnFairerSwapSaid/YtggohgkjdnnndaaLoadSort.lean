/- impl.inserted, SortedLoads of the program and of the model: the loads from the greatest one down, in memory of the call's own. No condition. -/
import Derived.Test.YtggohgkjdnnndaaLoadOk
import Derived.Deep.RegionHeld3
import Derived.Deep.AppendLies
namespace Go.Proofs.Ytggohgkjdnnndaa
open Go.RowKit

theorem map_putIn (ys : List Int) (x : Int) (k : Nat) (hk : posD x ys = k) : putIn (ys.map (Value.int .i64)) k (.int .i64 x) = (insD x ys).map (Value.int .i64) := by
  subst hk
  simp [putIn, insD]
theorem insertI_any (v : Value) (ys : List Int) (i : Nat) (x : Int) (vb vc : Nat) (w : World) (h : w.ownsRow 0 3 1 v ys.length (ys.map (Value.int .i64)))
    (hi : i ≤ ys.length) (hl : ys.length ≤ 1000) (hv : w.heap[vb]? = some (.cells #[.int .i64 x] 3 (0, 0))) (hne : v.ownBlock ≠ some vb) (hp : posD x ys = i) :
    Calls Try.prog 90 #[v, .int .i64 i, .slice (some ⟨vb, 0, none⟩) 1 vc] w fun e w' =>
      ∃ g cp, e = .returned (.slice (some ⟨g, 0, none⟩) (ys.length + 1) cp) ∧ w'.ownsRow 0 3 1 (.slice (some ⟨g, 0, none⟩) (ys.length + 1) cp) (ys.length + 1) ((insD x ys).map (Value.int .i64)) ∧
        w.grownBy w' v.ownBlock ∧ (v.ownBlock = some g ∨ g = w.heap.size) := by
  have hlen : (ys.map (Value.int .i64)).length = ys.length := List.length_map _
  refine (insert_any 0 v (ys.map (Value.int .i64)) i (.int .i64 x) vb vc w (by rw [hlen]; exact h) (fun y hy => by obtain ⟨z, _, rfl⟩ := List.mem_map.1 hy; rfl) rfl (by rw [hlen]; exact hi) (by rw [hlen]; exact hl) (Nat.zero_le _) hv hne).mono ?_
  rintro e w' ⟨g, cp, he, ho, hg, hb⟩
  rw [hlen] at he ho
  rw [map_putIn ys x i hp] at ho
  exact ⟨g, cp, he, ho, hg, hb⟩

theorem before_any (a b : Int) (w : World) : Calls Try.prog 88 #[.int .i64 a, .int .i64 b] w fun e w' => e = .returned (.bool (decide (b < a))) ∧ w = w' := by
  by_cases h : b < a
  · go_enter Try.func88, Try.ntmps88
    go_wp2
    go_ret
    exact ⟨by simp [h], rfl⟩
  · go_enter Try.func88, Try.ntmps88
    go_wp2
    go_ret
    exact ⟨by simp [h], rfl⟩

/-- a row of one's own turns into another one -/
theorem Own.turnTo {wB w w1 : World} {ts : List Thing} {i g cp n m : Nat} {e : TypeId} {v : Value} {xs ys : List Value} (h : Own wB ts w) (hi : i < ts.length) (he : ts[i] = rowT e 1 v n xs) (hg : w.grownBy w1 v.ownBlock)
    (ho : w1.ownsRow 0 e 1 (.slice (some ⟨g, 0, none⟩) m cp) m ys) (hat : v.ownBlock = some g ∨ g = w.heap.size) :
    Own wB (ts.set i (rowT e 1 (.slice (some ⟨g, 0, none⟩) m cp) m ys)) w1 := by
  have hlt := h.ap.ltAt i hi
  rw [he] at hlt
  exact ⟨h.keep.grown hg h.size (fun j e => (hlt j e).1), h.ap.turnAt i hi (by rw [he]; exact hg) _ ho h.size
    (fun j e => ⟨by rw [he]; cases e; exact hat.imp id (fun e => Nat.le_of_eq e.symm), (World.ownsRow.lt ho j e).2⟩)⟩
theorem ownsI_slice {w : World} {v : Value} {ys : List Int} (h : w.ownsRow 0 3 1 v ys.length (ys.map (Value.int .i64))) :
    (v = .slice none 0 0 ∧ ys = []) ∨ ∃ g cap, v = .slice (some ⟨g, 0, none⟩) ys.length cap ∧ ys.length ≤ cap ∧ cap ≤ maxLen ∧ g < w.heap.size := by
  have h' := h
  rcases h.2 with ⟨rfl, hn⟩ | ⟨g, cap, cur, rfl, hb, hg, h1, h2, h3, h4⟩
  · exact .inl ⟨rfl, List.eq_nil_of_length_eq_zero hn⟩
  · exact .inr ⟨g, cap, rfl, h1, h2, (World.ownsRow.lt h' g rfl).2⟩

/-- what impl.inserted leaves -/
def InsertedPost (wB : World) (ts : List Thing) (i : Nat) (ys : List Int) (x : Int) (e : Ending) (w' : World) : Prop :=
  ∃ g cp, e = .returned (.slice (some ⟨g, 0, none⟩) (ys.length + 1) cp) ∧ Own wB (ts.set i (rowT 3 1 (.slice (some ⟨g, 0, none⟩) (ys.length + 1) cp) (ys.length + 1) ((insD x ys).map (Value.int .i64)))) w'

set_option maxHeartbeats 1600000 in
theorem inserted_any {wB : World} {ts : List Thing} {i : Nat} {v : Value} (ys : List Int) (x : Int) (w : World) (h : Own wB ts w) (hi : i < ts.length) (he : ts[i] = rowT 3 1 v ys.length (ys.map (Value.int .i64))) (hd : Desc ys) (hl : ys.length ≤ 6) :
    Calls Try.prog 87 #[v, .int .i64 x, .func (.func 88) #[] #[]] w (InsertedPost wB ts i ys x) := by
  have hrow := h.row i hi he
  have hpos : ∀ k, k ≤ ys.length → (∀ j (hj : j < ys.length), k ≤ j → ys[j] < x) → (∀ hk : k - 1 < ys.length, 0 < k → x ≤ ys[k - 1]) → posD x ys = k := fun k hk h1 h2 =>
    posD_eq x ys k hk (fun j hj hjk => Int.le_trans (h2 (by omega) (by omega)) (desc_get hd j (k - 1) hj (by omega) (by omega))) (fun hkl => h1 k hkl (Nat.le_refl _))
  have HP := Lib.hid hpos
  clear hpos
  have HIN : Hid (∀ k, k ≤ ys.length → posD x ys = k → Calls Try.prog 90 #[v, .int .i64 k, .slice (some ⟨w.heap.size, 0, none⟩) 1 1] (w.alloc (.cells #[.int .i64 x] 3)) (InsertedPost wB ts i ys x)) := by
    have : ∀ k, k ≤ ys.length → posD x ys = k → Calls Try.prog 90 #[v, .int .i64 k, .slice (some ⟨w.heap.size, 0, none⟩) 1 1] (w.alloc (.cells #[.int .i64 x] 3)) (InsertedPost wB ts i ys x) := fun k hk hp => by
      have h1 := h.alloc (.cells #[.int .i64 x] 3)
      refine (insertI_any v ys k x w.heap.size 1 _ (h1.row i hi he) hk (by omega) (heap_alloc_new w _) ?_ hp).mono ?_
      · intro e
        have := (World.ownsRow.lt hrow _ e).2
        omega
      · rintro e w' ⟨g, cp, he', ho, hg, hb⟩
        exact ⟨g, cp, he', h1.turnTo hi he hg ho hb⟩
    exact Lib.hid this
  rcases ownsI_slice hrow with ⟨rfl, rfl⟩ | ⟨g, cap, rfl, hc1, hc2, hgl⟩
  · have HI0 := Lib.hid (HIN.out 0 (Nat.le_refl _) rfl)
    clear HIN HP hrow
    go_enter Try.func87, Try.ntmps87
    go_wp2
    go_loop [7] (fun i => i = .int .i64 0) (fun _ => 0)
    case atStart => rfl
    case round =>
      subst hrel
      go_wp2_with (go_at_call 90; refine HI0.out.mono ?_; rintro e w' ⟨g, cp, rfl, ho⟩)
      go_ret
      exact ⟨g, cp, rfl, ho⟩
  · have hcl := hrow.cellAt
    have HCL : Hid (∀ j (hj : j < ys.length), w.cell? ⟨g, j, none⟩ = some (.int .i64 ys[j])) := by
      have : ∀ j (hj : j < ys.length), w.cell? ⟨g, j, none⟩ = some (.int .i64 ys[j]) := fun j hj => by rw [hcl j (by omega)]; simp [hj]
      exact Lib.hid this
    unfold maxLen at hc2
    clear hcl hrow he
    go_enter Try.func87, Try.ntmps87
    go_wp2
    go_loop [7] (fun i => ∃ k : Nat, k ≤ ys.length ∧ i = .int .i64 k ∧ ∀ j (hj : j < ys.length), k ≤ j → ys[j] < x) (fun i => (intOf i).toNat)
    case atStart => exact ⟨ys.length, Nat.le_refl _, rfl, fun j hj hk => by omega⟩
    case round =>
      obtain ⟨k, hk, rfl, hall⟩ := hrel
      have HALL := Lib.hid hall
      clear hall
      by_cases h0 : 0 < k
      · have hcell : w.cell? ⟨g, k - 1, none⟩ = _ := HCL.out (k - 1) (by omega)
        have e1 : ((k : Int) - 1) = ((k - 1 : Nat) : Int) := by omega
        have hlt : k - 1 < ys.length := by omega
        by_cases hb : ys[k - 1] < x
        · have HN : Hid (∀ j (hj : j < ys.length), k - 1 ≤ j → ys[j] < x) := by
            have : ∀ j (hj : j < ys.length), k - 1 ≤ j → ys[j] < x := fun j hj hkj => by
              by_cases e : j = k - 1
              · subst e; exact hb
              · exact HALL.out j hj (by omega)
            exact Lib.hid this
          generalize ys[k - 1] = c at hcell hb
          go_wp2_with (go_at_call 88; refine (before_any _ _ _).mono ?_; rintro e w' ⟨rfl, rfl⟩)
          go_round
          case rel => exact ⟨k - 1, by omega, by go_num, HN.out⟩
          case measure => simp [intOf]; omega
        · have HI0 := Lib.hid (HIN.out k hk (HP.out k hk HALL.out (fun _ _ => by omega)))
          generalize ys[k - 1] = c at hcell hb
          go_wp2_with (first | (go_at_call 88; refine (before_any _ _ _).mono ?_; rintro e w' ⟨rfl, rfl⟩) | (go_at_call 90; refine HI0.out.mono ?_; rintro e w' ⟨g, cp, rfl, ho⟩))
          go_ret
          exact ⟨g, cp, rfl, ho⟩
      · obtain rfl : k = 0 := by omega
        have HI0 := Lib.hid (HIN.out 0 hk (HP.out 0 hk HALL.out (fun _ h => by omega)))
        go_wp2_with (go_at_call 90; refine HI0.out.mono ?_; rintro e w' ⟨g, cp, rfl, ho⟩)
        go_ret
        exact ⟨g, cp, rfl, ho⟩
end Go.Proofs.Ytggohgkjdnnndaa
