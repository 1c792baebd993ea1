/- spec.RunsOf: what it returns, for every text. -/
import Derived.Test.YtlbblfbiiceofaaRunsOf
namespace Go.Proofs.Ytlbblfbiiceofaa
open Go.RowKit

theorem snocRun_last (xs : List (UInt8 × Nat)) (c : UInt8) : ∃ ys n, snocRun xs c = ys ++ [(c, n)] := by
  rcases snocRun_cases xs c with ⟨ys, n, _, h⟩ | ⟨h, _⟩
  · exact ⟨ys, n + 1, h⟩
  · exact ⟨xs, 1, h⟩
theorem runsTo_last (s : ByteArray) (k : Nat) (h : k < s.size) : ∃ ys n, runsTo s (k + 1) = ys ++ [(s[k], n)] := by
  rw [runsTo_succ s k h]; exact snocRun_last _ _
theorem le_sum_mem : ∀ (l : List Nat) (n : Nat), n ∈ l → n ≤ l.sum
  | a :: l, n, h => by
    rcases List.mem_cons.1 h with rfl | h
    · simp
    · have := le_sum_mem l n h
      simp; omega
theorem runsTo_sum (s : ByteArray) (k : Nat) : ∀ p ∈ runsTo s k, p.2 ≤ k := by
  intro p hp
  have h1 := runsL_sum (s.data.toList.take k)
  have h2 : p.2 ≤ ((runsTo s k).map (·.2)).sum := le_sum_mem _ _ (List.mem_map.2 ⟨p, hp, rfl⟩)
  have h4 : (s.data.toList.take k).length ≤ k := List.length_take_le _ _
  unfold runsTo at *
  omega
theorem nums_runsTo_length (s : ByteArray) (k : Nat) : (nums (runsTo s k)).length ≤ k := by
  rw [nums_length]
  exact Nat.le_trans (runsL_length _) (List.length_take_le _ _)

theorem index_pred (s : ByteArray) (k : Nat) (hk : 0 < k) (h : k - 1 < s.size) (w : World) :
    (Instr.index 9 (.string s) (.int .i64 ((k : Int) - 1))).run Try.prog w = .ok (.int .u8 (s[k - 1].toNat : Int)) w := by
  have e : ((k : Int) - 1) = ((k - 1 : Nat) : Int) := by omega
  rw [e]
  go_simp

theorem ownsRow_drewN {w : World} {base : Nat} {e : TypeId} {size : Nat} {v : Value} {n : Nat} {xs : List Value} (h : w.ownsRow base e size v n xs) (k : Nat) : (w.drewN k).ownsRow base e size v n xs := h

set_option maxHeartbeats 1600000 in
theorem specRunsOf_yes (s : ByteArray) (w : World) (hw : wordOk s = true) :
    Calls Try.prog 112 #[.string s] w (IntsPost (nums (runsL s.data.toList)) w) := by
  have h14 := wordOk_size hw
  have hsm : s.size ≤ maxLen := by unfold maxLen; omega
  obtain ⟨i0, hi, hz0, hz1, hz2⟩ := info_parts infoInt
  have HI := Lib.hid hi
  have HZ0 := Lib.hid hz0
  have HZ1 := Lib.hid hz1
  have HZ2 := Lib.hid hz2
  clear hi hz0 hz1 hz2
  have H0 := Lib.hid (World.ownsRow_lit (base := w.heap.size) (e := 3) (size := 1) w #[] 0 (Nat.le_refl _) (Nat.zero_le _) rfl)
  go_enter Try.func112, Try.ntmps112
  go_wp2
  go_loopw [3, 4, 5] (fun o i _ wr => ∃ k : Nat, k ≤ s.size ∧ i = .int .i64 k ∧ wr.ownsRow w.heap.size 3 1 o (nums (runsTo s k)).length ((nums (runsTo s k)).map (Value.int .i64)) ∧ Below w.heap.size w wr) (fun _ i _ _ => s.size - (intOf i).toNat)
  case atStart => exact ⟨0, Nat.zero_le _, rfl, H0.out, (Below.refl _ _).alloc (Nat.le_refl _) _⟩
  case round =>
    obtain ⟨k, hk, rfl, hown, hbel⟩ := hrel
    by_cases hlt : k < s.size
    · by_cases hk0 : k = 0
      · subst hk0
        have HS : Hid (nums (runsTo s (0 + 1)) = nums (runsTo s 0) ++ [1]) := by
          have : nums (runsTo s (0 + 1)) = nums (runsTo s 0) ++ [1] := by rw [runsTo_succ s 0 hlt, snocRun_new _ _ (fun d n h => by cases h), nums_snoc]; rfl
          exact Lib.hid this
        have hln := nums_runsTo_length s 0
        go_wp2_with (go_at_call 58; refine (specWordOk_any _ _ hsm).mono ?_; rintro e w' ⟨rfl, rfl⟩)
        go_quiet (fail)
        go_wp2_with (at_builtin; refine wpList_append_own _ rfl _ _ 113 rfl w.heap.size 3 i0 (.int .i64 0) 1 8 Try.underlying113 HI.out HZ0.out HZ1.out HZ2.out rfl (by decide) _ _ _ rfl ((ownsRow_drewN hown _).alloc _) ⟨wr.heap.size, 0, none⟩ 1 1 [.int .i64 1] rfl rfl (cell_one_new _ _ _) (by simp [Value.oneCell']) (by unfold maxLen; omega) (by omega) (by have := hbel.size; simp; omega) ?_; intro v' w1 hown' hgrow _)
        go_roundw
        case rel => exact ⟨0 + 1, hlt, by go_num, by rw [HS.out, List.length_append, List.map_append]; exact hown', (((below_drewN hbel _).alloc (by have := hbel.size; simp; omega) _).grown hgrow (by have := hbel.size; simp; omega) (fun k e => (hown.lt k e).1))⟩
        case measure => simp [intOf]; omega
      · have hjt : k - 1 < s.size := by omega
        have hkp : 0 < k := by omega
        obtain ⟨ys, n, hys⟩ := runsTo_last s (k - 1) hjt
        rw [Nat.sub_add_cancel hkp] at hys
        by_cases hb : s[k] = s[k - 1]
        · have hb' : ((s[k].toNat : Int) == (s[k - 1].toNat : Int)) = true := by rw [u8_beq]; simpa using hb
          have HS : Hid (nums (runsTo s (k + 1)) = nums ys ++ [(n : Int) + 1]) := by
            have : nums (runsTo s (k + 1)) = nums ys ++ [(n : Int) + 1] := by
              rw [runsTo_succ s k hlt, hys, hb, snocRun_same, nums_snoc]; rfl
            exact Lib.hid this
          have hn14 : n ≤ 14 := by
            have := runsTo_sum s k (s[k - 1], n) (by rw [hys]; exact List.mem_append.2 (.inr (by simp)))
            simp only at this
            omega
          have hown2 : wr.ownsRow w.heap.size 3 1 u3 ((nums ys).length + 1) ((nums ys).map (Value.int .i64) ++ [.int .i64 (n : Int)]) := by
            rw [hys, nums_snoc, List.length_append, List.map_append] at hown
            exact hown
          have hyl : (nums ys).length ≤ 14 := by
            have := nums_runsTo_length s k
            rw [hys, nums_snoc, List.length_append] at this
            simp at this
            omega
          obtain ⟨g, cap, rfl⟩ := ownsRow_succ hown2
          have hgl := hown2.lt g rfl
          have hcap : (nums ys).length + 1 ≤ cap := by
            rcases hown2.2 with ⟨h, _⟩ | ⟨g', cap', cur, h, _, _, h4, _⟩
            · cases h
            · cases h; exact h4
          have hcell : wr.cell? ⟨g, (nums ys).length, none⟩ = some (.int .i64 (n : Int)) := by
            rw [hown2.cellAt (nums ys).length (by omega)]
            simp
          have hfr := hown2.frozenAt (nums ys).length
          have hst := (hown2.stored (nums ys).length (.int .i64 ((n : Int) + 1)))
          have hset : ((nums ys).map (Value.int .i64) ++ [Value.int .i64 (n : Int)]).set (nums ys).length (Value.int .i64 ((n : Int) + 1)) = (nums ys).map (Value.int .i64) ++ [Value.int .i64 ((n : Int) + 1)] := by
            rw [List.set_append_right _ _ (by simp)]; simp
          rw [hset] at hst
          have HST := Lib.hid hst
          have HB := Lib.hid hb
          have HO := Lib.hid hown2
          clear hb hys hown hst hset hown2
          generalize hLL : (nums ys).length = L at *
          have HL := Lib.hid hLL
          clear hLL
          go_wp2_with (go_at_call 58; refine (specWordOk_any _ _ hsm).mono ?_; rintro e w' ⟨rfl, rfl⟩)
          have hq2 : (0 : Int) ≤ (k : Int) - 1 := by omega
          have hq4 : (k : Int) - 1 < s.size := by omega
          have hq3 : ((k : Int) - 1).toNat = k - 1 := by omega
          have hq1 : IntKind.i64.wrap ((k : Int) - 1) = (k : Int) - 1 := IntWalk.i64_in _ (by omega)
          have hix := fun w => index_pred s k hkp hjt w
          go_quiet (fail)
          clear hq1 hq2 hq3 hq4 hix
          go_wp2
          go_roundw
          case rel =>
            refine ⟨k + 1, hlt, by go_num, ?_, (below_drewN hbel _).setCell (p := ⟨g, L, none⟩) hgl.1 _⟩
            rw [HS.out, List.length_append, List.map_append, HL.out]
            exact HST.out.1
          case measure => simp [intOf]; omega
        · have hb' : ((s[k].toNat : Int) == (s[k - 1].toNat : Int)) = false := by rw [u8_beq]; simpa using hb
          have HS : Hid (nums (runsTo s (k + 1)) = nums (runsTo s k) ++ [1]) := by
            have : nums (runsTo s (k + 1)) = nums (runsTo s k) ++ [1] := by rw [runsTo_succ s k hlt, snocRun_new _ _ (fun d n' h => by rw [hys] at h; simp at h; rw [← h.1]; exact fun h' => hb h'.symm), nums_snoc]; rfl
            exact Lib.hid this
          have HB := Lib.hid hb
          have HY := Lib.hid hys
          clear hb hys
          have hln := nums_runsTo_length s k
          go_wp2_with (go_at_call 58; refine (specWordOk_any _ _ hsm).mono ?_; rintro e w' ⟨rfl, rfl⟩)
          have hq2 : (0 : Int) ≤ (k : Int) - 1 := by omega
          have hq4 : (k : Int) - 1 < s.size := by omega
          have hq3 : ((k : Int) - 1).toNat = k - 1 := by omega
          have hq1 : IntKind.i64.wrap ((k : Int) - 1) = (k : Int) - 1 := IntWalk.i64_in _ (by omega)
          have hix := fun w => index_pred s k hkp hjt w
          go_quiet (fail)
          clear hq1 hq2 hq3 hq4 hix
          go_wp2_with (at_builtin; refine wpList_append_own _ rfl _ _ 113 rfl w.heap.size 3 i0 (.int .i64 0) 1 8 Try.underlying113 HI.out HZ0.out HZ1.out HZ2.out rfl (by decide) _ _ _ rfl ((ownsRow_drewN hown _).alloc _) ⟨wr.heap.size, 0, none⟩ 1 1 [.int .i64 1] rfl rfl (cell_one_new _ _ _) (by simp [Value.oneCell']) (by unfold maxLen; omega) (by omega) (by have := hbel.size; simp; omega) ?_; intro v' w1 hown' hgrow _)
          go_roundw
          case rel => exact ⟨k + 1, hlt, by go_num, by rw [HS.out, List.length_append, List.map_append]; exact hown', (((below_drewN hbel _).alloc (by have := hbel.size; simp; omega) _).grown hgrow (by have := hbel.size; simp; omega) (fun k e => (hown.lt k e).1))⟩
          case measure => simp [intOf]; omega
    · obtain rfl : k = s.size := by omega
      have HA := Lib.hid (runsTo_all s)
      go_wp2
      go_ret
      refine ⟨_, rfl, ?_, hbel⟩
      rw [← HA.out]; exact hown

theorem specRunsOf_any (s : ByteArray) (w : World) (hs : s.size ≤ maxLen) :
    Calls Try.prog 112 #[.string s] w (IntsPost (runsOf s) w) := by
  by_cases hw : wordOk s = true
  · rw [runsOf_yes hw]
    exact specRunsOf_yes s w hw
  · have hw' : wordOk s = false := by simpa using hw
    rw [runsOf_no hw']
    clear hw
    have H0 := Lib.hid (World.ownsRow_lit (base := w.heap.size) (e := 3) (size := 1) w #[] 0 (Nat.le_refl _) (Nat.zero_le _) rfl)
    have hs' := hs
    unfold maxLen at hs
    go_enter Try.func112, Try.ntmps112
    go_wp2
    go_loopw [3, 4, 5] (fun o i _ wr => i = .int .i64 0 ∧ o = .slice (some ⟨w.heap.size, 0, none⟩) 0 0 ∧ wr.ownsRow w.heap.size 3 1 o 0 [] ∧ Below w.heap.size w wr) (fun _ _ _ _ => 0)
    case atStart => exact ⟨rfl, rfl, H0.out, (Below.refl _ _).alloc (Nat.le_refl _) _⟩
    case round =>
      obtain ⟨rfl, rfl, hown, hbel⟩ := hrel
      by_cases h0 : 0 < s.size
      · go_wp2_with (go_at_call 58; refine (specWordOk_any _ _ hs').mono ?_; rintro e w' ⟨rfl, rfl⟩)
        go_ret
        exact ⟨_, rfl, hown, hbel⟩
      · go_wp2_with (go_at_call 58; refine (specWordOk_any _ _ hs').mono ?_; rintro e w' ⟨rfl, rfl⟩)
        go_ret
        exact ⟨_, rfl, hown, hbel⟩

end Go.Proofs.Ytlbblfbiiceofaa
