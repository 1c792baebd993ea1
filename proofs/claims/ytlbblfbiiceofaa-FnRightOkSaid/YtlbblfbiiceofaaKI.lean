/- impl.RunsOf: what it returns, for every text. spec.RunsOf: what it returns, for every text. KeepsRule on the model's side. No condition. KeepsRule on the model's side, for rules of runs. No condition. KeepsRule on both sides, for every rule and text; the walk of FnExactKeepsRule. Condition: the library's variable MaxLen holds some number. spec.l5Keeps and spec.KeepsTerm. No condition. impl.foldedMarks over bools: the stack of parts. No condition. impl.KeepsTerm: its closure, and itself. No condition. KeepsAll and RightOk of the program and of the model: what each returns, for every argument. N -/
import Derived.Test.YtlbblfbiiceofaaKC
import Derived.Deep.AppendLies
import Derived.Deep.RegionLaw
import Derived.Test.YtlbblfbiiceofaaKB

namespace Go.Proofs.Ytlbblfbiiceofaa
open Go.RowKit Go.Shelf
attribute [local go_sem] Oper.semAt_some

theorem infoInt : (Try.prog.info? 3).map (fun i => (i.zero, i.size, i.bytes)) = some (some (.int .i64 0), 1, 8) := by kernel_rfl
theorem runsOf_yes {s : ByteArray} (h : wordOk s = true) : runsOf s = (runsL s.data.toList).map (fun p => (p.2 : Int)) := by simp [runsOf, h]
theorem runsOf_no {s : ByteArray} (h : wordOk s = false) : runsOf s = [] := by simp [runsOf, h]
/-- the numbers of runs -/
def nums (xs : List (UInt8 × Nat)) : List Int := xs.map (fun p => (p.2 : Int))
theorem nums_snoc (xs : List (UInt8 × Nat)) (p : UInt8 × Nat) : nums (xs ++ [p]) = nums xs ++ [(p.2 : Int)] := by simp [nums]
theorem nums_length (xs : List (UInt8 × Nat)) : (nums xs).length = xs.length := by simp [nums]

/-- a slice of the call's own, that holds a list of numbers -/
def IntsPost (xs : List Int) (w : World) (e : Ending) (w' : World) : Prop :=
  ∃ v, e = .returned v ∧ w'.ownsRow w.heap.size 3 1 v xs.length (xs.map (Value.int .i64)) ∧ Below w.heap.size w w'

end Go.Proofs.Ytlbblfbiiceofaa

namespace Go.Proofs.Ytlbblfbiiceofaa
open Go.RowKit

theorem snocRun_last (xs : List (UInt8 × Nat)) (c : UInt8) : ∃ ys n, snocRun xs c = ys ++ [(c, n)] := by
  rcases snocRun_cases xs c with ⟨ys, n, _, h⟩ | ⟨h, _⟩
  · exact ⟨ys, n + 1, h⟩
  · exact ⟨xs, 1, h⟩
theorem runsTo_last (s : ByteArray) (k : Nat) (h : k < s.size) : ∃ ys n, runsTo s (k + 1) = ys ++ [(s[k], n)] := by
  rw [runsTo_succ s k h]; exact snocRun_last _ _
theorem le_sum_mem : ∀ (l : List Nat) (n : Nat), n ∈ l → n ≤ l.sum
  | a :: l, n, h => by
    rcases List.mem_cons.1 h with rfl | h
    · simp
    · have := le_sum_mem l n h
      simp; omega
theorem runsTo_sum (s : ByteArray) (k : Nat) : ∀ p ∈ runsTo s k, p.2 ≤ k := by
  intro p hp
  have h1 := runsL_sum (s.data.toList.take k)
  have h2 : p.2 ≤ ((runsTo s k).map (·.2)).sum := le_sum_mem _ _ (List.mem_map.2 ⟨p, hp, rfl⟩)
  have h4 : (s.data.toList.take k).length ≤ k := List.length_take_le _ _
  unfold runsTo at *
  omega
theorem nums_runsTo_length (s : ByteArray) (k : Nat) : (nums (runsTo s k)).length ≤ k := by
  rw [nums_length]
  exact Nat.le_trans (runsL_length _) (List.length_take_le _ _)

theorem index_pred (s : ByteArray) (k : Nat) (hk : 0 < k) (h : k - 1 < s.size) (w : World) :
    (Instr.index 9 (.string s) (.int .i64 ((k : Int) - 1))).run Try.prog w = .ok (.int .u8 (s[k - 1].toNat : Int)) w := by
  have e : ((k : Int) - 1) = ((k - 1 : Nat) : Int) := by omega
  rw [e]
  go_simp

theorem ownsRow_drewN {w : World} {base : Nat} {e : TypeId} {size : Nat} {v : Value} {n : Nat} {xs : List Value} (h : w.ownsRow base e size v n xs) (k : Nat) : (w.drewN k).ownsRow base e size v n xs := h

set_option maxHeartbeats 1600000 in
theorem specRunsOf_yes (s : ByteArray) (w : World) (hw : wordOk s = true) :
    Calls Try.prog 112 #[.string s] w (IntsPost (nums (runsL s.data.toList)) w) := by
  have h14 := wordOk_size hw
  have hsm : s.size ≤ maxLen := by unfold maxLen; omega
  obtain ⟨i0, hi, hz0, hz1, hz2⟩ := info_parts infoInt
  have HI := Lib.hid hi
  have HZ0 := Lib.hid hz0
  have HZ1 := Lib.hid hz1
  have HZ2 := Lib.hid hz2
  clear hi hz0 hz1 hz2
  have H0 := Lib.hid (World.ownsRow_lit (base := w.heap.size) (e := 3) (size := 1) w #[] 0 (Nat.le_refl _) (Nat.zero_le _) rfl)
  go_enter Try.func112, Try.ntmps112
  go_wp2
  go_loopw [3, 4, 5] (fun o i _ wr => ∃ k : Nat, k ≤ s.size ∧ i = .int .i64 k ∧ wr.ownsRow w.heap.size 3 1 o (nums (runsTo s k)).length ((nums (runsTo s k)).map (Value.int .i64)) ∧ Below w.heap.size w wr) (fun _ i _ _ => s.size - (intOf i).toNat)
  case atStart => exact ⟨0, Nat.zero_le _, rfl, H0.out, (Below.refl _ _).alloc (Nat.le_refl _) _⟩
  case round =>
    obtain ⟨k, hk, rfl, hown, hbel⟩ := hrel
    by_cases hlt : k < s.size
    · by_cases hk0 : k = 0
      · subst hk0
        have HS : Hid (nums (runsTo s (0 + 1)) = nums (runsTo s 0) ++ [1]) := by
          have : nums (runsTo s (0 + 1)) = nums (runsTo s 0) ++ [1] := by rw [runsTo_succ s 0 hlt, snocRun_new _ _ (fun d n h => by cases h), nums_snoc]; rfl
          exact Lib.hid this
        have hln := nums_runsTo_length s 0
        go_wp2_with (go_at_call 58; refine (specWordOk_any _ _ hsm).mono ?_; rintro e w' ⟨rfl, rfl⟩)
        go_quiet (fail)
        go_wp2_with (at_builtin; refine wpList_append_own _ rfl _ _ 113 rfl w.heap.size 3 i0 (.int .i64 0) 1 8 Try.underlying113 HI.out HZ0.out HZ1.out HZ2.out rfl (by decide) _ _ _ rfl ((ownsRow_drewN hown _).alloc _) ⟨wr.heap.size, 0, none⟩ 1 1 [.int .i64 1] rfl rfl (cell_one_new _ _ _) (by simp [Value.oneCell']) (by unfold maxLen; omega) (by omega) (by have := hbel.size; simp; omega) ?_; intro v' w1 hown' hgrow _)
        go_roundw
        case rel => exact ⟨0 + 1, hlt, by go_num, by rw [HS.out, List.length_append, List.map_append]; exact hown', (((below_drewN hbel _).alloc (by have := hbel.size; simp; omega) _).grown hgrow (by have := hbel.size; simp; omega) (fun k e => (hown.lt k e).1))⟩
        case measure => simp [intOf]; omega
      · have hjt : k - 1 < s.size := by omega
        have hkp : 0 < k := by omega
        obtain ⟨ys, n, hys⟩ := runsTo_last s (k - 1) hjt
        rw [Nat.sub_add_cancel hkp] at hys
        by_cases hb : s[k] = s[k - 1]
        · have hb' : ((s[k].toNat : Int) == (s[k - 1].toNat : Int)) = true := by rw [u8_beq]; simpa using hb
          have HS : Hid (nums (runsTo s (k + 1)) = nums ys ++ [(n : Int) + 1]) := by
            have : nums (runsTo s (k + 1)) = nums ys ++ [(n : Int) + 1] := by
              rw [runsTo_succ s k hlt, hys, hb, snocRun_same, nums_snoc]; rfl
            exact Lib.hid this
          have hn14 : n ≤ 14 := by
            have := runsTo_sum s k (s[k - 1], n) (by rw [hys]; exact List.mem_append.2 (.inr (by simp)))
            simp only at this
            omega
          have hown2 : wr.ownsRow w.heap.size 3 1 u3 ((nums ys).length + 1) ((nums ys).map (Value.int .i64) ++ [.int .i64 (n : Int)]) := by
            rw [hys, nums_snoc, List.length_append, List.map_append] at hown
            exact hown
          have hyl : (nums ys).length ≤ 14 := by
            have := nums_runsTo_length s k
            rw [hys, nums_snoc, List.length_append] at this
            simp at this
            omega
          obtain ⟨g, cap, rfl⟩ := ownsRow_succ hown2
          have hgl := hown2.lt g rfl
          have hcap : (nums ys).length + 1 ≤ cap := by
            rcases hown2.2 with ⟨h, _⟩ | ⟨g', cap', cur, h, _, _, h4, _⟩
            · cases h
            · cases h; exact h4
          have hcell : wr.cell? ⟨g, (nums ys).length, none⟩ = some (.int .i64 (n : Int)) := by
            rw [hown2.cellAt (nums ys).length (by omega)]
            simp
          have hfr := hown2.frozenAt (nums ys).length
          have hst := (hown2.stored (nums ys).length (.int .i64 ((n : Int) + 1)))
          have hset : ((nums ys).map (Value.int .i64) ++ [Value.int .i64 (n : Int)]).set (nums ys).length (Value.int .i64 ((n : Int) + 1)) = (nums ys).map (Value.int .i64) ++ [Value.int .i64 ((n : Int) + 1)] := by
            rw [List.set_append_right _ _ (by simp)]; simp
          rw [hset] at hst
          have HST := Lib.hid hst
          have HB := Lib.hid hb
          have HO := Lib.hid hown2
          clear hb hys hown hst hset hown2
          generalize hLL : (nums ys).length = L at *
          have HL := Lib.hid hLL
          clear hLL
          go_wp2_with (go_at_call 58; refine (specWordOk_any _ _ hsm).mono ?_; rintro e w' ⟨rfl, rfl⟩)
          have hq2 : (0 : Int) ≤ (k : Int) - 1 := by omega
          have hq4 : (k : Int) - 1 < s.size := by omega
          have hq3 : ((k : Int) - 1).toNat = k - 1 := by omega
          have hq1 : IntKind.i64.wrap ((k : Int) - 1) = (k : Int) - 1 := IntWalk.i64_in _ (by omega)
          have hix := fun w => index_pred s k hkp hjt w
          go_quiet (fail)
          clear hq1 hq2 hq3 hq4 hix
          go_wp2
          go_roundw
          case rel =>
            refine ⟨k + 1, hlt, by go_num, ?_, (below_drewN hbel _).setCell (p := ⟨g, L, none⟩) hgl.1 _⟩
            rw [HS.out, List.length_append, List.map_append, HL.out]
            exact HST.out.1
          case measure => simp [intOf]; omega
        · have hb' : ((s[k].toNat : Int) == (s[k - 1].toNat : Int)) = false := by rw [u8_beq]; simpa using hb
          have HS : Hid (nums (runsTo s (k + 1)) = nums (runsTo s k) ++ [1]) := by
            have : nums (runsTo s (k + 1)) = nums (runsTo s k) ++ [1] := by rw [runsTo_succ s k hlt, snocRun_new _ _ (fun d n' h => by rw [hys] at h; simp at h; rw [← h.1]; exact fun h' => hb h'.symm), nums_snoc]; rfl
            exact Lib.hid this
          have HB := Lib.hid hb
          have HY := Lib.hid hys
          clear hb hys
          have hln := nums_runsTo_length s k
          go_wp2_with (go_at_call 58; refine (specWordOk_any _ _ hsm).mono ?_; rintro e w' ⟨rfl, rfl⟩)
          have hq2 : (0 : Int) ≤ (k : Int) - 1 := by omega
          have hq4 : (k : Int) - 1 < s.size := by omega
          have hq3 : ((k : Int) - 1).toNat = k - 1 := by omega
          have hq1 : IntKind.i64.wrap ((k : Int) - 1) = (k : Int) - 1 := IntWalk.i64_in _ (by omega)
          have hix := fun w => index_pred s k hkp hjt w
          go_quiet (fail)
          clear hq1 hq2 hq3 hq4 hix
          go_wp2_with (at_builtin; refine wpList_append_own _ rfl _ _ 113 rfl w.heap.size 3 i0 (.int .i64 0) 1 8 Try.underlying113 HI.out HZ0.out HZ1.out HZ2.out rfl (by decide) _ _ _ rfl ((ownsRow_drewN hown _).alloc _) ⟨wr.heap.size, 0, none⟩ 1 1 [.int .i64 1] rfl rfl (cell_one_new _ _ _) (by simp [Value.oneCell']) (by unfold maxLen; omega) (by omega) (by have := hbel.size; simp; omega) ?_; intro v' w1 hown' hgrow _)
          go_roundw
          case rel => exact ⟨k + 1, hlt, by go_num, by rw [HS.out, List.length_append, List.map_append]; exact hown', (((below_drewN hbel _).alloc (by have := hbel.size; simp; omega) _).grown hgrow (by have := hbel.size; simp; omega) (fun k e => (hown.lt k e).1))⟩
          case measure => simp [intOf]; omega
    · obtain rfl : k = s.size := by omega
      have HA := Lib.hid (runsTo_all s)
      go_wp2
      go_ret
      refine ⟨_, rfl, ?_, hbel⟩
      rw [← HA.out]; exact hown

theorem specRunsOf_any (s : ByteArray) (w : World) (hs : s.size ≤ maxLen) :
    Calls Try.prog 112 #[.string s] w (IntsPost (runsOf s) w) := by
  by_cases hw : wordOk s = true
  · rw [runsOf_yes hw]
    exact specRunsOf_yes s w hw
  · have hw' : wordOk s = false := by simpa using hw
    rw [runsOf_no hw']
    clear hw
    have H0 := Lib.hid (World.ownsRow_lit (base := w.heap.size) (e := 3) (size := 1) w #[] 0 (Nat.le_refl _) (Nat.zero_le _) rfl)
    have hs' := hs
    unfold maxLen at hs
    go_enter Try.func112, Try.ntmps112
    go_wp2
    go_loopw [3, 4, 5] (fun o i _ wr => i = .int .i64 0 ∧ o = .slice (some ⟨w.heap.size, 0, none⟩) 0 0 ∧ wr.ownsRow w.heap.size 3 1 o 0 [] ∧ Below w.heap.size w wr) (fun _ _ _ _ => 0)
    case atStart => exact ⟨rfl, rfl, H0.out, (Below.refl _ _).alloc (Nat.le_refl _) _⟩
    case round =>
      obtain ⟨rfl, rfl, hown, hbel⟩ := hrel
      by_cases h0 : 0 < s.size
      · go_wp2_with (go_at_call 58; refine (specWordOk_any _ _ hs').mono ?_; rintro e w' ⟨rfl, rfl⟩)
        go_ret
        exact ⟨_, rfl, hown, hbel⟩
      · go_wp2_with (go_at_call 58; refine (specWordOk_any _ _ hs').mono ?_; rintro e w' ⟨rfl, rfl⟩)
        go_ret
        exact ⟨_, rfl, hown, hbel⟩

end Go.Proofs.Ytlbblfbiiceofaa

namespace Go.Proofs.Ytlbblfbiiceofaa
open Go.RowKit

set_option maxHeartbeats 1600000 in
theorem specKeeps_0 (letter : ByteArray) (many : Int) (s : ByteArray) (w : World) (hl : letterOk letter = true) (h0 : 0 ≤ many) (h4 : many ≤ 4) (hw : wordOk s = true) :
    Calls Try.prog 103 #[.agg #[.int .i64 0, .string letter, .string ⟨#[]⟩, .int .i64 many], .string s] w
      fun e w' => e = .returned (.bool (decide ((longestIn (runsL s.data.toList) (byteAt letter 0) : Int) ≤ many))) ∧ Below w.heap.size w w' := by
  have hsm : s.size ≤ maxLen := Nat.le_trans (wordOk_size hw) (by decide)
  have hok : (Ru.mk 0 letter ⟨#[]⟩ many).ok = true := Ru.ok_iff.2 ⟨hl, .inl ⟨rfl, rfl, h0, h4⟩⟩
  have HL := Lib.hid (longestOf_yes hw hl)
  go_enter Try.func103, Try.ntmps103
  go_wp2_with fail
  refine (specRuleOk_any 0 letter ⟨#[]⟩ many _).mono ?_
  rintro e w1 ⟨rfl, hb1⟩
  rw [hok]
  simp only [World.size_alloc] at hb1
  obtain ⟨y0, y1, y2, y3, q1, s1⟩ := ru_cells 0 letter ⟨#[]⟩ many hb1
  go_wp2_with (go_at_call 58; refine (specWordOk_any _ _ hsm).mono ?_; rintro e w' ⟨rfl, rfl⟩)
  go_region_with (go_at_call 111; refine (specLongestOf_any _ _ _ hsm).mono ?_; rintro e w2 ⟨rfl, hb2⟩; obtain ⟨z0, z1, z2, z3, q2, s2⟩ := ru_cells 0 letter ⟨#[]⟩ many (hb1.drew.trans (hb2.mono s1)))
  all_goals
    go_wp2
    go_ret
    exact ⟨ret_bool (by rw [HL.out]), q2⟩

set_option maxHeartbeats 1600000 in
theorem specKeeps_3 (letter : ByteArray) (many : Int) (s : ByteArray) (w : World) (hl : letterOk letter = true) (h0 : 0 ≤ many) (h4 : many ≤ 5) (hw : wordOk s = true) :
    Calls Try.prog 103 #[.agg #[.int .i64 3, .string letter, .string ⟨#[]⟩, .int .i64 many], .string s] w
      fun e w' => e = .returned (.bool (decide (cntEq s.data.toList (byteAt letter 0) s.size ≤ many))) ∧ Below w.heap.size w w' := by
  have hsm : s.size ≤ maxLen := Nat.le_trans (wordOk_size hw) (by decide)
  have hok : (Ru.mk 3 letter ⟨#[]⟩ many).ok = true := Ru.ok_iff.2 ⟨hl, .inr (.inr (.inr (.inl ⟨rfl, rfl, h0, h4⟩)))⟩
  have HL := Lib.hid (countOf_yes hw hl)
  go_enter Try.func103, Try.ntmps103
  go_wp2_with fail
  refine (specRuleOk_any 3 letter ⟨#[]⟩ many _).mono ?_
  rintro e w1 ⟨rfl, hb1⟩
  rw [hok]
  simp only [World.size_alloc] at hb1
  obtain ⟨y0, y1, y2, y3, q1, s1⟩ := ru_cells 3 letter ⟨#[]⟩ many hb1
  go_wp2_with (go_at_call 58; refine (specWordOk_any _ _ hsm).mono ?_; rintro e w' ⟨rfl, rfl⟩)
  go_region_with (go_at_call 85; refine (specCountOf_any _ _ _ hsm).mono ?_; rintro e w2 ⟨rfl, hb2⟩; obtain ⟨z0, z1, z2, z3, q2, s2⟩ := ru_cells 3 letter ⟨#[]⟩ many (hb1.drew.trans (hb2.mono s1)))
  all_goals
    go_wp2
    go_ret
    exact ⟨ret_bool (by rw [HL.out]), q2⟩

set_option maxHeartbeats 1600000 in
theorem specKeeps_4 (letter : ByteArray) (many : Int) (s : ByteArray) (w : World) (hl : letterOk letter = true) (h0 : 1 ≤ many) (h4 : many ≤ 5) (hw : wordOk s = true) :
    Calls Try.prog 103 #[.agg #[.int .i64 4, .string letter, .string ⟨#[]⟩, .int .i64 many], .string s] w
      fun e w' => e = .returned (.bool (decide (many ≤ cntEq s.data.toList (byteAt letter 0) s.size))) ∧ Below w.heap.size w w' := by
  have hsm : s.size ≤ maxLen := Nat.le_trans (wordOk_size hw) (by decide)
  have hok : (Ru.mk 4 letter ⟨#[]⟩ many).ok = true := Ru.ok_iff.2 ⟨hl, .inr (.inr (.inr (.inr ⟨rfl, rfl, h0, h4⟩)))⟩
  have HL := Lib.hid (countOf_yes hw hl)
  go_enter Try.func103, Try.ntmps103
  go_wp2_with fail
  refine (specRuleOk_any 4 letter ⟨#[]⟩ many _).mono ?_
  rintro e w1 ⟨rfl, hb1⟩
  rw [hok]
  simp only [World.size_alloc] at hb1
  obtain ⟨y0, y1, y2, y3, q1, s1⟩ := ru_cells 4 letter ⟨#[]⟩ many hb1
  go_wp2_with (go_at_call 58; refine (specWordOk_any _ _ hsm).mono ?_; rintro e w' ⟨rfl, rfl⟩)
  go_region_with (go_at_call 85; refine (specCountOf_any _ _ _ hsm).mono ?_; rintro e w2 ⟨rfl, hb2⟩; obtain ⟨z0, z1, z2, z3, q2, s2⟩ := ru_cells 4 letter ⟨#[]⟩ many (hb1.drew.trans (hb2.mono s1)))
  all_goals
    go_wp2
    go_ret
    exact ⟨ret_bool (by rw [HL.out]), q2⟩

theorem pairTo_up {l : List UInt8} {c d : UInt8} {k n : Nat} (hk : k ≤ n) (h : pairTo l c d k = true) : pairTo l c d n = true := by
  obtain ⟨i, hi, h⟩ := List.any_eq_true.1 h
  exact List.any_eq_true.2 ⟨i, List.mem_range.2 (by have := List.mem_range.1 hi; omega), h⟩

set_option maxHeartbeats 1600000 in
theorem specKeeps_2 (letter thn : ByteArray) (s : ByteArray) (w : World) (hl : letterOk letter = true) (ht : letterOk thn = true) (hw : wordOk s = true) :
    Calls Try.prog 103 #[.agg #[.int .i64 2, .string letter, .string thn, .int .i64 0], .string s] w
      fun e w' => e = .returned (.bool (!pairTo s.data.toList (byteAt letter 0) (byteAt thn 0) (s.size - 1))) ∧ Below w.heap.size w w' := by
  have hsm : s.size ≤ maxLen := Nat.le_trans (wordOk_size hw) (by decide)
  have hok : (Ru.mk 2 letter thn 0).ok = true := Ru.ok_iff.2 ⟨hl, .inr (.inr (.inl ⟨rfl, ht, rfl⟩))⟩
  have h1 := letterOk_size hl
  have h2 := letterOk_size ht
  have hp1 : 0 < letter.size := by omega
  have hp2 : 0 < thn.size := by omega
  have h14 := wordOk_size hw
  go_enter Try.func103, Try.ntmps103
  go_wp2_with fail
  refine (specRuleOk_any 2 letter thn 0 _).mono ?_
  rintro e w1 ⟨rfl, hb1⟩
  rw [hok]
  simp only [World.size_alloc] at hb1
  obtain ⟨y0, y1, y2, y3, q1, s1⟩ := ru_cells 2 letter thn 0 hb1
  go_wp2_with (go_at_call 58; refine (specWordOk_any _ _ hsm).mono ?_; rintro e w' ⟨rfl, rfl⟩)
  have hc1 : letter[0] = byteAt letter 0 := byteAt_eq letter 0 hp1
  have hc2 : thn[0] = byteAt thn 0 := byteAt_eq thn 0 hp2
  have HC := Lib.hid (And.intro hc1 hc2)
  clear hc1 hc2
  have B1 := Lib.hid hb1
  clear hb1 y0 y1 y2 y3 q1 s1
  go_loopw [5] (fun i wr => ∃ k : Nat, 1 ≤ k ∧ i = .int .i64 (k : Int) ∧ k - 1 ≤ s.size - 1 ∧ pairTo s.data.toList (byteAt letter 0) (byteAt thn 0) (k - 1) = false ∧ Below (w.heap.size + 1) (w.alloc (.cells #[.int .i64 2, .string letter, .string thn, .int .i64 0] 79)) wr) (fun i _ => s.size - (intOf i).toNat)
  case atStart => exact ⟨1, by omega, rfl, Nat.zero_le _, rfl, B1.out⟩
  case round =>
    obtain ⟨k, hkp, rfl, hk, hno, hb⟩ := hrel
    have HN := Lib.hid hno
    have HB := Lib.hid hb
    obtain ⟨y0, y1, y2, y3, q1, s1⟩ := ru_cells 2 letter thn 0 hb
    have Q1 := Lib.hid q1
    clear hno hb y0 y3 q1 s1
    by_cases hlt : k < s.size
    · have hjt : k - 1 < s.size := by omega
      have HP : Hid (pairTo s.data.toList (byteAt letter 0) (byteAt thn 0) k = (s[k - 1] == letter[0] && s[k] == thn[0])) := by
        have e : k = (k - 1) + 1 := by omega
        have : pairTo s.data.toList (byteAt letter 0) (byteAt thn 0) k = (s[k - 1] == letter[0] && s[k] == thn[0]) := by
          rw [byteAt_eq s (k - 1) hjt, byteAt_eq s k hlt, HC.out.1, HC.out.2]
          conv => lhs; rw [e]
          rw [pairTo_succ, HN.out, Bool.false_or, ← e]
          rfl
        exact Lib.hid this
      have HHIT : Hid (pairTo s.data.toList (byteAt letter 0) (byteAt thn 0) k = true → pairTo s.data.toList (byteAt letter 0) (byteAt thn 0) (s.size - 1) = true) := Lib.hid (fun h => pairTo_up (by omega) h)
      have hix := fun w => index_pred s k hkp hjt w
      generalize s[k - 1] = x1 at *
      by_cases t1 : (x1 == letter[0]) = true
      · have t1' : ((x1.toNat : Int) == (letter[0].toNat : Int)) = true := by rw [u8_beq]; exact t1
        by_cases t2 : (s[k] == thn[0]) = true
        · have t2' : ((s[k].toNat : Int) == (thn[0].toNat : Int)) = true := by rw [u8_beq]; exact t2
          have HF := Lib.hid (HHIT.out (by rw [HP.out, t1, t2]; rfl))
          clear t1 t2
          go_wp2
          go_quiet (fail)
          go_wp2
          go_ret
          exact ⟨ret_bool (by rw [HF.out]; rfl), below_drewN Q1.out _⟩
        · have t2' : ((s[k].toNat : Int) == (thn[0].toNat : Int)) = false := by rw [u8_beq]; simpa using t2
          have HF : Hid (pairTo s.data.toList (byteAt letter 0) (byteAt thn 0) k = false) := by
            have : pairTo s.data.toList (byteAt letter 0) (byteAt thn 0) k = false := by rw [HP.out, t1]; simpa using t2
            exact Lib.hid this
          clear t1 t2
          go_wp2
          go_quiet (fail)
          go_wp2
          go_roundw
          case rel => exact ⟨k + 1, by omega, by go_num, by omega, HF.out, below_drewN HB.out _⟩
          case measure => simp [intOf]; omega
      · have t1' : ((x1.toNat : Int) == (letter[0].toNat : Int)) = false := by rw [u8_beq]; simpa using t1
        have HF : Hid (pairTo s.data.toList (byteAt letter 0) (byteAt thn 0) k = false) := by
          have t1n : (x1 == letter[0]) = false := by simpa using t1
          have : pairTo s.data.toList (byteAt letter 0) (byteAt thn 0) k = false := by rw [HP.out, t1n]; rfl
          exact Lib.hid this
        clear t1
        go_wp2
        go_quiet (fail)
        go_wp2
        go_roundw
        case rel => exact ⟨k + 1, by omega, by go_num, by omega, HF.out, below_drewN HB.out _⟩
        case measure => simp [intOf]; omega
    · have HF : Hid (pairTo s.data.toList (byteAt letter 0) (byteAt thn 0) (s.size - 1) = false) := by
        have e : k - 1 = s.size - 1 := by omega
        have := HN.out
        rw [e] at this
        exact Lib.hid this
      go_wp2
      go_ret
      exact ⟨ret_bool (by rw [HF.out]; rfl), Q1.out⟩

/-- how many letters the first k runs have -/
def sumRuns (R : List (UInt8 × Nat)) (k : Nat) : Nat := ((R.take k).map (·.2)).sum
theorem sumRuns_succ (R : List (UInt8 × Nat)) (k : Nat) (h : k < R.length) : sumRuns R (k + 1) = sumRuns R k + R[k].2 := by
  unfold sumRuns
  rw [List.take_succ_eq_append_getElem h, List.map_append, List.sum_append]; simp
theorem sumRuns_lt (l : List UInt8) (k : Nat) (h : k < (runsL l).length) : sumRuns (runsL l) k + (runsL l)[k].2 ≤ l.length := by
  rw [← sumRuns_succ _ _ h, ← runsL_sum l]
  unfold sumRuns
  conv => rhs; rw [← List.take_append_drop (k + 1) (runsL l)]
  rw [List.map_append, List.sum_append]
  omega
theorem runs_letter (l : List UInt8) : ∀ k (h : k < (runsL l).length), l.getD (sumRuns (runsL l) k) 0 = (runsL l)[k].1 := by
  refine snoc_indR (P := fun l => ∀ k (h : k < (runsL l).length), l.getD (sumRuns (runsL l) k) 0 = (runsL l)[k].1) ?_ ?_ l
  · intro k h; simp [show runsL [] = [] from rfl] at h
  · intro l c ih k h
    have hs := runsL_snoc l c
    rcases snocRun_cases (runsL l) c with ⟨ys, n, h1, h2⟩ | ⟨h2, _⟩
    · rw [h2] at hs
      have hk : k < (ys ++ [(c, n)]).length := by rw [hs] at h; simpa using h
      have hk' : k < (runsL l).length := by rw [h1]; exact hk
      have hky : k ≤ ys.length := by simp at hk; omega
      have a := ih k hk'
      have b := sumRuns_lt l k hk'
      have p := runsL_pos l _ (List.getElem_mem hk')
      have e1 : sumRuns (runsL (l ++ [c])) k = sumRuns (runsL l) k := by
        unfold sumRuns
        rw [hs, h1, List.take_append_of_le_length hky, List.take_append_of_le_length hky]
      have e2 : (runsL (l ++ [c]))[k].1 = (runsL l)[k].1 := by
        simp only [hs, h1]
        rcases Nat.lt_or_eq_of_le hky with hlt | rfl
        · rw [List.getElem_append_left hlt, List.getElem_append_left hlt]
        · simp
      rw [e1, e2, ← a, List.getD_eq_getElem?_getD, List.getD_eq_getElem?_getD, List.getElem?_append_left (by omega)]
    · rw [h2] at hs
      have e1 : ∀ j, j ≤ (runsL l).length → sumRuns (runsL (l ++ [c])) j = sumRuns (runsL l) j := fun j hj => by
        unfold sumRuns
        rw [hs, List.take_append_of_le_length hj]
      have hk : k < (runsL l ++ [(c, 1)]).length := by rw [hs] at h; exact h
      rw [e1 k (by simp at hk; omega)]
      rcases Nat.lt_or_ge k (runsL l).length with hlt | hge
      · have a := ih k hlt
        have b := sumRuns_lt l k hlt
        have p := runsL_pos l _ (List.getElem_mem hlt)
        have e2 : (runsL (l ++ [c]))[k].1 = (runsL l)[k].1 := by simp only [hs]; rw [List.getElem_append_left hlt]
        rw [e2, ← a, List.getD_eq_getElem?_getD, List.getD_eq_getElem?_getD, List.getElem?_append_left (by omega)]
      · have e : k = (runsL l).length := by simp at hk; omega
        subst e
        have e2 : (runsL (l ++ [c]))[(runsL l).length].1 = c := by simp only [hs]; simp
        have e3 : sumRuns (runsL l) (runsL l).length = l.length := by unfold sumRuns; rw [List.take_length, runsL_sum]
        rw [e2, e3]
        simp [List.getD]
end Go.Proofs.Ytlbblfbiiceofaa

namespace Go.Proofs.Ytlbblfbiiceofaa
open Go.RowKit

set_option maxHeartbeats 1600000 in
theorem specKeeps_1 (letter : ByteArray) (many : Int) (s : ByteArray) (w : World) (hl : letterOk letter = true) (h0 : 2 ≤ many) (h4 : many ≤ 4) (hw : wordOk s = true) :
    Calls Try.prog 103 #[.agg #[.int .i64 1, .string letter, .string ⟨#[]⟩, .int .i64 many], .string s] w
      fun e w' => e = .returned (.bool (longAll (runsL s.data.toList) (byteAt letter 0) many)) ∧ Below w.heap.size w w' := by
  have hsm : s.size ≤ maxLen := Nat.le_trans (wordOk_size hw) (by decide)
  have hok : (Ru.mk 1 letter ⟨#[]⟩ many).ok = true := Ru.ok_iff.2 ⟨hl, .inr (.inl ⟨rfl, rfl, h0, h4⟩)⟩
  have h1 := letterOk_size hl
  have hp1 : 0 < letter.size := by omega
  have h14 := wordOk_size hw
  go_enter Try.func103, Try.ntmps103
  go_wp2_with fail
  refine (specRuleOk_any 1 letter ⟨#[]⟩ many _).mono ?_
  rintro e w1 ⟨rfl, hb1⟩
  rw [hok]
  simp only [World.size_alloc] at hb1
  obtain ⟨y0, y1, y2, y3, q1, s1⟩ := ru_cells 1 letter ⟨#[]⟩ many hb1
  go_wp2_with (go_at_call 58; refine (specWordOk_any _ _ hsm).mono ?_; rintro e w' ⟨rfl, rfl⟩)
  refine (specRunsOf_any s _ hsm).mono ?_
  rintro e w2 ⟨v, rfl, hown, hb2⟩
  rw [runsOf_yes hw] at hown
  have B2 := Lib.hid (hb1.trans (hb2.mono s1))
  have hRow : IsInts w2 v ((runsL s.data.toList).map (fun p => (p.2 : Int))) := IsInts.of_owns hown
  obtain ⟨a, cap, rfl, hcap, hmax, hor⟩ := hRow
  have HOR := Lib.hid hor
  have HSL := Lib.hid (And.intro (fun k h => sumRuns_lt s.data.toList k h) (fun k h => runs_letter s.data.toList k h))
  have HPOS := Lib.hid (runsL_pos s.data.toList)
  have hRl : (runsL s.data.toList).length ≤ 14 := Nat.le_trans (runsL_length _) (by rw [len_data]; exact h14)
  have HRD := Lib.hid (len_data s)
  have hc1 : Hid (letter[0] = byteAt letter 0) := Lib.hid (byteAt_eq letter 0 hp1)
  clear hown hor hb1 hb2 y0 y1 y2 y3 q1 s1
  rw [List.length_map] at hcap ⊢
  generalize hR : runsL s.data.toList = R at *
  have HRR := Lib.hid hR
  clear hR
  go_wp2_with fail
  go_loopw [7, 8] (fun p i wr => ∃ k : Nat, k ≤ R.length ∧ i = .int .i64 (k : Int) ∧ p = .int .i64 ((sumRuns R k : Nat) : Int) ∧ longAll (R.take k) (byteAt letter 0) many = true ∧ Below w2.heap.size w2 wr) (fun _ i _ => R.length - (intOf i).toNat)
  case atStart => exact ⟨0, Nat.zero_le _, rfl, rfl, rfl, Below.refl _ _⟩
  case round =>
    obtain ⟨k, hk, rfl, rfl, hall, hb⟩ := hrel
    have HA := Lib.hid hall
    have HB := Lib.hid hb
    obtain ⟨y0, y1, y2, y3, q1, s1⟩ := ru_cells 1 letter ⟨#[]⟩ many (B2.out.trans (hb.mono (by have := B2.out.size; simp only [World.size_alloc] at this; exact this)))
    have Q1 := Lib.hid q1
    clear hall hb y0 y2 q1 s1
    by_cases hlt : k < R.length
    · obtain ⟨g, off, rfl, hg, hcell⟩ := HOR.out.resolve_left (fun e => by have := congrArg List.length e; rw [List.length_map] at this; simp at this; rw [this] at hlt; exact Nat.not_lt_zero _ hlt)
      have hck := (HB.out.cell (p := ⟨g, off + k, none⟩) hg).trans (hcell k (by rw [List.length_map]; exact hlt))
      rw [List.getElem_map] at hck
      have hsum := HSL.out.1 k hlt
      have hps := sumRuns_succ R k hlt
      have hlet := HSL.out.2 k hlt
      have hLT : Hid (longAll (R.take (k + 1)) (byteAt letter 0) many = (!(R[k].1 == byteAt letter 0) || decide (many ≤ (R[k].2 : Int)))) := by
        have : longAll (R.take (k + 1)) (byteAt letter 0) many = (!(R[k].1 == byteAt letter 0) || decide (many ≤ (R[k].2 : Int))) := by
          rw [List.take_succ_eq_append_getElem hlt, longAll_snoc, HA.out, Bool.true_and]
        exact Lib.hid this
      have hmem : R[k] ∈ R := List.getElem_mem hlt
      have hALL : Hid (longAll (R.take (k + 1)) (byteAt letter 0) many = false → longAll R (byteAt letter 0) many = false) := by
        have : longAll (R.take (k + 1)) (byteAt letter 0) many = false → longAll R (byteAt letter 0) many = false := fun h => by
          have h2 : longAll (R.take (k + 1) ++ R.drop (k + 1)) (byteAt letter 0) many = false := by
            unfold longAll at h ⊢
            rw [List.all_append, h]; rfl
          rwa [List.take_append_drop] at h2
        exact Lib.hid this
      rw [HRD.out] at hsum
      generalize hrk : R[k] = rk at *
      obtain ⟨rc, rn⟩ := rk
      simp only at hck hsum hps hlet hLT
      have hpos : 1 ≤ rn := HPOS.out _ hmem
      have hps' : sumRuns R k < s.size := by omega
      have hsb : s[sumRuns R k] = rc := (byteAt_eq s _ hps').trans hlet
      have HPS := Lib.hid hps
      have hp14 : sumRuns R k ≤ 14 := by omega
      clear hlet hps hmem hcell hrk
      generalize sumRuns R k = p at *
      have hrn : (rn : Int) ≤ 14 := by omega
      by_cases t1 : (rc == letter[0]) = true
      · have t1' : ((rc.toNat : Int) == (letter[0].toNat : Int)) = true := by rw [u8_beq]; exact t1
        have t1c : (rc == byteAt letter 0) = true := by rw [← hc1.out]; exact t1
        by_cases t2 : (rn : Int) < many
        · have HF : Hid (longAll R (byteAt letter 0) many = false) := by
            have : longAll R (byteAt letter 0) many = false := hALL.out (by rw [hLT.out, t1c]; simp; omega)
            exact Lib.hid this
          clear t1 t1c
          go_wp2
          go_quiet (fail)
          go_wp2
          go_ret
          exact ⟨ret_bool (by rw [HRR.out, HF.out]), below_drewN Q1.out _⟩
        · have HF : Hid (longAll (R.take (k + 1)) (byteAt letter 0) many = true) := by
            have : longAll (R.take (k + 1)) (byteAt letter 0) many = true := by rw [hLT.out, t1c]; simp; omega
            exact Lib.hid this
          clear t1 t1c
          go_wp2
          go_quiet (fail)
          go_wp2
          go_roundw
          case rel => exact ⟨k + 1, hlt, by go_num, by rw [HPS.out]; go_num, HF.out, below_drewN HB.out _⟩
          case measure => simp [intOf]; omega
      · have t1' : ((rc.toNat : Int) == (letter[0].toNat : Int)) = false := by rw [u8_beq]; simpa using t1
        have HF : Hid (longAll (R.take (k + 1)) (byteAt letter 0) many = true) := by
          have t1c : (rc == byteAt letter 0) = false := by rw [← hc1.out]; simpa using t1
          have : longAll (R.take (k + 1)) (byteAt letter 0) many = true := by rw [hLT.out, t1c]; rfl
          exact Lib.hid this
        clear t1
        go_wp2
        go_quiet (fail)
        go_wp2
        go_roundw
        case rel => exact ⟨k + 1, hlt, by go_num, by rw [HPS.out]; go_num, HF.out, below_drewN HB.out _⟩
        case measure => simp [intOf]; omega
    · obtain rfl : k = R.length := by omega
      have HF : Hid (longAll R (byteAt letter 0) many = true) := by
        have := HA.out
        rw [List.take_length] at this
        exact Lib.hid this
      go_wp2
      go_ret
      exact ⟨ret_bool (by rw [HRR.out, HF.out]), Q1.out⟩
end Go.Proofs.Ytlbblfbiiceofaa

namespace Go.Proofs.Ytlbblfbiiceofaa
open Go.RowKit

theorem Ru.keeps_of {r : Ru} {s : ByteArray} (h : r.ok = true) (hw : wordOk s = true) : r.keeps s = r.holds s := by simp [Ru.keeps, h, hw]

set_option maxHeartbeats 1600000 in
theorem implKeeps_any (kind : Int) (letter thn : ByteArray) (many : Int) (s : ByteArray) (m : Int) (w : World) (h1 : letter.size ≤ maxLen) (h2 : thn.size ≤ maxLen) (hs : s.size ≤ maxLen) (hm : w.cell? ⟨0, 0, none⟩ = some (.int .i64 m)) :
    Calls Try.prog 73 #[.agg #[.int .i64 kind, .string letter, .string thn, .int .i64 many], .string s] w
      fun e w' => e = .returned (.bool ((Ru.mk kind letter thn many).keeps s)) ∧ Below w.heap.size w w' := by
  by_cases hok : (Ru.mk kind letter thn many).ok = true
  · by_cases hw : wordOk s = true
    · rw [Ru.keeps_of hok hw]
      obtain ⟨hl, hr⟩ := Ru.ok_iff.1 hok
      simp only at hl hr
      rcases hr with ⟨rfl, rfl, h0, h4⟩ | ⟨rfl, rfl, h0, h4⟩ | ⟨rfl, ht, rfl⟩ | ⟨rfl, rfl, h0, h4⟩ | ⟨rfl, rfl, h0, h4⟩
      · exact implKeeps_0 letter many s w hl h0 h4 hw
      · exact implKeeps_1 letter many s w hl h0 h4 hw
      · exact implKeeps_2 letter thn m s w hl ht hm hw
      · exact implKeeps_3 letter many s w hl h0 h4 hw
      · exact implKeeps_4 letter many s w hl h0 h4 hw
    · have hw' : wordOk s = false := by simpa using hw
      have HF : Hid ((Ru.mk kind letter thn many).keeps s = false) := by
        have : (Ru.mk kind letter thn many).keeps s = false := by simp [Ru.keeps, hw']
        exact Lib.hid this
      clear hw
      go_enter Try.func73, Try.ntmps73
      go_wp2_with fail
      refine (implRuleOk_any kind letter thn many _ h1 h2).mono ?_
      rintro e w1 ⟨rfl, hb1⟩
      rw [hok]
      simp only [World.size_alloc] at hb1
      have q1 := (ru_cells kind letter thn many hb1).2.2.2.2.1
      go_wp2_with (go_at_call 56; refine (implWordOk_any _ _ hs).mono ?_; rintro e w' ⟨rfl, rfl⟩)
      go_ret
      exact ⟨ret_bool HF.out.symm, q1⟩
  · have hok' : (Ru.mk kind letter thn many).ok = false := by simpa using hok
    have HF : Hid ((Ru.mk kind letter thn many).keeps s = false) := by
      have : (Ru.mk kind letter thn many).keeps s = false := by simp [Ru.keeps, hok']
      exact Lib.hid this
    clear hok
    go_enter Try.func73, Try.ntmps73
    go_wp2_with fail
    refine (implRuleOk_any kind letter thn many _ h1 h2).mono ?_
    rintro e w1 ⟨rfl, hb1⟩
    rw [hok']
    simp only [World.size_alloc] at hb1
    have q1 := (ru_cells kind letter thn many hb1).2.2.2.2.1
    go_wp2_with fail
    go_ret
    exact ⟨ret_bool HF.out.symm, q1⟩

set_option maxHeartbeats 1600000 in
theorem specKeeps_any (kind : Int) (letter thn : ByteArray) (many : Int) (s : ByteArray) (w : World) (hs : s.size ≤ maxLen) :
    Calls Try.prog 103 #[.agg #[.int .i64 kind, .string letter, .string thn, .int .i64 many], .string s] w
      fun e w' => e = .returned (.bool ((Ru.mk kind letter thn many).keeps s)) ∧ Below w.heap.size w w' := by
  by_cases hok : (Ru.mk kind letter thn many).ok = true
  · by_cases hw : wordOk s = true
    · rw [Ru.keeps_of hok hw]
      obtain ⟨hl, hr⟩ := Ru.ok_iff.1 hok
      simp only at hl hr
      rcases hr with ⟨rfl, rfl, h0, h4⟩ | ⟨rfl, rfl, h0, h4⟩ | ⟨rfl, ht, rfl⟩ | ⟨rfl, rfl, h0, h4⟩ | ⟨rfl, rfl, h0, h4⟩
      · exact specKeeps_0 letter many s w hl h0 h4 hw
      · exact specKeeps_1 letter many s w hl h0 h4 hw
      · exact specKeeps_2 letter thn s w hl ht hw
      · exact specKeeps_3 letter many s w hl h0 h4 hw
      · exact specKeeps_4 letter many s w hl h0 h4 hw
    · have hw' : wordOk s = false := by simpa using hw
      have HF : Hid ((Ru.mk kind letter thn many).keeps s = false) := by
        have : (Ru.mk kind letter thn many).keeps s = false := by simp [Ru.keeps, hw']
        exact Lib.hid this
      clear hw
      go_enter Try.func103, Try.ntmps103
      go_wp2_with fail
      refine (specRuleOk_any kind letter thn many _).mono ?_
      rintro e w1 ⟨rfl, hb1⟩
      rw [hok]
      simp only [World.size_alloc] at hb1
      have q1 := (ru_cells kind letter thn many hb1).2.2.2.2.1
      go_wp2_with (go_at_call 58; refine (specWordOk_any _ _ hs).mono ?_; rintro e w' ⟨rfl, rfl⟩)
      go_ret
      exact ⟨ret_bool HF.out.symm, q1⟩
  · have hok' : (Ru.mk kind letter thn many).ok = false := by simpa using hok
    have HF : Hid ((Ru.mk kind letter thn many).keeps s = false) := by
      have : (Ru.mk kind letter thn many).keeps s = false := by simp [Ru.keeps, hok']
      exact Lib.hid this
    clear hok
    go_enter Try.func103, Try.ntmps103
    go_wp2_with fail
    refine (specRuleOk_any kind letter thn many _).mono ?_
    rintro e w1 ⟨rfl, hb1⟩
    rw [hok']
    simp only [World.size_alloc] at hb1
    have q1 := (ru_cells kind letter thn many hb1).2.2.2.2.1
    go_wp2_with fail
    go_ret
    exact ⟨ret_bool HF.out.symm, q1⟩
end Go.Proofs.Ytlbblfbiiceofaa

namespace Go.Proofs.Ytlbblfbiiceofaa
open Go.RowKit

set_option maxHeartbeats 3200000 in
theorem l5Keeps_any (s : ByteArray) (hs : wordOk s = true) (T : Tm) : ∀ (v : Value) (w : World), IsMarks w v T.post → T.post.length ≤ 9 →
    Calls Try.prog 86 #[v, .string s] w fun e w' => e = .returned (.bool (T.keeps s)) ∧ Below w.heap.size w w' := by
  have h14 := wordOk_size hs
  have hmx : s.size ≤ maxLen := by unfold maxLen; omega
  induction T with
  | rule r =>
    intro v w h hl
    obtain ⟨a, n, c, rfl⟩ := h.slice
    obtain ⟨g, off, rfl, rfl, h1, h2, hg, hc⟩ := h.cells (by simp [Tm.post])
    obtain ⟨c0, c1, c2, c3, c4⟩ := hc 0 (by simp [Tm.post])
    obtain ⟨kd, lt, th, mn⟩ := r
    have HC := Lib.hid (fun W => specKeeps_any kd lt th mn s W hmx)
    have HE : Hid (Tm.keeps s (.rule ⟨kd, lt, th, mn⟩) = (Ru.mk kd lt th mn).keeps s) := Lib.hid rfl
    simp only [Tm.post, List.length_singleton, List.getElem_cons_zero, Nat.zero_mul, Nat.add_zero] at c0 c1 c2 c3 c4 h1 h2
    unfold maxLen at h2
    clear h hc hl
    show Calls Try.prog _ #[.slice (some ⟨g, off, none⟩) 1 c, .string s] w _
    go_enter Try.func86, Try.ntmps86
    go_wp2_with fail
    refine (HC.out _).mono ?_
    rintro e w2 ⟨rfl, hb2⟩
    go_wp2_with fail
    go_ret
    exact ⟨ret_bool HE.out.symm, hb2⟩
  | not a ih =>
    intro v w h hl
    have hpos := a.post_pos
    have hlen : (Tm.not a).post.length = a.post.length + 1 := by simp [Tm.post]
    obtain ⟨va, n, c, rfl⟩ := h.slice
    have HTK := Lib.hid (fun (k : Nat) (hk : k ≤ n) => h.take k hk)
    obtain ⟨g, off, rfl, rfl, h1, h2, hg, hc⟩ := h.cells (by omega)
    have hcell := (hc a.post.length (by omega)).1
    have hm : (Tm.not a).post[a.post.length]'(by omega) = markOf 3 := by simp [Tm.post]
    rw [hm] at hcell
    have htk : (Tm.not a).post.take a.post.length = a.post := by simp [Tm.post]
    have HI := Lib.hid (ih (.slice (some ⟨g, off, none⟩) a.post.length c) w (by have := HTK.out a.post.length (by omega); rwa [htk] at this) (by omega))
    have HE : Hid (Tm.keeps s (.not a) = !a.keeps s) := Lib.hid rfl
    unfold maxLen at h2
    rw [hlen] at *
    have hl8 : a.post.length ≤ 8 := by omega
    clear h hc hm htk HTK ih hlen hl
    simp only [markOf] at hcell
    generalize a.post.length = la at *
    generalize a.keeps s = x at *
    have hq : IntKind.i64.wrap (((la + 1 : Nat) : Int) - 1) = (la : Int) := by rw [IntWalk.i64_in _ (by omega)]; omega
    have hq2 : IntKind.i64.wrap ((la : Int) + 1 - 1) = (la : Int) := by rw [IntWalk.i64_in _ (by omega)]; omega
    go_enter Try.func86, Try.ntmps86
    go_wp2_with fail
    refine HI.out.mono ?_
    rintro e w2 ⟨rfl, hb2⟩
    go_wp2_with fail
    go_ret
    exact ⟨ret_bool HE.out.symm, hb2⟩
  | two o a b iha ihb =>
    intro v w h hl
    have hposa := a.post_pos
    have hposb := b.post_pos
    have hlen : (Tm.two o a b).post.length = a.post.length + b.post.length + 1 := by simp [Tm.post]; omega
    obtain ⟨va, n, c, rfl⟩ := h.slice
    have HTK := Lib.hid (fun (k : Nat) (hk : k ≤ n) => h.take k hk)
    have HH := Lib.hid h
    obtain ⟨g, off, rfl, rfl, h1, h2, hg, hc⟩ := h.cells (by omega)
    have hcell := (hc (a.post.length + b.post.length) (by omega)).1
    have hm : (Tm.two o a b).post[a.post.length + b.post.length]'(by omega) = markOf (if o = true then 2 else 1) := by
      have : (Tm.two o a b).post[a.post.length + b.post.length]? = some (markOf (if o = true then 2 else 1)) := by
        rw [Tm.post, List.getElem?_append_right (by simp)]; simp
      rw [List.getElem?_eq_getElem (by omega)] at this
      exact Option.some.inj this
    rw [hm] at hcell
    have hta : (Tm.two o a b).post.take a.post.length = a.post := by rw [Tm.post, List.append_assoc, List.take_left]
    have htb : ((Tm.two o a b).post.take (a.post.length + b.post.length)).drop a.post.length = b.post := by
      rw [Tm.post, List.take_left' (by simp), List.drop_left]
    have HST := Lib.hid (l4Starts_any a.post [markOf (if o = true then 2 else 1)] b (.slice (some ⟨g, off, none⟩) (Tm.two o a b).post.length c) ((a.post.length : Int) + b.post.length - 1) w HH.out hl (by omega))
    have HIA := Lib.hid (iha (.slice (some ⟨g, off, none⟩) a.post.length c) w (by have := HTK.out a.post.length (by omega); rwa [hta] at this) (by omega))
    have HIB := Lib.hid (fun W (hb : Below w.heap.size w W) => ihb (.slice (some ⟨g, off + a.post.length * 5, none⟩) b.post.length (c - a.post.length)) W (by
      have := (HH.out.cut a.post.length (a.post.length + b.post.length) (by omega) (by omega)).below hb
      rw [htb, Nat.add_sub_cancel_left] at this; exact this) (by omega))
    have HEO : Hid (Tm.keeps s (.two true a b) = (a.keeps s || b.keeps s) ∧ Tm.keeps s (.two false a b) = (a.keeps s && b.keeps s)) := Lib.hid ⟨rfl, rfl⟩
    unfold maxLen at h2
    rw [hlen] at *
    clear HH h hc hm hta htb HTK iha ihb hlen hmx h14
    generalize a.post.length = la at *
    generalize b.post.length = lb at *
    generalize a.keeps s = x at *
    generalize b.keeps s = y at *
    have hq2 : IntKind.i64.wrap ((la : Int) + lb + 1 - 1) = ((la + lb : Nat) : Int) := by rw [IntWalk.i64_in _ (by omega)]; omega
    have hq3 : IntKind.i64.wrap (((la + lb : Nat) : Int) - 1) = (la : Int) + lb - 1 := by rw [IntWalk.i64_in _ (by omega)]; omega
    have hcla : ¬ c = la := by omega
    have hsub : la + lb - la = lb := by omega
    cases o with
    | true =>
      simp only [markOf, if_true] at hcell
      cases x with
      | true =>
        go_enter Try.func86, Try.ntmps86
        go_wp2_with fail
        refine HST.out.mono ?_
        rintro e w2 ⟨rfl, rfl⟩
        go_wp2_with fail
        refine HIA.out.mono ?_
        rintro e w3 ⟨rfl, hb3⟩
        go_wp2_with fail
        go_ret
        exact ⟨ret_bool HEO.out.1.symm, hb3⟩
      | false =>
        go_enter Try.func86, Try.ntmps86
        go_wp2_with fail
        refine HST.out.mono ?_
        rintro e w2 ⟨rfl, rfl⟩
        go_wp2_with fail
        refine HIA.out.mono ?_
        rintro e w3 ⟨rfl, hb3⟩
        go_wp2_with fail
        refine (HIB.out _ hb3).mono ?_
        rintro e w4 ⟨rfl, hb4⟩
        go_wp2_with fail
        go_ret
        exact ⟨ret_bool (by rw [HEO.out.1]; rfl), hb3.trans (hb4.mono hb3.size)⟩
    | false =>
      have hcell : w.cell? ⟨g, off + (la + lb) * 5, none⟩ = some (.int .i64 1) := hcell
      cases x with
      | true =>
        go_enter Try.func86, Try.ntmps86
        go_wp2_with fail
        refine HST.out.mono ?_
        rintro e w2 ⟨rfl, rfl⟩
        go_wp2_with fail
        refine HIA.out.mono ?_
        rintro e w3 ⟨rfl, hb3⟩
        go_wp2_with fail
        refine (HIB.out _ hb3).mono ?_
        rintro e w4 ⟨rfl, hb4⟩
        go_wp2_with fail
        go_ret
        exact ⟨ret_bool (by rw [HEO.out.2]; rfl), hb3.trans (hb4.mono hb3.size)⟩
      | false =>
        go_enter Try.func86, Try.ntmps86
        go_wp2_with fail
        refine HST.out.mono ?_
        rintro e w2 ⟨rfl, rfl⟩
        go_wp2_with fail
        refine HIA.out.mono ?_
        rintro e w3 ⟨rfl, hb3⟩
        go_wp2_with fail
        go_ret
        exact ⟨ret_bool HEO.out.2.symm, hb3⟩

theorem specKeepsTerm_any (ms : List Mk) (v : Value) (s : ByteArray) (w : World) (h : IsMarks w v ms) (hl : ms.length ≤ 1048576) (hs : s.size ≤ maxLen) :
    Calls Try.prog 68 #[v, .string s] w fun e w' => (∃ b, IsKept ms s b ∧ e = .returned (.bool b)) ∧ Below w.heap.size w w' := by
  have H1 := Lib.hid (specTermOk_any ms v w h hl)
  have H2 := Lib.hid (fun W => specWordOk_any s W hs)
  have HM := Lib.hid h
  obtain ⟨a, n, c, rfl⟩ := h.slice
  clear h
  go_enter Try.func68, Try.ntmps68
  go_wp2_with fail
  refine H1.out.mono ?_
  rintro e w2 ⟨rfl, hb2⟩
  have B2 := Lib.hid hb2
  clear hb2
  cases hk : termOk ms with
  | false =>
    go_wp2_with fail
    go_ret
    exact ⟨⟨false, .inr ⟨.inl hk, rfl⟩, rfl⟩, B2.out⟩
  | true =>
    obtain ⟨T, hg, hp, h9⟩ := tree_of hk
    go_wp2_with fail
    refine (H2.out _).mono ?_
    rintro e w3 ⟨rfl, rfl⟩
    cases hw : wordOk s with
    | false =>
      go_wp2_with fail
      go_ret
      exact ⟨⟨false, .inr ⟨.inr hw, rfl⟩, rfl⟩, B2.out⟩
    | true =>
      have HL := Lib.hid (l5Keeps_any s hw T (.slice a n c) w2 (by rw [hp]; exact HM.out.below B2.out) (by rw [hp]; exact h9))
      have HK : Hid (IsKept ms s (T.keeps s)) := Lib.hid (.inl ⟨hk, hw, T, hg, hp, rfl⟩)
      generalize T.keeps s = b at *
      go_wp2_with fail
      refine HL.out.mono ?_
      rintro e w4 ⟨rfl, hb4⟩
      go_wp2_with fail
      go_ret
      exact ⟨⟨b, HK.out, rfl⟩, B2.out.trans (hb4.mono B2.out.size)⟩
end Go.Proofs.Ytlbblfbiiceofaa

namespace Go.Proofs.Ytlbblfbiiceofaa
open Go.RowKit

/-- a row that is owned, cut behind its first elements -/
theorem ownsRow_cut1 {w : World} {base : Nat} {e : TypeId} {g cap n : Nat} {xs : List Value} {k : Nat} (hk : k ≤ n) (h : w.ownsRow base e 1 (.slice (some ⟨g, 0, none⟩) n cap) n xs) : w.ownsRow base e 1 (.slice (some ⟨g, 0, none⟩) k cap) k (xs.take k) := by
  have hl := h.1
  obtain ⟨_, h2⟩ := h
  rcases h2 with ⟨h0, _⟩ | ⟨g', cap', cur, hv, hg, hh, hn, hcap, hsz, htake⟩
  · cases h0
  · cases hv
    refine ⟨by rw [List.length_take]; omega, .inr ⟨g, cap, cur, rfl, hg, hh, by omega, hcap, hsz, ?_⟩⟩
    rw [← htake, List.take_take, Nat.mul_one, Nat.mul_one, Nat.min_eq_left hk]
theorem Own.cut {wB w : World} {ts : List Thing} {e : TypeId} {g cap n : Nat} {xs : List Value} {k : Nat} (h : Own wB (rowT e 1 (.slice (some ⟨g, 0, none⟩) n cap) n xs :: ts) w) (hk : k ≤ n) : Own wB (rowT e 1 (.slice (some ⟨g, 0, none⟩) k cap) k (xs.take k) :: ts) w :=
  ⟨h.keep, ⟨fun t ht => by
    rcases List.mem_cons.1 ht with rfl | ht
    · exact ⟨ownsRow_cut1 hk h.ap.head, fun j e => h.ap.lt j e⟩
    · exact h.ap.all t (List.mem_cons_of_mem _ ht), List.pairwise_cons.2 ⟨fun u hu j e => (List.pairwise_cons.1 h.ap.two).1 u hu j e, (List.pairwise_cons.1 h.ap.two).2⟩⟩⟩
/-- the elements behind a place -/
theorem bools_behind {w : World} {g cap n : Nat} {xs : List Bool} {e : TypeId} (h : w.ownsRow 0 e 1 (.slice (some ⟨g, 0, none⟩) n cap) n (xs.map Value.bool)) (k : Nat) (hk : k ≤ n) (hc : cap ≤ maxLen) : IsBools w (.slice (some ⟨g, k, none⟩) (n - k) (cap - k)) (xs.drop k) := by
  have hl : xs.length = n := by have := h.1; simpa using this
  have hcn : n ≤ cap := by
    rcases h.2 with ⟨h0, _⟩ | ⟨g', cap', cur, hv, hg, hh, hn, hcap, hsz, htake⟩
    · cases h0
    · cases hv; exact hn
  refine ⟨some ⟨g, k, none⟩, cap - k, by rw [List.length_drop, hl], by rw [List.length_drop]; omega, by omega, ?_⟩
  by_cases h0 : k = n
  · exact .inl (List.drop_of_length_le (by omega))
  · refine .inr ⟨g, k, rfl, (h.lt g rfl).2, fun i hi => ?_⟩
    rw [List.length_drop] at hi
    rw [h.cellAt (k + i) (by omega)]
    simp [List.getElem?_eq_getElem (show k + i < xs.length by omega)]
theorem row_cap {w : World} {base g cap n : Nat} {xs : List Value} {e : TypeId} {size : Nat} (h : w.ownsRow base e size (.slice (some ⟨g, 0, none⟩) n cap) n xs) : n ≤ cap ∧ cap ≤ maxLen := by
  rcases h.2 with ⟨h0, _⟩ | ⟨g', cap', cur, hv, hg, hh, hn, hcap, hsz, htake⟩
  · cases h0
  · cases hv; exact ⟨hn, hcap⟩

theorem infoBoolK : (Try.prog.info? 4).map (fun i => (i.zero, i.size, i.bytes)) = some (some (.bool false), 1, 1) := by kernel_rfl
/-- the stack of what the parts keep -/
def stackB (s : ByteArray) (sts : List Tm) : List Value := (sts.map (Tm.keeps s)).map Value.bool
theorem stackB_more (s : ByteArray) (sts : List Tm) (T : Tm) : stackB s (sts ++ [T]) = stackB s sts ++ [.bool (T.keeps s)] := by simp [stackB]

set_option maxHeartbeats 6400000 in
theorem foldedBool_any (ms : List Mk) (hwf : ∀ m ∈ ms, m.wf) (hok : termOk ms = true) (s : ByteArray) (B : Nat) (v : Value) (w : World) (h : IsMarks w v ms)
    (HCL0 : ∀ (m : Mk) (subs : List Tm) (T : Tm) (uv : Value) (W : World), Puts m subs T → m.wf → Below w.heap.size w W → IsBools W uv (subs.map (Tm.keeps s)) → Calls Try.prog 72 #[m.val, uv, .pointer (some ⟨B, 0, none⟩)] W fun e W' => e = .returned (.bool (T.keeps s)) ∧ Below W.heap.size W W') :
    Calls Try.prog 71 #[v, .func (.func 72) #[] #[.pointer (some ⟨B, 0, none⟩)]] w fun e w' => (∃ T : Tm, T.good = true ∧ T.post = ms ∧ e = .returned (.bool (T.keeps s))) ∧ Below w.heap.size w w' := by
  obtain ⟨j0, hj, hy0, hy1, hy2⟩ := info_parts infoBoolK
  have HJ := Lib.hid (And.intro hj (And.intro hy0 (And.intro hy1 hy2)))
  clear hj hy0 hy1 hy2
  have hlen : ms.length ≤ 9 := by
    simp only [termOk, Bool.and_eq_true, decide_eq_true_eq] at hok; exact hok.1
  have hl0 : 0 < ms.length := by
    obtain ⟨T, _, hp, _⟩ := tree_of hok
    rw [← hp]; exact T.post_pos
  obtain ⟨a, n, cap, rfl⟩ := h.slice
  obtain ⟨g, off, rfl, rfl, h1, h2, hg, hc⟩ := h.cells hl0
  unfold maxLen at h2
  have HC := Lib.hid hc
  have HOK := Lib.hid hok
  have HWF := Lib.hid hwf
  have HCL := Lib.hid HCL0
  have O0 := Lib.hid ((Own.nil w).idle 4)
  clear hc hok hwf h HCL0
  go_enter Try.func71, Try.ntmps71
  go_wp2_with fail
  go_loopw [5, 13] (fun sv i wr => ∃ (k : Nat) (sts : List Tm), k ≤ ms.length ∧ i = .int .i64 (k : Int) ∧ (∀ T ∈ sts, T.good = true) ∧ postL sts = ms.take k ∧ Own w [rowT 4 1 sv sts.length (stackB s sts)] wr) (fun _ i _ => ms.length - (intOf i).toNat)
  case atStart => exact ⟨0, [], Nat.zero_le _, rfl, by simp, rfl, O0.out⟩
  case round =>
    obtain ⟨k, sts, hk, rfl, hgd, hpo, hO⟩ := hrel
    have O1 := Lib.hid hO
    have HGD := Lib.hid hgd
    have HPO := Lib.hid hpo
    obtain ⟨sa, sc, rfl⟩ := ownsRow_slice (O1.out.row 0 (by simp) rfl)
    clear hO
    by_cases hlt : k < ms.length
    · have hltI : (k : Int) < (ms.length : Int) := by omega
      obtain ⟨pre, subs, T, rfl, hput, hgd2, hpo2⟩ := step_trees HOK.out hlt hgd hpo
      have HPUT := Lib.hid hput
      have HGD2 := Lib.hid hgd2
      have HPO2 := Lib.hid hpo2
      have hsl := hput.len
      have hpn : (pre ++ subs).length ≤ k := by
        have := congrArg List.length hpo
        rw [List.length_take] at this
        have := postL_len (pre ++ subs)
        omega
      have hmwf := HWF.out ms[k] (List.getElem_mem hlt)
      have HMW := Lib.hid hmwf
      obtain ⟨c0, c1, c2, c3, c4⟩ := (HC.out k hlt).below O1.out.keep hg
      have HU := Lib.hid (fun W => partsUnder_any ms[k] hmwf W)
      have hfine : ms[k].fine = true := by
        have hl : leftOf (ms.take k) 0 = some (pre ++ subs).length := by rw [← hpo, postL_good hgd, Nat.zero_add]
        by_cases hf : ms[k].fine = true
        · exact hf
        · have := leftOf_no hlt hl (fun h => hf h.1)
          rw [HOK.out] at this; cases this
      have HF := Lib.hid hfine
      have hlen2 : (pre ++ subs).length = pre.length + subs.length := List.length_append
      clear hput hgd2 hpo2 hgd hpo hmwf hfine
      generalize ms[k] = m at *
      obtain ⟨k1, r1, l1, t1, n1⟩ := m
      have HU2 : Hid (∀ W, Calls Try.prog 88 #[.agg #[.int .i64 k1, .int .i64 r1, .string l1, .string t1, .int .i64 n1]] W (UnderPost ⟨k1, r1, l1, t1, n1⟩ W)) := Lib.hid HU.out
      clear HU
      simp only at c0 c1 c2 c3 c4
      go_wp2_with fail
      refine (HU2.out _).mono ?_
      rintro e w2 ⟨u, rfl, hu, hb2⟩
      have O2 := Lib.hid ((O1.out.alloc (.cells #[.int .i64 k1, .int .i64 r1, .string l1, .string t1, .int .i64 n1] 81)).below hb2)
      have hmk : ∀ i, w2.cell? ⟨wr.heap.size, i, none⟩ = (#[.int .i64 k1, .int .i64 r1, .string l1, .string t1, .int .i64 n1] : Array Value)[i]? := fun i => (hb2.cell (p := ⟨wr.heap.size, i, none⟩) (by simp)).trans (World.cell?_alloc_new wr _ _ i)
      have m0 := hmk 0
      have m1 := hmk 1
      have m2 := hmk 2
      have m3 := hmk 3
      have m4 := hmk 4
      have hml : wr.heap.size < w2.heap.size := by have := hb2.size; simp at this; omega
      simp only [List.getElem?_toArray, List.getElem?_cons_succ, List.getElem?_cons_zero] at m0 m1 m2 m3 m4
      rw [HF.out] at *
      have hue := hu rfl
      rw [← hsl] at hue
      subst hue
      have HCW : Hid (∀ (uv : Value) (W : World), Below w.heap.size w W → IsBools W uv (subs.map (Tm.keeps s)) → Calls Try.prog 72 #[.agg #[.int .i64 k1, .int .i64 r1, .string l1, .string t1, .int .i64 n1], uv, .pointer (some ⟨B, 0, none⟩)] W fun e W' => e = .returned (.bool (T.keeps s)) ∧ Below W.heap.size W W') := Lib.hid (fun uv W a b => HCL.out ⟨k1, r1, l1, t1, n1⟩ subs T uv W HPUT.out HMW.out a b)
      have hst : stackB s (pre ++ subs) = (pre.map (Tm.keeps s) ++ subs.map (Tm.keeps s)).map Value.bool := by simp [stackB]
      have hq : IntKind.i64.wrap (((pre ++ subs).length : Int) - (subs.length : Int)) = (pre.length : Int) := by rw [hlen2, IntWalk.i64_in _ (by omega)]; omega
      have HNP : Hid ((pre ++ subs).length - pre.length = subs.length ∧ pre.length ≤ (pre ++ subs).length ∧ (pre ++ subs).length ≤ 9 ∧ ((pre ++ subs).length = 0 → pre = [] ∧ subs = [])) := Lib.hid ⟨by omega, by omega, by omega, fun h => ⟨List.eq_nil_of_length_eq_zero (by omega), List.eq_nil_of_length_eq_zero (by omega)⟩⟩
      have HPOST := Lib.hid (stackB_more s pre T)
      rw [hst] at O2
      clear hu hb2 hmk c0 c1 c2 c3 c4 O1 hsl hlen2 hst hpn
      generalize wr.heap.size = MB at *
      generalize hnn : (pre ++ subs).length = nn at *
      clear hnn
      generalize hpl : pre.length = pl at *
      have HPL := Lib.hid hpl
      generalize hul : subs.length = ul at *
      clear hpl hul
      have hnp := HNP.out
      have hpn1 := hnp.2.1
      have hnn9 := hnp.2.2.1
      clear hnp
      rcases (O2.out.row 0 (by simp) rfl).2 with ⟨hvn, hn0⟩ | ⟨gs, scc, cur, hvn, -⟩
      · cases hvn
        obtain ⟨hpe, hse⟩ := HNP.out.2.2.2 hn0
        have HPE := Lib.hid hpe
        have hp0 : pl = 0 := by rw [← HPL.out, hpe]; rfl
        have hu0 : ul = 0 := by have := HNP.out.1; omega
        have O2d := Lib.hid ((O2.out.same (grown_drew w2 none)).sub (List.nil_sublist _))
        have HUB : Hid (IsBools w2.drew (.slice none 0 0) (subs.map (Tm.keeps s))) := Lib.hid (by rw [hse]; exact IsBools.nil _)
        clear hpe hse O2 HNP hn0
        subst hp0 hu0
        go_wp2_with fail
        go_region_law (first | (go_simp; go_at_call 72; refine (HCW.out _ _ O2d.out.keep HUB.out).mono ?_; rintro e w5 ⟨rfl, hb5⟩; have O5 := Lib.hid ((O2d.out.below hb5).idle 4)) | (refine step_append_lies _ rfl _ _ 84 rfl 0 4 j0 (.bool false) 1 1 Try.underlying84 HJ.out.1 HJ.out.2.1 HJ.out.2.2.1 HJ.out.2.2.2 rfl (by decide) (.slice none 0 0) 0 [] rfl ((O5.out.row 0 (by simp) rfl).alloc _) ⟨w5.heap.size, 0, none⟩ 1 1 [.bool (T.keeps s)] rfl rfl (cellW _ _ _) (by simp [Value.oneCell']) (by omega) (by unfold maxLen; omega) (by omega) (Nat.zero_le _) _ rfl ?_; intro g9 cp w6 hown hgrow hat hlt3; have O6 := Lib.hid (O5.out.push (i := 0) (by simp) rfl hgrow hown hat)))
        all_goals
          go_wp2
          go_roundw
          case rel =>
            refine ⟨k + 1, pre ++ [T], by omega, by go_num, HGD2.out, HPO2.out, ?_⟩
            rw [HPE.out]
            exact O6.out
          case measure => simp [intOf]; omega
      · cases hvn
        have hcap := row_cap (O2.out.row 0 (by simp) rfl)
        have hcm := hcap.2
        unfold maxLen at hcm
        have hsc1 : pl ≤ sc := by omega
        have O2d := Lib.hid (O2.out.same (grown_drew w2 none))
        obtain ⟨AD, had⟩ : ∃ AD : Option Addr, (if sc = pl then some (⟨gs, 0, none⟩ : Addr) else some ⟨gs, pl, none⟩) = AD := ⟨_, rfl⟩
        have HUB : Hid (IsBools w2.drew (.slice AD ul (sc - pl)) (subs.map (Tm.keeps s))) := Lib.hid (by
          have h := bools_behind (O2d.out.row 0 (by simp) rfl) pl hpn1 hcap.2
          rw [HNP.out.1, List.drop_left' (by rw [List.length_map]; exact HPL.out)] at h
          by_cases he : sc = pl
          · rw [if_pos he] at had
            subst had
            have hu0 : ul = 0 := by have := hcap.1; have := HNP.out.1; omega
            obtain ⟨a', c', he', h1, h2, h3⟩ := h
            simp only [Value.slice.injEq] at he'
            have hsub : (subs.map (Tm.keeps s)) = [] := List.eq_nil_of_length_eq_zero (by omega)
            exact ⟨some ⟨gs, 0, none⟩, sc - pl, by rw [hsub, hu0]; rfl, by rw [hsub]; exact Nat.zero_le _, by omega, .inl hsub⟩
          · rw [if_neg he] at had
            subst had
            exact h)
        have hnsub : nn - pl = ul := HNP.out.1
        go_wp2_with fail
        go_region_law (first | (go_simp; go_at_call 72; refine (HCW.out _ _ O2d.out.keep HUB.out).mono ?_; rintro e w5 ⟨rfl, hb5⟩; have O5 := Lib.hid ((O2d.out.below hb5).cut hpn1)) | (refine step_append_lies _ rfl _ _ 84 rfl 0 4 j0 (.bool false) 1 1 Try.underlying84 HJ.out.1 HJ.out.2.1 HJ.out.2.2.1 HJ.out.2.2.2 rfl (by decide) (.slice (some ⟨gs, 0, none⟩) pl sc) pl _ rfl ((O5.out.row 0 (by simp) rfl).alloc _) ⟨w5.heap.size, 0, none⟩ 1 1 [.bool (T.keeps s)] rfl rfl (cellW _ _ _) (by simp [Value.oneCell']) (by omega) (by unfold maxLen; omega) (by omega) (Nat.zero_le _) _ rfl ?_; intro g9 cp w6 hown hgrow hat hlt3; have O6 := Lib.hid (O5.out.push (i := 0) (by simp) rfl hgrow hown hat)))
        all_goals
          go_wp2
          go_roundw
          case rel =>
            refine ⟨k + 1, pre ++ [T], by omega, by go_num, HGD2.out, HPO2.out, ?_⟩
            rw [List.length_append, HPL.out, HPOST.out]
            have h := O6.out
            have e : (List.map Value.bool (pre.map (Tm.keeps s) ++ subs.map (Tm.keeps s))).take pl = stackB s pre := by
              rw [List.map_append, List.take_left' (by rw [List.length_map, List.length_map]; exact HPL.out)]; rfl
            rw [e] at h
            exact h
          case measure => simp [intOf]; omega
    · obtain rfl : k = ms.length := by omega
      obtain ⟨T, rfl⟩ := last_tree HOK.out hgd (by rw [hpo, List.take_length])
      have HT : Hid (T.good = true ∧ T.post = ms) := Lib.hid ⟨hgd T (by simp), by rw [← postL_one, hpo, List.take_length]⟩
      rcases (O1.out.row 0 (by simp) rfl).2 with ⟨hvn, hn0⟩ | ⟨gs, scc, cur, hvn, -⟩
      · cases hvn
      · cases hvn
        have hcell := World.ownsRow.cellAt (O1.out.row 0 (by simp) rfl) 0 (by simp)
        simp only [stackB, List.map_cons, List.map_nil, List.getElem?_cons_zero] at hcell
        simp only [List.length_singleton] at *
        clear hgd hpo
        go_wp2_with fail
        go_ret
        exact ⟨⟨T, HT.out.1, HT.out.2, rfl⟩, O1.out.keep⟩
end Go.Proofs.Ytlbblfbiiceofaa

namespace Go.Proofs.Ytlbblfbiiceofaa
open Go.RowKit

set_option maxHeartbeats 1600000 in
theorem keepsClos_any (m : Mk) (subs : List Tm) (T : Tm) (hp : Puts m subs T) (hwf : m.wf) (s : ByteArray) (hs : wordOk s = true) (B : Nat) (M : Int) (uv : Value) (W : World) (hu : IsBools W uv (subs.map (Tm.keeps s))) (hB : W.cell? ⟨B, 0, none⟩ = some (.string s)) (hM : W.cell? ⟨0, 0, none⟩ = some (.int .i64 M)) :
    Calls Try.prog 72 #[m.val, uv, .pointer (some ⟨B, 0, none⟩)] W fun e W' => e = .returned (.bool (T.keeps s)) ∧ Below W.heap.size W W' := by
  have h14 := wordOk_size hs
  have hmx : s.size ≤ maxLen := by unfold maxLen; omega
  have hal : ∀ o, Below W.heap.size W (W.alloc o) := fun o => (Below.refl _ _).alloc (Nat.le_refl _) o
  have hBl : B < W.heap.size := World.block_lt_of_cell? W ⟨B, 0, none⟩ hB
  have hMl : 0 < W.heap.size := World.block_lt_of_cell? W ⟨0, 0, none⟩ hM
  have HAL := Lib.hid hal
  cases hp with
  | rule r =>
    obtain ⟨kd, lt, th, mn⟩ := r
    obtain ⟨-, -, w1, w2, -⟩ := hwf
    have hB2 : ∀ o, (W.alloc o).cell? ⟨B, 0, none⟩ = some (.string s) := fun o => (HAL.out o).cell (p := ⟨B, 0, none⟩) hBl |>.trans hB
    have HC := Lib.hid (fun o => implKeeps_any kd lt th mn s M (W.alloc o) w1 w2 hmx ((HAL.out o).cell (p := ⟨0, 0, none⟩) hMl |>.trans hM))
    have HE : Hid (Tm.keeps s (.rule ⟨kd, lt, th, mn⟩) = (Ru.mk kd lt th mn).keeps s) := Lib.hid rfl
    clear hal hmx hu
    show Calls Try.prog _ #[.agg #[.int .i64 0, .int .i64 kd, .string lt, .string th, .int .i64 mn], uv, .pointer (some ⟨B, 0, none⟩)] W _
    go_enter Try.func72, Try.ntmps72
    go_wp2_with fail
    refine (HC.out _).mono ?_
    rintro e w3 ⟨rfl, hb3⟩
    go_wp2_with fail
    go_ret
    exact ⟨ret_bool HE.out.symm, (HAL.out _).trans (hb3.mono (by simp))⟩
  | not a =>
    obtain ⟨ua, un, uc, rfl⟩ := hu.slice
    obtain ⟨g, off, rfl, rfl, hg, hc⟩ := bools_cells3 hu (by simp)
    have hcell := hc 0 (by simp)
    simp only [List.map_cons, List.map_nil, List.getElem_cons_zero, Nat.add_zero] at hcell
    have HE : Hid (Tm.keeps s (.not a) = !a.keeps s) := Lib.hid rfl
    generalize a.keeps s = x at *
    clear hal hmx hu hc hwf hB hM
    show Calls Try.prog _ #[.agg #[.int .i64 3, .int .i64 0, .string ⟨#[]⟩, .string ⟨#[]⟩, .int .i64 0], .slice (some ⟨g, off, none⟩) 1 uc, .pointer (some ⟨B, 0, none⟩)] W _
    go_enter Try.func72, Try.ntmps72
    go_wp2_with fail
    go_ret
    exact ⟨ret_bool HE.out.symm, HAL.out _⟩
  | two o a b =>
    obtain ⟨ua, un, uc, rfl⟩ := hu.slice
    obtain ⟨g, off, rfl, rfl, hg, hc⟩ := bools_cells3 hu (by simp)
    have hcell := hc 0 (by simp)
    have hcell1 := hc 1 (by simp)
    simp only [List.map_cons, List.map_nil, List.getElem_cons_zero, List.getElem_cons_succ, Nat.add_zero] at hcell hcell1
    cases o with
    | true =>
      have HE : Hid (Tm.keeps s (.two true a b) = (a.keeps s || b.keeps s)) := Lib.hid rfl
      generalize a.keeps s = x at *
      generalize b.keeps s = y at *
      clear hal hmx hu hc hwf hB hM
      show Calls Try.prog _ #[.agg #[.int .i64 2, .int .i64 0, .string ⟨#[]⟩, .string ⟨#[]⟩, .int .i64 0], .slice (some ⟨g, off, none⟩) 2 uc, .pointer (some ⟨B, 0, none⟩)] W _
      cases x with
      | true =>
        go_enter Try.func72, Try.ntmps72
        go_wp2_with fail
        go_ret
        exact ⟨ret_bool HE.out.symm, HAL.out _⟩
      | false =>
        go_enter Try.func72, Try.ntmps72
        go_wp2_with fail
        go_ret
        exact ⟨ret_bool (by rw [HE.out]; rfl), HAL.out _⟩
    | false =>
      have HE : Hid (Tm.keeps s (.two false a b) = (a.keeps s && b.keeps s)) := Lib.hid rfl
      generalize a.keeps s = x at *
      generalize b.keeps s = y at *
      clear hal hmx hu hc hwf hB hM
      show Calls Try.prog _ #[.agg #[.int .i64 1, .int .i64 0, .string ⟨#[]⟩, .string ⟨#[]⟩, .int .i64 0], .slice (some ⟨g, off, none⟩) 2 uc, .pointer (some ⟨B, 0, none⟩)] W _
      cases x with
      | true =>
        go_enter Try.func72, Try.ntmps72
        go_wp2_with fail
        go_ret
        exact ⟨ret_bool (by rw [HE.out]; rfl), HAL.out _⟩
      | false =>
        go_enter Try.func72, Try.ntmps72
        go_wp2_with fail
        go_ret
        exact ⟨ret_bool HE.out.symm, HAL.out _⟩

theorem implKeepsTerm_any (ms : List Mk) (hwf : ∀ m ∈ ms, m.wf) (v : Value) (s : ByteArray) (M : Int) (w : World) (h : IsMarks w v ms) (hs : s.size ≤ maxLen) (hM : w.cell? ⟨0, 0, none⟩ = some (.int .i64 M)) :
    Calls Try.prog 36 #[v, .string s] w fun e w' => (∃ b, IsKept ms s b ∧ e = .returned (.bool b)) ∧ Below w.heap.size w w' := by
  have hal : Below w.heap.size w (w.alloc (.cells #[.string s] 9)) := (Below.refl _ _).alloc (Nat.le_refl _) _
  have hMl : 0 < w.heap.size := World.block_lt_of_cell? w ⟨0, 0, none⟩ hM
  have H1 := Lib.hid (implTermOk_any ms hwf v _ (h.below hal))
  have H2 := Lib.hid (fun W => implWordOk_any s W hs)
  have HM := Lib.hid (h.below hal)
  have B1 := Lib.hid hal
  have hc := World.cell?_alloc_new w #[.string s] 9 0
  simp only [List.getElem?_toArray, List.getElem?_cons_zero] at hc
  have hbl : w.heap.size < (w.alloc (.cells #[.string s] 9)).heap.size := by simp
  have HMX := Lib.hid ((hal.cell (p := ⟨0, 0, none⟩) hMl).trans hM)
  have HML := Lib.hid (show 0 < (w.alloc (.cells #[.string s] 9)).heap.size from Nat.lt_trans hMl hbl)
  have HWF := Lib.hid hwf
  clear h hal hM hMl hwf
  obtain ⟨a, n, c, rfl⟩ := HM.out.slice
  go_enter Try.func36, Try.ntmps36
  go_upto_region 1 with fail
  generalize (w.alloc (.cells #[.string s] 9)) = W1 at *
  generalize hR : w.heap.size = R at *
  have HR := Lib.hid hR
  clear hR
  go_wp2_with fail
  refine H1.out.mono ?_
  rintro e w2 ⟨rfl, hb2⟩
  have B2 := Lib.hid (B1.out.trans (hb2.mono (by rw [← HR.out]; exact B1.out.size)))
  have hc2 := (hb2.cell (p := ⟨R, 0, none⟩) hbl).trans hc
  have HM2 := Lib.hid (HM.out.below hb2)
  have HMX2 := Lib.hid ((hb2.cell (p := ⟨0, 0, none⟩) HML.out).trans HMX.out)
  clear hb2 hc hbl
  cases hk : termOk ms with
  | false =>
    go_wp2_with fail
    go_ret
    exact ⟨⟨false, .inr ⟨.inl hk, rfl⟩, rfl⟩, by rw [HR.out]; exact B2.out⟩
  | true =>
    go_wp2_with fail
    refine (H2.out _).mono ?_
    rintro e w3 ⟨rfl, rfl⟩
    cases hw : wordOk s with
    | false =>
      go_wp2_with fail
      go_ret
      exact ⟨⟨false, .inr ⟨.inr hw, rfl⟩, rfl⟩, by rw [HR.out]; exact B2.out⟩
    | true =>
      have hRl : R < w2.heap.size := World.block_lt_of_cell? w2 ⟨R, 0, none⟩ hc2
      have HF := Lib.hid (foldedBool_any ms HWF.out hk s R (.slice a n c) w2 HM2.out (fun m subs T uv W e1 e2 e3 e4 => keepsClos_any m subs T e1 e2 s hw R M uv W e4 ((e3.cell (p := ⟨R, 0, none⟩) hRl).trans hc2) ((e3.cell (p := ⟨0, 0, none⟩) (World.block_lt_of_cell? w2 ⟨0, 0, none⟩ HMX2.out)).trans HMX2.out)))
      have HK := Lib.hid hk
      have HW := Lib.hid hw
      clear hk hw hRl hc2
      go_wp2_with fail
      refine HF.out.mono ?_
      rintro e w4 ⟨⟨T, hg, hp, rfl⟩, hb4⟩
      have HT := Lib.hid (show IsKept ms s (T.keeps s) from .inl ⟨HK.out, HW.out, T, hg, hp, rfl⟩)
      generalize T.keeps s = b at *
      go_wp2_with fail
      go_ret
      exact ⟨⟨b, HT.out, rfl⟩, by rw [HR.out]; exact B2.out.trans (hb4.mono (by rw [← HR.out]; exact B2.out.size))⟩
end Go.Proofs.Ytlbblfbiiceofaa

namespace Go.Proofs.Ytlbblfbiiceofaa
open Go.RowKit

/-- whether all rows keep a term -/
def IsAll (ms : List Mk) (xs : List ByteArray) (b : Bool) : Prop :=
  (b = true ∧ rosterOk xs = true ∧ termOk ms = true ∧ ∀ s ∈ xs, IsKept ms s true) ∨ (b = false ∧ (rosterOk xs = false ∨ termOk ms = false ∨ ∃ s ∈ xs, IsKept ms s false))
theorem IsAll.one {ms : List Mk} {xs : List ByteArray} {b c : Bool} (h : IsAll ms xs b) (g : IsAll ms xs c) : b = c := by
  rcases h with ⟨rfl, h1, h2, h3⟩ | ⟨rfl, h⟩ <;> rcases g with ⟨rfl, g1, g2, g3⟩ | ⟨rfl, g⟩
  · rfl
  · rcases g with g | g | ⟨s, hs, g⟩
    · rw [h1] at g; cases g
    · rw [h2] at g; cases g
    · exact (h3 s hs).one g
  · rcases h with g | g | ⟨s, hs, g⟩
    · rw [g1] at g; cases g
    · rw [g2] at g; cases g
    · exact ((g3 s hs).one g).symm
  · rfl
theorem IsKept.term {ms : List Mk} {s : ByteArray} (h : IsKept ms s true) : termOk ms = true := by
  rcases h with ⟨h, _⟩ | ⟨_, h⟩
  · exact h
  · cases h
theorem maxl_lt {w : World} {M : Int} (h : w.cell? ⟨0, 0, none⟩ = some (.int .i64 M)) : 0 < w.heap.size := World.block_lt_of_cell? w ⟨0, 0, none⟩ h

theorem keepsAllClos_any (ms : List Mk) (hwf : ∀ m ∈ ms, m.wf) (v : Value) (s : ByteArray) (M : Int) (b : Nat) (W : World) (h : IsMarks W v ms) (hs : s.size ≤ maxLen) (hM : W.cell? ⟨0, 0, none⟩ = some (.int .i64 M)) (hc : W.cell? ⟨b, 0, none⟩ = some v) :
    Calls Try.prog 67 #[.string s, .pointer (some ⟨b, 0, none⟩)] W fun e w' => (∃ k, IsKept ms s k ∧ e = .returned (.bool (!k))) ∧ Below W.heap.size W w' := by
  have HK := Lib.hid (implKeepsTerm_any ms hwf v s M W h hs hM)
  obtain ⟨a, n, c, rfl⟩ := h.slice
  clear h hM
  go_enter Try.func67, Try.ntmps67
  go_wp2_with fail
  refine HK.out.mono ?_
  rintro e w1 ⟨⟨k, hk, rfl⟩, hb⟩
  have HKK := Lib.hid hk
  clear hk
  go_wp2_with fail
  go_ret
  exact ⟨⟨k, HKK.out, rfl⟩, hb⟩

/-- which row is the first that does not keep -/
def IdxPost (ms : List Mk) (xs : List ByteArray) (r : Int) : Prop := (r = -1 ∧ ∀ s ∈ xs, IsKept ms s true) ∨ (0 ≤ r ∧ r ≤ 100 ∧ ∃ s ∈ xs, IsKept ms s false)

set_option maxHeartbeats 1600000 in
theorem idxKeeps_any (ms : List Mk) (hwf : ∀ m ∈ ms, m.wf) (v u : Value) (xs : List ByteArray) (hsh : Short xs) (M : Int) (b : Nat) (w : World) (hm : IsMarks w v ms) (h : IsStrs w u xs) (hl : xs.length ≤ 100) (hb : b < w.heap.size) (hM : w.cell? ⟨0, 0, none⟩ = some (.int .i64 M)) (hc : w.cell? ⟨b, 0, none⟩ = some v) :
    Calls Try.prog 79 #[u, .func (.func 67) #[] #[.pointer (some ⟨b, 0, none⟩)]] w fun e w' => (∃ r, IdxPost ms xs r ∧ e = .returned (.int .i64 r)) ∧ Below w.heap.size w w' := by
  have HCL := Lib.hid (fun (W : World) (hB : Below w.heap.size w W) (s : ByteArray) (hs : s ∈ xs) => keepsAllClos_any ms hwf v s M b W (hm.below hB) (hsh s hs) ((hB.cell (p := ⟨0, 0, none⟩) (maxl_lt hM)).trans hM) ((hB.cell (p := ⟨b, 0, none⟩) hb).trans hc))
  have H := Lib.hid h
  obtain ⟨a, cap, rfl, hcp, hmx⟩ := h.form
  clear h hM hc hm hwf hsh
  go_enter Try.func79, Try.ntmps79
  go_wp2_with fail
  go_loopw [5, 8] (fun _ iv wr => ∃ k : Nat, k ≤ xs.length ∧ iv = .int .i64 (k : Int) ∧ Hid (∀ j (hj : j < xs.length), j < k → IsKept ms xs[j] true) ∧ Hid (Below w.heap.size w wr)) (fun _ iv _ => xs.length - (intOf iv).toNat)
  case atStart => exact ⟨0, Nat.zero_le _, rfl, Lib.hid (fun j _ hj => absurd hj (Nat.not_lt_zero _)), Lib.hid (Below.refl _ _)⟩
  case round =>
    obtain ⟨k, hk, rfl, HA, BB⟩ := hrel
    by_cases hlt : k < xs.length
    · obtain ⟨g, off, rfl, hg, hcl⟩ := H.out.at (by omega)
      have ck := (BB.out.cell (p := ⟨g, off + k, none⟩) hg).trans (hcl k hlt)
      have HC := Lib.hid (HCL.out wr BB.out xs[k] (List.getElem_mem hlt))
      have HY : Hid (IsKept ms xs[k] true → ∀ j (hj : j < xs.length), j < k + 1 → IsKept ms xs[j] true) := by
        have : IsKept ms xs[k] true → ∀ j (hj : j < xs.length), j < k + 1 → IsKept ms xs[j] true := fun h j hj hjk => by
          by_cases e : j = k
          · subst e; exact h
          · exact HA.out j hj (by omega)
        exact Lib.hid this
      have HN : Hid (IsKept ms xs[k] false → IdxPost ms xs (k : Int)) := Lib.hid (fun h => .inr ⟨by omega, by omega, xs[k], List.getElem_mem hlt, h⟩)
      clear hcl hg
      generalize xs[k] = s at *
      go_wp2_with fail
      refine HC.out.mono ?_
      rintro e w2 ⟨⟨kb, hkb, rfl⟩, hb2⟩
      have B2 := Lib.hid (BB.out.trans (hb2.mono BB.out.size))
      clear hb2
      cases kb with
      | true =>
        have HS := Lib.hid (HY.out hkb)
        clear hkb
        go_wp2_with fail
        go_roundw
        case rel => exact ⟨k + 1, by omega, by go_num, HS, B2⟩
        case measure => simp [intOf]; omega
      | false =>
        have HS := Lib.hid (HN.out hkb)
        clear hkb
        go_wp2_with fail
        go_ret
        exact ⟨⟨_, HS.out, rfl⟩, B2.out⟩
    · have HS : Hid (IdxPost ms xs (-1)) := by
        have : IdxPost ms xs (-1) := .inl ⟨rfl, fun s hs => by
          obtain ⟨j, hj, rfl⟩ := List.mem_iff_getElem.1 hs
          exact HA.out j hj (by omega)⟩
        exact Lib.hid this
      go_wp2_with fail
      go_ret
      exact ⟨⟨_, HS.out, rfl⟩, BB.out⟩

theorem contKeeps_any (ms : List Mk) (hwf : ∀ m ∈ ms, m.wf) (v u : Value) (xs : List ByteArray) (hsh : Short xs) (M : Int) (b : Nat) (w : World) (hm : IsMarks w v ms) (h : IsStrs w u xs) (hl : xs.length ≤ 100) (hb : b < w.heap.size) (hM : w.cell? ⟨0, 0, none⟩ = some (.int .i64 M)) (hc : w.cell? ⟨b, 0, none⟩ = some v) :
    Calls Try.prog 54 #[u, .func (.func 67) #[] #[.pointer (some ⟨b, 0, none⟩)]] w fun e w' => ((e = .returned (.bool false) ∧ ∀ s ∈ xs, IsKept ms s true) ∨ (e = .returned (.bool true) ∧ ∃ s ∈ xs, IsKept ms s false)) ∧ Below w.heap.size w w' := by
  have HI := Lib.hid (idxKeeps_any ms hwf v u xs hsh M b w hm h hl hb hM hc)
  obtain ⟨a, cap, rfl, hcp, hmx⟩ := h.form
  clear h hM hc hm hwf hsh
  go_enter Try.func54, Try.ntmps54
  go_wp2_with fail
  refine HI.out.mono ?_
  rintro e w2 ⟨⟨r, hr, rfl⟩, hb2⟩
  rcases hr with ⟨rfl, hr⟩ | ⟨hr0, hr1, hr⟩
  · have HR := Lib.hid hr
    clear hr
    go_wp2_with fail
    go_ret
    exact ⟨.inl ⟨rfl, HR.out⟩, hb2⟩
  · have HR := Lib.hid hr
    have hd : decide (0 ≤ r) = true := decide_eq_true hr0
    clear hr
    go_wp2_with fail
    go_ret
    exact ⟨.inr ⟨rfl, HR.out⟩, hb2⟩

set_option maxHeartbeats 1600000 in
theorem implKeepsAll_any (ms : List Mk) (hwf : ∀ m ∈ ms, m.wf) (v u : Value) (xs : List ByteArray) (hsh : Short xs) (M : Int) (w : World) (hm : IsMarks w v ms) (h : IsStrs w u xs) (hM : w.cell? ⟨0, 0, none⟩ = some (.int .i64 M)) :
    Calls Try.prog 33 #[v, u] w fun e w' => (∃ b, IsAll ms xs b ∧ e = .returned (.bool b)) ∧ Below w.heap.size w w' := by
  have HR := Lib.hid (fun W hI => implRosterOk_any u xs hsh W hI)
  have HM := Lib.hid hm
  have H := Lib.hid h
  obtain ⟨av, n, cv, rfl⟩ := hm.slice
  have Q0 := Lib.hid (show Below w.heap.size w (w.alloc (.cells #[.slice av n cv] 41)) from (Below.refl _ _).alloc (Nat.le_refl _) _)
  have hc0 : (w.alloc (.cells #[.slice av n cv] 41)).cell? ⟨w.heap.size, 0, none⟩ = some (.slice av n cv) := World.cell?_alloc_new w _ _ 0
  have HC := Lib.hid (fun (W : World) (hb : Below w.heap.size w W) (hl : xs.length ≤ 100) (hlt : w.heap.size < W.heap.size) (hc : W.cell? ⟨w.heap.size, 0, none⟩ = some (.slice av n cv)) => contKeeps_any ms hwf (.slice av n cv) u xs hsh M w.heap.size W (hm.below hb) (h.below hb) hl hlt ((hb.cell (p := ⟨0, 0, none⟩) (maxl_lt hM)).trans hM) hc)
  obtain ⟨a, cap, rfl, hcp, hmx⟩ := h.form
  have HC0 := Lib.hid hc0
  clear h hm hM hc0 hwf
  cases hr : rosterOk xs with
  | false =>
    rw [hr] at HR
    go_enter Try.func33, Try.ntmps33
    go_wp2_with fail
    refine (HR.out _ (H.out.below Q0.out)).mono ?_
    rintro e w2 ⟨rfl, hb2⟩
    go_wp2_with fail
    go_ret
    exact ⟨⟨false, .inr ⟨rfl, .inl hr⟩, rfl⟩, Q0.out.trans (hb2.mono Q0.out.size)⟩
  | true =>
    rw [hr] at HR
    have h4 := (rosterOk_iff.1 hr).2.1
    have h1 := (rosterOk_iff.1 hr).1
    have HRR := Lib.hid hr
    have HSZ := Lib.hid (show w.heap.size < (w.alloc (.cells #[.slice av n cv] 41)).heap.size by simp)
    clear hr
    go_enter Try.func33, Try.ntmps33
    go_wp2_with fail
    refine (HR.out _ (H.out.below Q0.out)).mono ?_
    rintro e w2 ⟨rfl, hb2⟩
    have hcc := HC.out w2 (Q0.out.trans (hb2.mono Q0.out.size)) (by omega) (Nat.lt_of_lt_of_le HSZ.out hb2.size) ((hb2.cell (p := ⟨w.heap.size, 0, none⟩) HSZ.out).trans HC0.out)
    have HCC := Lib.hid hcc
    have B2 := Lib.hid (Q0.out.trans (hb2.mono Q0.out.size))
    clear hcc hb2
    go_wp2_with fail
    refine HCC.out.mono ?_
    rintro e w3 ⟨hh, hb3⟩
    have B3 := Lib.hid (B2.out.trans (hb3.mono B2.out.size))
    clear hb3
    rcases hh with ⟨rfl, hh⟩ | ⟨rfl, hh⟩
    · have HX : Hid (IsAll ms xs true) := by
        have : IsAll ms xs true := .inl ⟨rfl, HRR.out, (hh xs[0] (List.getElem_mem (by omega))).term, hh⟩
        exact Lib.hid this
      clear hh
      go_wp2_with fail
      go_ret
      exact ⟨⟨true, HX.out, rfl⟩, B3.out⟩
    · have HX : Hid (IsAll ms xs false) := by
        have : IsAll ms xs false := .inr ⟨rfl, .inr (.inr hh)⟩
        exact Lib.hid this
      clear hh
      go_wp2_with fail
      go_ret
      exact ⟨⟨false, HX.out, rfl⟩, B3.out⟩

set_option maxHeartbeats 1600000 in
theorem specKeepsAll_any (ms : List Mk) (v u : Value) (xs : List ByteArray) (hsh : Short xs) (w : World) (hm : IsMarks w v ms) (hml : ms.length ≤ 1048576) (h : IsStrs w u xs) :
    Calls Try.prog 34 #[v, u] w fun e w' => (∃ b, IsAll ms xs b ∧ e = .returned (.bool b)) ∧ Below w.heap.size w w' := by
  have HR := Lib.hid (fun W hI => specRosterOk_any u xs hsh W hI)
  have HT := Lib.hid (fun W (hI : IsMarks W v ms) => specTermOk_any ms v W hI hml)
  have HK := Lib.hid (fun (W : World) (hI : IsMarks W v ms) (s : ByteArray) (hs : s ∈ xs) => specKeepsTerm_any ms v s W hI hml (hsh s hs))
  have HM := Lib.hid hm
  have H := Lib.hid h
  obtain ⟨av, n, cv, rfl⟩ := hm.slice
  obtain ⟨a, cap, rfl, hcp, hmx⟩ := h.form
  clear h hm hsh
  go_enter Try.func34, Try.ntmps34
  go_wp2_with fail
  go_loopw [5] (fun iv wr => ∃ k : Nat, k ≤ xs.length ∧ iv = .int .i64 (k : Int) ∧ Hid (∀ j (hj : j < xs.length), j < k → IsKept ms xs[j] true) ∧ Hid (Below w.heap.size w wr)) (fun iv _ => xs.length - (intOf iv).toNat)
  case atStart => exact ⟨0, Nat.zero_le _, rfl, Lib.hid (fun j _ hj => absurd hj (Nat.not_lt_zero _)), Lib.hid (Below.refl _ _)⟩
  case round =>
    obtain ⟨k, hk, rfl, HA, BB⟩ := hrel
    by_cases hlt : k < xs.length
    · obtain ⟨g, off, rfl, hg, hcl⟩ := H.out.at (by omega)
      have ck := (BB.out.cell (p := ⟨g, off + k, none⟩) hg).trans (hcl k hlt)
      have HC := Lib.hid (HK.out wr (HM.out.below BB.out) xs[k] (List.getElem_mem hlt))
      have HY : Hid (IsKept ms xs[k] true → ∀ j (hj : j < xs.length), j < k + 1 → IsKept ms xs[j] true) := by
        have : IsKept ms xs[k] true → ∀ j (hj : j < xs.length), j < k + 1 → IsKept ms xs[j] true := fun h j hj hjk => by
          by_cases e : j = k
          · subst e; exact h
          · exact HA.out j hj (by omega)
        exact Lib.hid this
      have HN : Hid (IsKept ms xs[k] false → IsAll ms xs false) := Lib.hid (fun h => .inr ⟨rfl, .inr (.inr ⟨xs[k], List.getElem_mem hlt, h⟩)⟩)
      clear hcl hg
      generalize xs[k] = s at *
      go_wp2_with fail
      refine HC.out.mono ?_
      rintro e w2 ⟨⟨kb, hkb, rfl⟩, hb2⟩
      have B2 := Lib.hid (BB.out.trans (hb2.mono BB.out.size))
      clear hb2
      cases kb with
      | true =>
        have HS := Lib.hid (HY.out hkb)
        clear hkb
        go_wp2_with fail
        go_roundw
        case rel => exact ⟨k + 1, by omega, by go_num, HS, B2⟩
        case measure => simp [intOf]; omega
      | false =>
        have HS := Lib.hid (HN.out hkb)
        clear hkb
        go_wp2_with fail
        go_ret
        exact ⟨⟨_, HS.out, rfl⟩, B2.out⟩
    · have HS : Hid (∀ s ∈ xs, IsKept ms s true) := by
        have : ∀ s ∈ xs, IsKept ms s true := fun s hs => by
          obtain ⟨j, hj, rfl⟩ := List.mem_iff_getElem.1 hs
          exact HA.out j hj (by omega)
        exact Lib.hid this
      cases hr : rosterOk xs with
      | false =>
        rw [hr] at HR
        go_wp2_with fail
        refine (HR.out _ (H.out.below BB.out)).mono ?_
        rintro e w2 ⟨rfl, hb2⟩
        go_wp2_with fail
        go_ret
        exact ⟨⟨false, .inr ⟨rfl, .inl hr⟩, rfl⟩, BB.out.trans (hb2.mono BB.out.size)⟩
      | true =>
        rw [hr] at HR
        have HRR := Lib.hid hr
        clear hr
        go_wp2_with fail
        refine (HR.out _ (H.out.below BB.out)).mono ?_
        rintro e w2 ⟨rfl, hb2⟩
        have B2 := Lib.hid (BB.out.trans (hb2.mono BB.out.size))
        clear hb2
        go_wp2_with fail
        refine (HT.out _ (HM.out.below B2.out)).mono ?_
        rintro e w3 ⟨rfl, hb3⟩
        have B3 := Lib.hid (B2.out.trans (hb3.mono B2.out.size))
        clear hb3
        have HX : Hid (IsAll ms xs (termOk ms)) := by
          have : IsAll ms xs (termOk ms) := by
            cases ht : termOk ms with
            | true => exact .inl ⟨rfl, HRR.out, ht, HS.out⟩
            | false => exact .inr ⟨rfl, .inr (.inl ht)⟩
          exact Lib.hid this
        generalize termOk ms = tb at *
        go_wp2_with fail
        go_ret
        exact ⟨⟨tb, HX.out, rfl⟩, B3.out⟩

set_option maxHeartbeats 1600000 in
theorem specRightOk_any (ms : List Mk) (v u : Value) (xs : List ByteArray) (hsh : Short xs) (l d : Int) (w : World) (hm : IsMarks w v ms) (hml : ms.length ≤ 1048576) (h : IsStrs w u xs) :
    Calls Try.prog 39 #[v, u, .agg #[.int .i64 l, .int .i64 d]] w fun e w' => (∃ b, IsAll ms xs b ∧ e = .returned (.bool (b && coverOk xs l d))) ∧ Below w.heap.size w w' := by
  have HK := Lib.hid (fun W (hI : IsMarks W v ms) hJ => specKeepsAll_any ms v u xs hsh W hI hml hJ)
  have HC := Lib.hid (fun W hJ => specCoverOk_any u xs hsh l d W hJ)
  have HM := Lib.hid hm
  have H := Lib.hid h
  have X0 := Lib.hid (NdBox.new w l d 29)
  have Q0 := Lib.hid (show Below w.heap.size w (w.alloc (.cells #[.int .i64 l, .int .i64 d] 29)) from (Below.refl _ _).alloc (Nat.le_refl _) _)
  obtain ⟨av, n, cv, rfl⟩ := hm.slice
  obtain ⟨a, cap, rfl, hcp, hmx⟩ := h.form
  clear h hm hsh
  go_enter Try.func39, Try.ntmps39
  go_wp2_with fail
  refine (HK.out _ (HM.out.below Q0.out) (H.out.below Q0.out)).mono ?_
  rintro e w2 ⟨⟨b, hb, rfl⟩, hb2⟩
  have HB := Lib.hid hb
  have X2 := Lib.hid (X0.out.below hb2)
  have B2 := Lib.hid (Q0.out.trans (hb2.mono Q0.out.size))
  clear hb hb2
  cases b with
  | false =>
    go_wp2_with fail
    go_ret
    exact ⟨⟨false, HB.out, rfl⟩, B2.out⟩
  | true =>
    have c0 := X2.out.c0
    have c1 := X2.out.c1
    go_wp2_with fail
    refine (HC.out _ (H.out.below B2.out)).mono ?_
    rintro e w3 ⟨rfl, hb3⟩
    have B3 := Lib.hid (B2.out.trans (hb3.mono B2.out.size))
    clear hb3 c0 c1
    go_wp2_with fail
    go_ret
    exact ⟨⟨true, HB.out, by simp⟩, B3.out⟩

set_option maxHeartbeats 1600000 in
theorem implRightOk_any (ms : List Mk) (hwf : ∀ m ∈ ms, m.wf) (v u : Value) (xs : List ByteArray) (hsh : Short xs) (l d : Int) (hl : (Lit.int .i64 l).wf = true) (hd : (Lit.int .i64 d).wf = true) (M : Int) (w : World) (hm : IsMarks w v ms) (h : IsStrs w u xs) (hM : w.cell? ⟨0, 0, none⟩ = some (.int .i64 M)) :
    Calls Try.prog 38 #[v, u, .agg #[.int .i64 l, .int .i64 d]] w fun e w' => (∃ b, IsAll ms xs b ∧ e = .returned (.bool (b && coverOk xs l d))) ∧ Below w.heap.size w w' := by
  have HK := Lib.hid (fun W (hI : IsMarks W v ms) hJ hMM => implKeepsAll_any ms hwf v u xs hsh M W hI hJ hMM)
  have HC := Lib.hid (fun W hJ => implCoverOk_any u xs hsh l d hl hd W hJ)
  have HM := Lib.hid hm
  have H := Lib.hid h
  have X0 := Lib.hid (NdBox.new w l d 29)
  have Q0 := Lib.hid (show Below w.heap.size w (w.alloc (.cells #[.int .i64 l, .int .i64 d] 29)) from (Below.refl _ _).alloc (Nat.le_refl _) _)
  have HMX := Lib.hid ((Q0.out.cell (p := ⟨0, 0, none⟩) (maxl_lt hM)).trans hM)
  obtain ⟨av, n, cv, rfl⟩ := hm.slice
  obtain ⟨a, cap, rfl, hcp, hmx⟩ := h.form
  clear h hm hsh hM hwf
  go_enter Try.func38, Try.ntmps38
  go_wp2_with fail
  refine (HK.out _ (HM.out.below Q0.out) (H.out.below Q0.out) HMX.out).mono ?_
  rintro e w2 ⟨⟨b, hb, rfl⟩, hb2⟩
  have HB := Lib.hid hb
  have X2 := Lib.hid (X0.out.below hb2)
  have B2 := Lib.hid (Q0.out.trans (hb2.mono Q0.out.size))
  clear hb hb2
  cases b with
  | false =>
    go_wp2_with fail
    go_ret
    exact ⟨⟨false, HB.out, rfl⟩, B2.out⟩
  | true =>
    have c0 := X2.out.c0
    have c1 := X2.out.c1
    go_wp2_with fail
    refine (HC.out _ (H.out.below B2.out)).mono ?_
    rintro e w3 ⟨rfl, hb3⟩
    have B3 := Lib.hid (B2.out.trans (hb3.mono B2.out.size))
    clear hb3 c0 c1
    go_wp2_with fail
    go_ret
    exact ⟨⟨true, HB.out, by simp⟩, B3.out⟩
end Go.Proofs.Ytlbblfbiiceofaa
