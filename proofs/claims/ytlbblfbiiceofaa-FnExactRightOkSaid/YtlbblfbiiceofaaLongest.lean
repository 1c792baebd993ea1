/- impl.LongestOf and impl.RunsOf: what each returns, for every input. -/
import Derived.Test.YtlbblfbiiceofaaRuns
namespace Go.Proofs.Ytlbblfbiiceofaa
open Go.RowKit Go.Shelf
attribute [local go_sem] Oper.semAt_some

theorem longestOf_no1 {s t : ByteArray} (h : wordOk s = false) : longestOf s t = -1 := by simp [longestOf, h]
theorem longestOf_no2 {s t : ByteArray} (h : letterOk t = false) : longestOf s t = -1 := by simp [longestOf, h]
theorem longestOf_yes {s t : ByteArray} (h : wordOk s = true) (g : letterOk t = true) : longestOf s t = (longestIn (runsL s.data.toList) (byteAt t 0) : Int) := by simp [longestOf, h, g]

theorem new_cell (W : World) (v : Value) (t : TypeId) : (W.alloc (.cells #[v] t)).cell? ⟨W.heap.size, 0, none⟩ = some v ∧ (W.alloc (.cells #[v] t)).frozen? ⟨W.heap.size, 0, none⟩ = false :=
  ⟨World.cell?_alloc_new W _ t 0, World.frozen?_alloc_new W _ t 0⟩
theorem kept_cell {W : World} {a : Addr} {v : Value} (o : Obj) (h : W.cell? a = some v) : (W.alloc o).cell? a = some v := cell_kept h (World.grownBy_alloc W o none) (fun r e => by cases e)
theorem kept_frozen {W : World} {a : Addr} {v : Value} (o : Obj) (h : W.cell? a = some v) (hf : W.frozen? a = false) : (W.alloc o).frozen? a = false := (frozen_kept h (World.grownBy_alloc W o none) (fun r e => by cases e)).trans hf
theorem boxKept_b {w : World} {Bs : Nat} (hB : Bs < w.heap.size) (W : World) (l : Nat) (o o' : Obj) (hl : w.heap.size ≤ l) (_h : W.heap[l]? = some o) (_hc : o.isCells = false) (_hw : o.isWalk = false) : BoxKept Bs W (W.putObj l o') :=
  World.cell?_of_block (w := W) (World.putObj_heap_other (by show Bs ≠ l; omega))

set_option maxRecDepth 100000 in
set_option maxHeartbeats 2000000 in
theorem implLongestOf_yes (s t : ByteArray) (w : World) (hs : s.size ≤ 14) (ht : t.size = 1) (hw : wordOk s = true) (hg : letterOk t = true) :
    Calls Try.prog 90 #[.string s, .string t] w fun e w' => e = .returned (.int .i64 (longestIn (runsL s.data.toList) (byteAt t 0) : Int)) ∧ Below w.heap.size w w' := by
  have hsm : s.size ≤ maxLen := by unfold maxLen; omega
  have htm : t.size ≤ maxLen := by unfold maxLen; omega
  have h0 : 0 < t.size := by omega
  have HT := Lib.hid (byteAt_eq t 0 h0)
  refine (callsIn_wide (n := 3)).1 ?_
  refine callsIn_of_wp_marks Try.func90 rfl trivial ?_ rfl
  simp only [Try.ntmps90, List.size_toArray, List.length_cons, List.length_nil, Nat.reduceAdd, Nat.reduceSub, Array.replicate_succ, Array.replicate_zero, List.push_toArray, List.append_toArray, List.nil_append, List.cons_append]
  gi_wp2_with (first | (refine ⟨trivial, ?_⟩; gi_at_call 56; refine (callsIn_wide.2 (implWordOk_any _ _ hsm)).mono ?_; rintro e w' ⟨rfl, rfl⟩) | (refine ⟨trivial, ?_⟩; gi_at_call 62; refine (callsIn_wide.2 (implLetterOk_any _ _ htm)).mono ?_; rintro e w' ⟨rfl, rfl⟩) | (refine ⟨trivial, ?_⟩; gi_at_call 106; refine (callsIn_wide.2 (runsIn_any _ _)).mono ?_; rintro e w' ⟨rfl, rfl⟩))
  have c0 := new_cell w (.string t) 9
  have c1 := new_cell (w.alloc (.cells #[.string t] 9)) (.int .i64 0) 3
  have c2 := new_cell ((w.alloc (.cells #[.string t] 9)).alloc (.cells #[.int .i64 0] 3)) (.string s) 9
  simp only [World.size_alloc] at c1 c2
  have hB0 : Below w.heap.size w (((w.alloc (.cells #[.string t] 9)).alloc (.cells #[.int .i64 0] 3)).alloc (.cells #[.string s] 9)) := (((Below.refl _ w).alloc (Nat.le_refl _) _).alloc (by simp) _).alloc (by simp; omega) _
  refine wpIn_rangeFunc_ownF rfl (by omega) (gf := 113) (lb := #[.pointer (some ⟨w.heap.size + 1 + 1, 0, none⟩)]) rfl trivial (enters_of Try.func113 (by kernel_rfl) rfl)
    (runsIn_stops (3 - 1) (by omega) (w.heap.size + 1 + 1) s hs _ (by simp) c2.1) (fun h k => BoxKept.trans h k) (boxKept_b (by simp)) (Below.refl _ _) (fun _ => rfl)
    (fun pre W => (W.cell? ⟨w.heap.size, 0, none⟩ = some (.string t) ∧ W.cell? ⟨w.heap.size + 1, 0, none⟩ = some (.int .i64 (longestIn pre t[0] : Int)) ∧ W.frozen? ⟨w.heap.size + 1, 0, none⟩ = false) ∧ Below w.heap.size w W)
    (fun _ _ _ => False)
    (OwnFrom.and (Own.from (fun z A B row hs hg hr => ⟨cell_kept hs.1 hg hr, cell_kept hs.2.1 hg hr, (frozen_kept hs.2.1 hg hr).trans hs.2.2⟩) _) (ownFrom_below (Nat.le_refl _) (by simp; omega)))
    (fun _ _ _ _ _ hs _ _ => hs)
    ⟨⟨kept_cell _ (kept_cell _ c0.1), kept_cell _ c1.1, kept_frozen _ c1.1 c1.2⟩, hB0⟩
    (fun x => { tmps := #[.string s, .string t, undef, .pointer (some ⟨w.heap.size, 0, none⟩), .int .i64 0, .pointer (some ⟨w.heap.size + 1, 0, none⟩), .int .u8 (x.1.toNat : Int), .int .i64 (x.2 : Int), .string s, .bool true, .bool false, .bool false, .string t, .bool true, .bool false, .bool false, .string s, .func (.func 113) #[] #[.pointer (some ⟨w.heap.size + 1 + 1, 0, none⟩)], .int .u8 (x.1.toNat : Int), .int .i64 (x.2 : Int), undef, undef, undef, undef, undef, undef, undef, undef], defers := [] }) ?assign ?body ?done ?stop
  case assign =>
    intro l x W K hK
    gi_wp2
    exact hK
  case body =>
    rintro l pre x W ⟨⟨hc, hm, hf⟩, hB⟩ _
    have HS := Lib.hid (longestIn_snoc pre x t[0])
    by_cases heq : x.1 = t[0]
    · have heq' : ((x.1.toNat : Int) == (t[0].toNat : Int)) = true := by rw [heq]; simp
      have HQ := Lib.hid heq
      clear heq
      gi_wp2
      refine ⟨KeepsOthers.setCell _ _ _, ?_, ⟨?_, ?_, ?_⟩, hB.setCell (p := ⟨w.heap.size + 1, 0, none⟩) (by simp) _⟩
      · exact World.cell?_setCell_other _ _ _ _ (by simp)
      · rw [World.cell?_setCell_other _ _ _ _ (by simp)]; exact hc
      · rw [HS.out, if_pos HQ.out, World.cell?_setCell_same' _ _ _ (by rw [hm]; rfl)]
        congr 2
        omega
      · rw [World.frozen?_setCell]; exact hf
    · have heq' : ((x.1.toNat : Int) == (t[0].toNat : Int)) = false := by rw [u8_beq]; simpa using heq
      have HQ := Lib.hid heq
      clear heq
      gi_wp2
      exact ⟨KeepsOthers.refl _, BoxKept.refl _ _, ⟨hc, by rw [HS.out, if_neg HQ.out]; exact hm, hf⟩, hB⟩
  case done =>
    rintro D ys W hD rfl ⟨⟨hc, hm, hf⟩, hB⟩ hK
    gi_wp2
    refine ⟨by simp, .inl ⟨_, _, rfl, run_takeDeferred hK, ?_⟩⟩
    refine ⟨_, results_tmp rfl _ _ _, ?_, ?_⟩
    · show Ending.returned (.int .i64 (longestIn (runsL s.data.toList) t[0] : Int)) = _
      rw [HT.out]
    · exact hB.trans (belowK_b (w := w) (Nat.le_refl _) W D _ _ (by simp at hD; omega) hK rfl rfl)
  case stop =>
    rintro D c pre W _ _ h _
    exact h.elim

theorem implLongestOf_any (s t : ByteArray) (w : World) (hs : s.size ≤ maxLen) (ht : t.size ≤ maxLen) :
    Calls Try.prog 90 #[.string s, .string t] w fun e w' => e = .returned (.int .i64 (longestOf s t)) ∧ Below w.heap.size w w' := by
  by_cases hw : wordOk s = true
  · by_cases hg : letterOk t = true
    · rw [longestOf_yes hw hg]
      exact implLongestOf_yes s t w (wordOk_size hw) (letterOk_size hg) hw hg
    · have hg' : letterOk t = false := by simpa using hg
      have HE := Lib.hid (longestOf_no2 (s := s) hg')
      clear hg
      go_enter Try.func90, Try.ntmps90
      go_wp2_with (first | (go_at_call 56; refine (implWordOk_any _ _ hs).mono ?_; rintro e w' ⟨rfl, rfl⟩) | (go_at_call 62; refine (implLetterOk_any _ _ ht).mono ?_; rintro e w' ⟨rfl, rfl⟩))
      go_ret
      exact ⟨ret_int HE.out.symm, (Below.refl _ _).alloc (Nat.le_refl _) _⟩
  · have hw' : wordOk s = false := by simpa using hw
    have HE := Lib.hid (longestOf_no1 (t := t) hw')
    clear hw
    go_enter Try.func90, Try.ntmps90
    go_wp2_with (first | (go_at_call 56; refine (implWordOk_any _ _ hs).mono ?_; rintro e w' ⟨rfl, rfl⟩) | (go_at_call 62; refine (implLetterOk_any _ _ ht).mono ?_; rintro e w' ⟨rfl, rfl⟩))
    go_ret
    exact ⟨ret_int HE.out.symm, (Below.refl _ _).alloc (Nat.le_refl _) _⟩

/-- the runs of the first letters -/
def runsTo (s : ByteArray) (k : Nat) : List (UInt8 × Nat) := runsL (s.data.toList.take k)
theorem runsTo_succ (s : ByteArray) (k : Nat) (h : k < s.size) : runsTo s (k + 1) = snocRun (runsTo s k) s[k] := by
  unfold runsTo; rw [take_snoc s k h, runsL_snoc]
theorem runsTo_all (s : ByteArray) : runsTo s s.size = runsL s.data.toList := by
  unfold runsTo; rw [List.take_of_length_le (Nat.le_of_eq (len_data s))]
theorem runsTo_bd (s : ByteArray) (k : Nat) (c : UInt8) : nowIn (runsTo s k) c ≤ k ∧ longestIn (runsTo s k) c ≤ k := by
  have h1 := now_le (runsTo s k) c
  have h2 := longestIn_le (runsTo s k) c
  have h3 := runsL_sum (s.data.toList.take k)
  have h4 : (s.data.toList.take k).length ≤ k := List.length_take_le _ _
  unfold runsTo at *
  omega

set_option maxHeartbeats 800000 in
theorem specLongestOf_any (s t : ByteArray) (w : World) (hs : s.size ≤ maxLen) :
    Calls Try.prog 111 #[.string s, .string t] w fun e w' => e = .returned (.int .i64 (longestOf s t)) ∧ Below w.heap.size w w' := by
  by_cases hw : wordOk s = true
  · by_cases hg : letterOk t = true
    · have h14 := wordOk_size hw
      have h1 : 0 < t.size := by rw [letterOk_size hg]; omega
      have HE := Lib.hid (longestOf_yes hw hg)
      go_enter Try.func111, Try.ntmps111
      go_wp2_with (first | (go_at_call 58; refine (specWordOk_any _ _ hs).mono ?_; rintro e w' ⟨rfl, rfl⟩) | (go_at_call 87; refine (specLetterOk_any _ _).mono ?_; rintro e w' ⟨rfl, rfl⟩))
      go_loopw [5, 6, 7] (fun b n i w' => ∃ k : Nat, k ≤ s.size ∧ i = .int .i64 k ∧ b = .int .i64 (longestIn (runsTo s k) t[0] : Int) ∧ n = .int .i64 (nowIn (runsTo s k) t[0] : Int) ∧ Below w.heap.size w w') (fun _ _ i _ => s.size - (intOf i).toNat)
      case atStart => exact ⟨0, Nat.zero_le _, rfl, rfl, rfl, Below.refl _ _⟩
      case round =>
        obtain ⟨k, hk, rfl, rfl, rfl, hbel⟩ := hrel
        obtain ⟨hbd1, hbd2⟩ := runsTo_bd s k t[0]
        by_cases hlt : k < s.size
        · have HS := Lib.hid (runsTo_succ s k hlt)
          by_cases hb : s[k] = t[0]
          · have hb' : ((s[k].toNat : Int) == (t[0].toNat : Int)) = true := by rw [u8_beq]; simpa using hb
            have HH := Lib.hid (snoc_hit (runsTo s k) t[0])
            have HB := Lib.hid hb
            clear hb
            go_wp2
            go_quiet (fail)
            go_wp2
            go_roundw
            case rel => exact ⟨k + 1, by omega, by go_num, by rw [HS.out, HB.out, HH.out.2]; first | rfl | (congr 1; omega), by rw [HS.out, HB.out, HH.out.1]; go_num, below_drewN hbel _⟩
            case measure => simp [intOf]; omega
          · have hb' : ((s[k].toNat : Int) == (t[0].toNat : Int)) = false := by rw [u8_beq]; simpa using hb
            have HH := Lib.hid (snoc_miss (runsTo s k) t[0] s[k] hb)
            have HB := Lib.hid hb
            clear hb
            go_wp2
            go_quiet (fail)
            go_wp2
            go_roundw
            case rel => exact ⟨k + 1, by omega, by go_num, by rw [HS.out, HH.out.2]; (try (congr 1; omega)), by rw [HS.out, HH.out.1]; (try rfl), below_drewN hbel _⟩
            case measure => simp [intOf]; omega
        · obtain rfl : k = s.size := by omega
          have HA := Lib.hid (runsTo_all s)
          go_wp2
          go_ret
          exact ⟨ret_int (by rw [HE.out, byteAt_eq t 0 h1, HA.out]), hbel⟩
    · have hg' : letterOk t = false := by simpa using hg
      have HE := Lib.hid (longestOf_no2 (s := s) hg')
      clear hg
      go_enter Try.func111, Try.ntmps111
      go_wp2_with (first | (go_at_call 58; refine (specWordOk_any _ _ hs).mono ?_; rintro e w' ⟨rfl, rfl⟩) | (go_at_call 87; refine (specLetterOk_any _ _).mono ?_; rintro e w' ⟨rfl, rfl⟩))
      go_ret
      exact ⟨ret_int HE.out.symm, Below.refl _ _⟩
  · have hw' : wordOk s = false := by simpa using hw
    have HE := Lib.hid (longestOf_no1 (t := t) hw')
    clear hw
    go_enter Try.func111, Try.ntmps111
    go_wp2_with (first | (go_at_call 58; refine (specWordOk_any _ _ hs).mono ?_; rintro e w' ⟨rfl, rfl⟩) | (go_at_call 87; refine (specLetterOk_any _ _).mono ?_; rintro e w' ⟨rfl, rfl⟩))
    go_ret
    exact ⟨ret_int HE.out.symm, Below.refl _ _⟩
end Go.Proofs.Ytlbblfbiiceofaa
