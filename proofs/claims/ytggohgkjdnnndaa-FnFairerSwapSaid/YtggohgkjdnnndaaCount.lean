/- CountOf and DifferOf, of the model and of the program: what each returns, for every input. -/
import Derived.Test.YtggohgkjdnnndaaBack
import Derived.OneCell
import Derived.WalkSmall
namespace Go.Proofs.Ytggohgkjdnnndaa
open Go.RowKit

theorem countClosure_any (i c : Int) (a : Addr) (t : ByteArray) (w : World) (h0 : 0 < t.size) (hc : w.cell? a = some (.string t)) :
    Calls Try.prog 55 #[.int .i64 i, .int .u8 c, .pointer (some a)] w fun e w' => e = .returned (.bool (c == (t[0].toNat : Int))) ∧ w = w' := by
  go_enter Try.func55, Try.ntmps55
  go_wp2
  go_ret
  exact ⟨rfl, rfl⟩

theorem differClosure_any (i : Nat) (c : Int) (a : Addr) (t : ByteArray) (w : World) (h0 : i < t.size) (hc : w.cell? a = some (.string t)) :
    Calls Try.prog 79 #[.int .i64 i, .int .u8 c, .pointer (some a)] w fun e w' => e = .returned (.bool (c != (t[i].toNat : Int))) ∧ w = w' := by
  go_enter Try.func79, Try.ntmps79
  go_wp2
  go_ret
  exact ⟨rfl, rfl⟩

set_option maxHeartbeats 400000 in
theorem countEq_any (b cap : Nat) (l : List UInt8) (t : ByteArray) (a : Addr) (w : World) (hl : l.length ≤ 14) (H : HasBytes w b l) (hc : w.cell? a = some (.string t)) (h0 : 0 < t.size) :
    Calls Try.prog 54 #[.slice (some ⟨b, 0, none⟩) l.length cap, .func (.func 55) #[] #[.pointer (some a)]] w
      fun e w' => e = .returned (.int .i64 (cntEq l t[0] l.length)) ∧ w = w' := by
  have HC := Lib.hid hc
  have HH := Lib.hid H
  clear H hc
  go_enter Try.func54, Try.ntmps54
  go_wp2
  go_loop [5, 6, 7, 10] (fun n _ _ i => ∃ k : Nat, k ≤ l.length ∧ i = .int .i64 k ∧ n = .int .i64 (cntEq l t[0] k)) (fun _ _ _ i => l.length - (intOf i).toNat)
  case atStart => exact ⟨0, Nat.zero_le _, rfl, rfl⟩
  case round =>
    obtain ⟨k, hk, rfl, rfl⟩ := hrel
    have hbd := cntEq_bd l t[0] k
    by_cases hlt : k < l.length
    · have hcell := (HH.out k hlt).1
      have HS := Lib.hid (cntEq_step l t[0] k hlt)
      by_cases hb : (l[k] == t[0]) = true
      · have hb' : ((l[k].toNat : Int) == (t[0].toNat : Int)) = true := by rw [u8_beq]; exact hb
        have HB := Lib.hid hb
        clear hb
        go_wp2_with (go_at_call 55; refine (countClosure_any _ _ _ _ _ h0 HC.out).mono ?_; rintro e w' ⟨rfl, rfl⟩)
        go_round
        case rel => exact ⟨k + 1, by omega, by go_num, by rw [HS.out, if_pos HB.out]⟩
        case measure => simp [intOf]; omega
      · have hbf : (l[k] == t[0]) = false := by simpa using hb
        have hb' : ((l[k].toNat : Int) == (t[0].toNat : Int)) = false := by rw [u8_beq]; exact hbf
        have HB := Lib.hid hb
        clear hb hbf
        go_wp2_with (go_at_call 55; refine (countClosure_any _ _ _ _ _ h0 HC.out).mono ?_; rintro e w' ⟨rfl, rfl⟩)
        go_round
        case rel => exact ⟨k + 1, by omega, by go_num, by rw [HS.out, if_neg HB.out, Int.add_zero]⟩
        case measure => simp [intOf]; omega
    · obtain rfl : k = l.length := by omega
      go_wp2
      go_ret
      exact ⟨rfl, rfl⟩

set_option maxHeartbeats 400000 in
theorem countNe_any (b cap : Nat) (l : List UInt8) (t : ByteArray) (a : Addr) (w : World) (hl : l.length ≤ 14) (H : HasBytes w b l) (hc : w.cell? a = some (.string t)) (h0 : l.length ≤ t.size) :
    Calls Try.prog 54 #[.slice (some ⟨b, 0, none⟩) l.length cap, .func (.func 79) #[] #[.pointer (some a)]] w
      fun e w' => e = .returned (.int .i64 (cntNe l t.data.toList l.length)) ∧ w = w' := by
  have HC := Lib.hid hc
  have HH := Lib.hid H
  clear H hc
  go_enter Try.func54, Try.ntmps54
  go_wp2
  go_loop [5, 6, 7, 10] (fun n _ _ i => ∃ k : Nat, k ≤ l.length ∧ i = .int .i64 k ∧ n = .int .i64 (cntNe l t.data.toList k)) (fun _ _ _ i => l.length - (intOf i).toNat)
  case atStart => exact ⟨0, Nat.zero_le _, rfl, rfl⟩
  case round =>
    obtain ⟨k, hk, rfl, rfl⟩ := hrel
    have hbd := cntNe_bd l t.data.toList k
    by_cases hlt : k < l.length
    · have hcell := (HH.out k hlt).1
      have hlt2 : k < t.size := by omega
      have HS := Lib.hid (cntNe_step l t k hlt hlt2)
      by_cases hb : (l[k] != t[k]) = true
      · have hb' : ((l[k].toNat : Int) != (t[k].toNat : Int)) = true := by rw [bne, u8_beq]; exact hb
        have HB := Lib.hid hb
        clear hb
        go_wp2_with (go_at_call 79; refine (differClosure_any _ _ _ _ _ hlt2 HC.out).mono ?_; rintro e w' ⟨rfl, rfl⟩)
        go_round
        case rel => exact ⟨k + 1, by omega, by go_num, by rw [HS.out, if_pos HB.out]⟩
        case measure => simp [intOf]; omega
      · have hbf : (l[k] != t[k]) = false := by simpa using hb
        have hb' : ((l[k].toNat : Int) != (t[k].toNat : Int)) = false := by rw [bne, u8_beq]; exact hbf
        have HB := Lib.hid hb
        clear hb hbf
        go_wp2_with (go_at_call 79; refine (differClosure_any _ _ _ _ _ hlt2 HC.out).mono ?_; rintro e w' ⟨rfl, rfl⟩)
        go_round
        case rel => exact ⟨k + 1, by omega, by go_num, by rw [HS.out, if_neg HB.out, Int.add_zero]⟩
        case measure => simp [intOf]; omega
    · obtain rfl : k = l.length := by omega
      go_wp2
      go_ret
      exact ⟨rfl, rfl⟩

theorem cntEq_stepS (s : ByteArray) (c : UInt8) (k : Nat) (h : k < s.size) : cntEq s.data.toList c (k + 1) = cntEq s.data.toList c k + if (s[k] == c) = true then 1 else 0 :=
  cntEq_step s.data.toList c k (by rw [len_data]; exact h)
theorem World.cell?_alloc2_first' (w : World) (c : Array Value) (t : TypeId) (b : Obj) (i : Nat) : ((w.alloc (.cells c t)).alloc b).cell? ⟨w.heap.size, i, none⟩ = c[i]? := World.cell?_alloc2_first c t b i
theorem countOf_no1 {s t : ByteArray} (h : wordOk s = false) : countOf s t = -1 := by simp [countOf, h]
theorem countOf_no2 {s t : ByteArray} (h : letterOk t = false) : countOf s t = -1 := by simp [countOf, h]
theorem countOf_yes {s t : ByteArray} (h : wordOk s = true) (g : letterOk t = true) : countOf s t = cntEq s.data.toList (byteAt t 0) s.size := by simp [countOf, h, g]
theorem letterOk_size {t : ByteArray} (h : letterOk t = true) : t.size = 1 := by simp [letterOk] at h; exact h.1

set_option maxHeartbeats 400000 in
theorem implCountOf_any (s t : ByteArray) (w : World) (hs : s.size ≤ maxLen) (ht : t.size ≤ maxLen) :
    Calls Try.prog 18 #[.string s, .string t] w fun e w' => e = .returned (.int .i64 (countOf s t)) ∧ Below w.heap.size w w' := by
  by_cases hw : wordOk s = true
  · by_cases hg : letterOk t = true
    · have h14 := wordOk_size hw
      have h1 : 0 < t.size := by rw [letterOk_size hg]; omega
      have HE := Lib.hid (countOf_yes hw hg)
      have hcv := fun w => run_bytes_of_string (P := Try.prog) w 9 22 5 s Try.underlying9 Try.underlying22 Try.underlying5
      go_enter Try.func18, Try.ntmps18
      go_wp2_with (first | (go_at_call 52; refine (implWordOk_any _ _ hs).mono ?_; rintro e w' ⟨rfl, rfl⟩) | (go_at_call 53; refine (implLetterOk_any _ _ ht).mono ?_; rintro e w' ⟨rfl, rfl⟩))
      have hnew := hasBytes_new (w.alloc (.cells #[.string t] 9)) s (grownCap (w.alloc (.cells #[.string t] 9)) s.size 0 5) 5
      rw [World.size_alloc] at hnew
      have hcc := (countEq_any (w.heap.size + 1) (grownCap (w.alloc (.cells #[.string t] 9)) s.size 0 5) s.data.toList t ⟨w.heap.size, 0, none⟩ _ (by rw [len_data]; omega) hnew (by rw [World.cell?_drew, World.cell?_alloc2_first']; rfl) h1)
      rw [len_data] at hcc
      refine hcc.mono ?_
      rintro e w' ⟨rfl, rfl⟩
      clear hcc hnew hcv
      go_wp2
      go_ret
      exact ⟨ret_int (by rw [HE.out, byteAt_eq t 0 h1]), (((Below.refl _ _).alloc (Nat.le_refl _) _).alloc (by simp) _).drew⟩
    · have hg' : letterOk t = false := by simpa using hg
      have HE := Lib.hid (countOf_no2 (s := s) hg')
      clear hg
      go_enter Try.func18, Try.ntmps18
      go_wp2_with (first | (go_at_call 52; refine (implWordOk_any _ _ hs).mono ?_; rintro e w' ⟨rfl, rfl⟩) | (go_at_call 53; refine (implLetterOk_any _ _ ht).mono ?_; rintro e w' ⟨rfl, rfl⟩))
      go_ret
      exact ⟨ret_int HE.out.symm, (Below.refl _ _).alloc (Nat.le_refl _) _⟩
  · have hw' : wordOk s = false := by simpa using hw
    have HE := Lib.hid (countOf_no1 (t := t) hw')
    clear hw
    go_enter Try.func18, Try.ntmps18
    go_wp2_with (first | (go_at_call 52; refine (implWordOk_any _ _ hs).mono ?_; rintro e w' ⟨rfl, rfl⟩) | (go_at_call 53; refine (implLetterOk_any _ _ ht).mono ?_; rintro e w' ⟨rfl, rfl⟩))
    go_ret
    exact ⟨ret_int HE.out.symm, (Below.refl _ _).alloc (Nat.le_refl _) _⟩

set_option maxHeartbeats 400000 in
theorem specCountOf_any (s t : ByteArray) (w : World) (hs : s.size ≤ maxLen) :
    Calls Try.prog 69 #[.string s, .string t] w fun e w' => e = .returned (.int .i64 (countOf s t)) ∧ Below w.heap.size w w' := by
  by_cases hw : wordOk s = true
  · by_cases hg : letterOk t = true
    · have h14 := wordOk_size hw
      have h1 : 0 < t.size := by rw [letterOk_size hg]; omega
      have HE := Lib.hid (countOf_yes hw hg)
      go_enter Try.func69, Try.ntmps69
      go_wp2_with (first | (go_at_call 75; refine (specWordOk_any _ _ hs).mono ?_; rintro e w' ⟨rfl, rfl⟩) | (go_at_call 68; refine (specLetterOk_any _ _).mono ?_; rintro e w' ⟨rfl, rfl⟩))
      go_loopw [5, 6] (fun n i w' => ∃ k : Nat, k ≤ s.size ∧ i = .int .i64 k ∧ n = .int .i64 (cntEq s.data.toList t[0] k) ∧ Below w.heap.size w w') (fun _ i _ => s.size - (intOf i).toNat)
      case atStart => exact ⟨0, Nat.zero_le _, rfl, rfl, Below.refl _ _⟩
      case round =>
        obtain ⟨k, hk, rfl, rfl, hbel⟩ := hrel
        have hbd := cntEq_bd s.data.toList t[0] k
        by_cases hlt : k < s.size
        · have HS := Lib.hid (cntEq_stepS s t[0] k hlt)
          by_cases hb : (s[k] == t[0]) = true
          · have hb' : ((s[k].toNat : Int) == (t[0].toNat : Int)) = true := by rw [u8_beq]; exact hb
            have HB := Lib.hid hb
            clear hb
            go_wp2
            go_quiet (fail)
            go_wp2
            go_roundw
            case rel => exact ⟨k + 1, by omega, by go_num, by rw [HS.out, if_pos HB.out], below_drewN hbel _⟩
            case measure => simp [intOf]; omega
          · have hbf : (s[k] == t[0]) = false := by simpa using hb
            have hb' : ((s[k].toNat : Int) == (t[0].toNat : Int)) = false := by rw [u8_beq]; exact hbf
            have HB := Lib.hid hb
            clear hb hbf
            go_wp2
            go_quiet (fail)
            go_wp2
            go_roundw
            case rel => exact ⟨k + 1, by omega, by go_num, by rw [HS.out, if_neg HB.out, Int.add_zero], below_drewN hbel _⟩
            case measure => simp [intOf]; omega
        · obtain rfl : k = s.size := by omega
          go_wp2
          go_ret
          exact ⟨ret_int (by rw [HE.out, byteAt_eq t 0 h1]), hbel⟩
    · have hg' : letterOk t = false := by simpa using hg
      have HE := Lib.hid (countOf_no2 (s := s) hg')
      clear hg
      go_enter Try.func69, Try.ntmps69
      go_wp2_with (first | (go_at_call 75; refine (specWordOk_any _ _ hs).mono ?_; rintro e w' ⟨rfl, rfl⟩) | (go_at_call 68; refine (specLetterOk_any _ _).mono ?_; rintro e w' ⟨rfl, rfl⟩))
      go_ret
      exact ⟨ret_int HE.out.symm, Below.refl _ _⟩
  · have hw' : wordOk s = false := by simpa using hw
    have HE := Lib.hid (countOf_no1 (t := t) hw')
    clear hw
    go_enter Try.func69, Try.ntmps69
    go_wp2_with (first | (go_at_call 75; refine (specWordOk_any _ _ hs).mono ?_; rintro e w' ⟨rfl, rfl⟩) | (go_at_call 68; refine (specLetterOk_any _ _).mono ?_; rintro e w' ⟨rfl, rfl⟩))
    go_ret
    exact ⟨ret_int HE.out.symm, Below.refl _ _⟩
end Go.Proofs.Ytggohgkjdnnndaa
