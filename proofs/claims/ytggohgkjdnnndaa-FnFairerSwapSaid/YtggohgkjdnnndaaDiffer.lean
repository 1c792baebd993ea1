/- DifferOf, of the model and of the program: what it returns, for every input. -/
import Derived.Test.YtggohgkjdnnndaaCount
namespace Go.Proofs.Ytggohgkjdnnndaa
open Go.RowKit

theorem differOf_no1 {s t : ByteArray} (h : wordOk s = false) : differOf s t = -1 := by simp [differOf, h]
theorem differOf_no2 {s t : ByteArray} (h : wordOk t = false) : differOf s t = -1 := by simp [differOf, h]
theorem differOf_no3 {s t : ByteArray} (h : ¬ s.size = t.size) : differOf s t = -1 := by simp [differOf, h]
theorem differOf_yes {s t : ByteArray} (h : wordOk s = true) (g : wordOk t = true) (e : s.size = t.size) : differOf s t = cntNe s.data.toList t.data.toList s.size := by simp [differOf, h, g, e]
theorem cntNe_stepS (s t : ByteArray) (k : Nat) (h : k < s.size) (g : k < t.size) : cntNe s.data.toList t.data.toList (k + 1) = cntNe s.data.toList t.data.toList k + if (s[k] != t[k]) = true then 1 else 0 :=
  cntNe_step s.data.toList t k (by rw [len_data]; exact h) g

set_option maxHeartbeats 400000 in
theorem implDifferOf_any (s t : ByteArray) (w : World) (hs : s.size ≤ maxLen) (ht : t.size ≤ maxLen) :
    Calls Try.prog 65 #[.string s, .string t] w fun e w' => e = .returned (.int .i64 (differOf s t)) ∧ Below w.heap.size w w' := by
  by_cases hw : wordOk s = true
  · by_cases hg : wordOk t = true
    · have h14 := wordOk_size hw
      have g14 := wordOk_size hg
      by_cases hz : s.size = t.size
      · have HE := Lib.hid (differOf_yes hw hg hz)
        have hzb : ((s.size : Int) != (t.size : Int)) = false := by simp [hz]
        have hle : s.size ≤ t.size := by omega
        clear hz
        have hcv := fun w => run_bytes_of_string (P := Try.prog) w 9 22 5 s Try.underlying9 Try.underlying22 Try.underlying5
        go_enter Try.func65, Try.ntmps65
        go_wp2_with (go_at_call 52; refine (implWordOk_any _ _ (by assumption)).mono ?_; rintro e w' ⟨rfl, rfl⟩)
        have hnew := hasBytes_new (w.alloc (.cells #[.string t] 9)) s (grownCap (w.alloc (.cells #[.string t] 9)) s.size 0 5) 5
        rw [World.size_alloc] at hnew
        have hcc := (countNe_any (w.heap.size + 1) (grownCap (w.alloc (.cells #[.string t] 9)) s.size 0 5) s.data.toList t ⟨w.heap.size, 0, none⟩ _ (by rw [len_data]; omega) hnew (by rw [World.cell?_drew, World.cell?_alloc2_first']; rfl) (by rw [len_data]; exact hle))
        rw [len_data] at hcc
        refine hcc.mono ?_
        rintro e w' ⟨rfl, rfl⟩
        clear hcc hnew hcv
        go_wp2
        go_ret
        exact ⟨ret_int HE.out.symm, (((Below.refl _ _).alloc (Nat.le_refl _) _).alloc (by simp) _).drew⟩
      · have HE := Lib.hid (differOf_no3 hz)
        have hzb : ((s.size : Int) != (t.size : Int)) = true := by simp; omega
        clear hz
        go_enter Try.func65, Try.ntmps65
        go_wp2_with (go_at_call 52; refine (implWordOk_any _ _ (by assumption)).mono ?_; rintro e w' ⟨rfl, rfl⟩)
        go_ret
        exact ⟨ret_int HE.out.symm, (Below.refl _ _).alloc (Nat.le_refl _) _⟩
    · have hg' : wordOk t = false := by simpa using hg
      have HE := Lib.hid (differOf_no2 (s := s) hg')
      clear hg
      go_enter Try.func65, Try.ntmps65
      go_wp2_with (go_at_call 52; refine (implWordOk_any _ _ (by assumption)).mono ?_; rintro e w' ⟨rfl, rfl⟩)
      go_ret
      exact ⟨ret_int HE.out.symm, (Below.refl _ _).alloc (Nat.le_refl _) _⟩
  · have hw' : wordOk s = false := by simpa using hw
    have HE := Lib.hid (differOf_no1 (t := t) hw')
    clear hw
    go_enter Try.func65, Try.ntmps65
    go_wp2_with (go_at_call 52; refine (implWordOk_any _ _ (by assumption)).mono ?_; rintro e w' ⟨rfl, rfl⟩)
    go_ret
    exact ⟨ret_int HE.out.symm, (Below.refl _ _).alloc (Nat.le_refl _) _⟩

set_option maxHeartbeats 400000 in
theorem specDifferOf_any (s t : ByteArray) (w : World) (hs : s.size ≤ maxLen) (ht : t.size ≤ maxLen) :
    Calls Try.prog 66 #[.string s, .string t] w fun e w' => e = .returned (.int .i64 (differOf s t)) ∧ Below w.heap.size w w' := by
  by_cases hw : wordOk s = true
  · by_cases hg : wordOk t = true
    · have h14 := wordOk_size hw
      have g14 := wordOk_size hg
      by_cases hz : s.size = t.size
      · have HE := Lib.hid (differOf_yes hw hg hz)
        have hzb : ((s.size : Int) != (t.size : Int)) = false := by simp [hz]
        have hle : s.size ≤ t.size := by omega
        clear hz
        go_enter Try.func66, Try.ntmps66
        go_wp2_with (go_at_call 75; refine (specWordOk_any _ _ (by assumption)).mono ?_; rintro e w' ⟨rfl, rfl⟩)
        go_loopw [5, 6] (fun n i w' => ∃ k : Nat, k ≤ s.size ∧ i = .int .i64 k ∧ n = .int .i64 (cntNe s.data.toList t.data.toList k) ∧ Below w.heap.size w w') (fun _ i _ => s.size - (intOf i).toNat)
        case atStart => exact ⟨0, Nat.zero_le _, rfl, rfl, Below.refl _ _⟩
        case round =>
          obtain ⟨k, hk, rfl, rfl, hbel⟩ := hrel
          have hbd := cntNe_bd s.data.toList t.data.toList k
          by_cases hlt : k < s.size
          · have hlt2 : k < t.size := by omega
            have HS := Lib.hid (cntNe_stepS s t k hlt hlt2)
            by_cases hb : (s[k] != t[k]) = true
            · have hb' : ((s[k].toNat : Int) != (t[k].toNat : Int)) = true := by rw [bne, u8_beq]; exact hb
              have HB := Lib.hid hb
              clear hb
              go_wp2
              go_quiet (fail)
              go_wp2
              go_roundw
              case rel => exact ⟨k + 1, by omega, by go_num, by rw [HS.out, if_pos HB.out], below_drewN hbel _⟩
              case measure => simp [intOf]; omega
            · have hbf : (s[k] != t[k]) = false := by simpa using hb
              have hb' : ((s[k].toNat : Int) != (t[k].toNat : Int)) = false := by rw [bne, u8_beq]; exact hbf
              have HB := Lib.hid hb
              clear hb hbf
              go_wp2
              go_quiet (fail)
              go_wp2
              go_roundw
              case rel => exact ⟨k + 1, by omega, by go_num, by rw [HS.out, if_neg HB.out, Int.add_zero], below_drewN hbel _⟩
              case measure => simp [intOf]; omega
          · obtain rfl : k = s.size := by omega
            go_wp2
            go_ret
            exact ⟨ret_int HE.out.symm, hbel⟩
      · have HE := Lib.hid (differOf_no3 hz)
        have hzb : ((s.size : Int) != (t.size : Int)) = true := by simp; omega
        clear hz
        go_enter Try.func66, Try.ntmps66
        go_wp2_with (go_at_call 75; refine (specWordOk_any _ _ (by assumption)).mono ?_; rintro e w' ⟨rfl, rfl⟩)
        go_ret
        exact ⟨ret_int HE.out.symm, Below.refl _ _⟩
    · have hg' : wordOk t = false := by simpa using hg
      have HE := Lib.hid (differOf_no2 (s := s) hg')
      clear hg
      go_enter Try.func66, Try.ntmps66
      go_wp2_with (go_at_call 75; refine (specWordOk_any _ _ (by assumption)).mono ?_; rintro e w' ⟨rfl, rfl⟩)
      go_ret
      exact ⟨ret_int HE.out.symm, Below.refl _ _⟩
  · have hw' : wordOk s = false := by simpa using hw
    have HE := Lib.hid (differOf_no1 (t := t) hw')
    clear hw
    go_enter Try.func66, Try.ntmps66
    go_wp2_with (go_at_call 75; refine (specWordOk_any _ _ (by assumption)).mono ?_; rintro e w' ⟨rfl, rfl⟩)
    go_ret
    exact ⟨ret_int HE.out.symm, Below.refl _ _⟩
end Go.Proofs.Ytggohgkjdnnndaa
