/- Rows that a call owns, by their places in a list: what stays and what turns. No program, no condition. slices.Reverse at bytes, and impl.BackWord: what it returns, for every text. CountOf and DifferOf, of the model and of the program: what each returns, for every input. -/
import Derived.Test.YtlbblfbiiceofaaQueue
import Derived.Shelf.SlicesE.Reverse
import Derived.Test.YtlbblfbiiceofaaRolled
import Derived.OneCell
import Derived.WalkSmall

namespace Go.Proofs.Ytlbblfbiiceofaa
open Go.RowKit

/-- what lies below stays, and the call owns these things -/
structure Own (wB : World) (ts : List Thing) (w : World) : Prop where
  keep : Below wB.heap.size wB w
  ap : Apart wB.heap.size ts w
section
variable {wB : World} {ts : List Thing} {w w' : World}
theorem Own.nil (w : World) : Own w [] w := ⟨Below.refl _ _, Apart.nil _ _⟩
theorem Own.size (h : Own wB ts w) : wB.heap.size ≤ w.heap.size := h.keep.size
theorem Own.same (h : Own wB ts w) (hg : w.grownBy w' none) : Own wB ts w' := ⟨h.keep.grown hg h.size (fun _ e => by cases e), h.ap.same hg⟩
theorem Own.below (h : Own wB ts w) (hb : Below w.heap.size w w') : Own wB ts w' := h.same (grown_below hb)
theorem Own.alloc (h : Own wB ts w) (o : Obj) : Own wB ts (w.alloc o) := h.same (World.grownBy_alloc w o none)
theorem Own.drewN (h : Own wB ts w) (n : Nat) : Own wB ts (w.drewN n) := h.same (grown_drewN w n none)
theorem Own.sub (h : Own wB ts w) {us : List Thing} (s : us.Sublist ts) : Own wB us w := ⟨h.keep, h.ap.sub s⟩
theorem Own.perm (h : Own wB ts w) {us : List Thing} (s : ts.Perm us) : Own wB us w := ⟨h.keep, h.ap.perm s⟩
theorem Own.row (h : Own wB ts w) (i : Nat) (hi : i < ts.length) {e : TypeId} {v : Value} {n : Nat} {xs : List Value} (he : ts[i] = rowT e 1 v n xs) : w.ownsRow 0 e 1 v n xs := by
  have := h.ap.at i hi
  rw [he] at this; exact this
theorem Own.cells (h : Own wB ts w) (i : Nat) (hi : i < ts.length) {b : Nat} {cs : Array Value} {t : TypeId} (he : ts[i] = cellsT b cs t) : (cellsT b cs t).says w := by
  have := h.ap.at i hi
  rw [he] at this; exact this
/-- one more in a row -/
theorem Own.push {i g cp n : Nat} {e : TypeId} {v x : Value} {xs : List Value} {tt : TypeId} {w1 : World} (h : Own wB ts w) (hi : i < ts.length) (he : ts[i] = rowT e 1 v n xs) (hg : (w.alloc (.cells #[x] tt)).grownBy w1 v.ownBlock)
    (ho : w1.ownsRow 0 e 1 (.slice (some ⟨g, 0, none⟩) (n + 1) cp) (n + 1) (xs ++ [x])) (hat : v.ownBlock = some g ∨ g = (w.alloc (.cells #[x] tt)).heap.size) :
    Own wB (ts.set i (rowT e 1 (.slice (some ⟨g, 0, none⟩) (n + 1) cp) (n + 1) (xs ++ [x]))) w1 := by
  have h1 := h.alloc (.cells #[x] tt)
  have hlt := h1.ap.ltAt i hi
  rw [he] at hlt
  exact ⟨h1.keep.grown hg h1.size (fun j e => (hlt j e).1), h1.ap.turnAt i hi (by rw [he]; exact hg) _ ho h1.size
    (fun j e => ⟨by rw [he]; cases e; exact hat.imp id (fun e => Nat.le_of_eq e.symm), (World.ownsRow.lt ho j e).2⟩)⟩
/-- a store into a block of cells -/
theorem Own.put {i b : Nat} {cs : Array Value} {t : TypeId} (h : Own wB ts w) (hi : i < ts.length) (he : ts[i] = cellsT b cs t) (j : Nat) (u : Value) :
    Own wB (ts.set i (cellsT b (cs.setIfInBounds j u) t)) (w.setCell ⟨b, j, none⟩ u) := by
  have hlt := h.ap.ltAt i hi
  rw [he] at hlt
  exact ⟨h.keep.setCell (p := ⟨b, j, none⟩) (hlt b rfl).1 _, h.ap.setAt i hi he h.size j u⟩
/-- a new block of cells -/
theorem Own.box (h : Own wB ts w) (cs : Array Value) (t : TypeId) : Own wB (cellsT w.heap.size cs t :: ts) (w.alloc (.cells cs t)) :=
  ⟨(h.alloc _).keep, h.ap.more (World.grownBy_alloc w _ none) _ (heap_alloc_new w _) h.size (fun j e => by cases e; simp)⟩
/-- a new row, written out -/
theorem Own.lit (h : Own wB ts w) (e : TypeId) (xs : Array Value) (n : Nat) (hn : xs.size = n) (hm : n ≤ maxLen) : Own wB (rowT e 1 (.slice (some ⟨w.heap.size, 0, none⟩) n n) n xs.toList :: ts) (w.alloc (.cells xs e)) :=
  ⟨(h.alloc _).keep, h.ap.more (World.grownBy_alloc w _ none) _ (World.ownsRow_lit (base := 0) w xs n (Nat.zero_le _) hm (by omega)) h.size (fun j e => by cases e; simp)⟩
theorem Own.idle (h : Own wB ts w) (e : TypeId) : Own wB (rowT e 1 (.slice none 0 0) 0 [] :: ts) w := ⟨h.keep, h.ap.idle _ (World.ownsRow_nil _ _ _ _) rfl⟩
end
end Go.Proofs.Ytlbblfbiiceofaa

namespace Go.Proofs.Ytlbblfbiiceofaa
open Go.Shelf Go.RowKit
def HasBytes (w : World) (b : Nat) (l : List UInt8) : Prop := ∀ j (h : j < l.length), w.cell? ⟨b, j, none⟩ = some (.int .u8 (l[j].toNat : Int)) ∧ w.frozen? ⟨b, j, none⟩ = false

/-- what '[]byte(s)' lays holds the bytes of s -/
theorem hasBytes_new (w : World) (s : ByteArray) (c : Nat) (t : TypeId) :
    HasBytes ((w.alloc (.cells (bytesRow s c) t ((bytesRow s c).size, (bytesRow s c).size + 1))).drew) w.heap.size s.data.toList := by
  intro j hj
  have hj' : j < s.size := by rw [← len_data]; exact hj
  have hsz : j < s.data.size := hj'
  have hb : j < (bytesRow s c).size := by simp only [bytesRow, Array.size_append, Array.size_map]; omega
  rw [World.cell?_drew, World.frozen?_drew, World.cell?_alloc_mark, World.frozen?_alloc_mark]
  refine ⟨?_, ?_⟩
  · simp only [bytesRow]
    rw [Array.getElem?_append_left (by simpa using hsz), Array.getElem?_map, Array.getElem?_eq_getElem hsz]
    rfl
  · simp; omega

end Go.Proofs.Ytlbblfbiiceofaa

namespace Go.Proofs.Ytlbblfbiiceofaa
open Go.RowKit

theorem countClosure_any (i c : Int) (a : Addr) (t : ByteArray) (w : World) (h0 : 0 < t.size) (hc : w.cell? a = some (.string t)) :
    Calls Try.prog 64 #[.int .i64 i, .int .u8 c, .pointer (some a)] w fun e w' => e = .returned (.bool (c == (t[0].toNat : Int))) ∧ w = w' := by
  go_enter Try.func64, Try.ntmps64
  go_wp2
  go_ret
  exact ⟨rfl, rfl⟩

set_option maxHeartbeats 400000 in
theorem countEq_any (b cap : Nat) (l : List UInt8) (t : ByteArray) (a : Addr) (w : World) (hl : l.length ≤ 14) (H : HasBytes w b l) (hc : w.cell? a = some (.string t)) (h0 : 0 < t.size) :
    Calls Try.prog 63 #[.slice (some ⟨b, 0, none⟩) l.length cap, .func (.func 64) #[] #[.pointer (some a)]] w
      fun e w' => e = .returned (.int .i64 (cntEq l t[0] l.length)) ∧ w = w' := by
  have HC := Lib.hid hc
  have HH := Lib.hid H
  clear H hc
  go_enter Try.func63, Try.ntmps63
  go_wp2
  go_loop [5, 6, 7, 10] (fun n _ _ i => ∃ k : Nat, k ≤ l.length ∧ i = .int .i64 k ∧ n = .int .i64 (cntEq l t[0] k)) (fun _ _ _ i => l.length - (intOf i).toNat)
  case atStart => exact ⟨0, Nat.zero_le _, rfl, rfl⟩
  case round =>
    obtain ⟨k, hk, rfl, rfl⟩ := hrel
    have hbd := cntEq_bd l t[0] k
    by_cases hlt : k < l.length
    · have hcell := (HH.out k hlt).1
      have HS := Lib.hid (cntEq_step l t[0] k hlt)
      by_cases hb : (l[k] == t[0]) = true
      · have hb' : ((l[k].toNat : Int) == (t[0].toNat : Int)) = true := by rw [u8_beq]; exact hb
        have HB := Lib.hid hb
        clear hb
        go_wp2_with (go_at_call 64; refine (countClosure_any _ _ _ _ _ h0 HC.out).mono ?_; rintro e w' ⟨rfl, rfl⟩)
        go_round
        case rel => exact ⟨k + 1, by omega, by go_num, by rw [HS.out, if_pos HB.out]⟩
        case measure => simp [intOf]; omega
      · have hbf : (l[k] == t[0]) = false := by simpa using hb
        have hb' : ((l[k].toNat : Int) == (t[0].toNat : Int)) = false := by rw [u8_beq]; exact hbf
        have HB := Lib.hid hb
        clear hb hbf
        go_wp2_with (go_at_call 64; refine (countClosure_any _ _ _ _ _ h0 HC.out).mono ?_; rintro e w' ⟨rfl, rfl⟩)
        go_round
        case rel => exact ⟨k + 1, by omega, by go_num, by rw [HS.out, if_neg HB.out, Int.add_zero]⟩
        case measure => simp [intOf]; omega
    · obtain rfl : k = l.length := by omega
      go_wp2
      go_ret
      exact ⟨rfl, rfl⟩

theorem cntEq_stepS (s : ByteArray) (c : UInt8) (k : Nat) (h : k < s.size) : cntEq s.data.toList c (k + 1) = cntEq s.data.toList c k + if (s[k] == c) = true then 1 else 0 :=
  cntEq_step s.data.toList c k (by rw [len_data]; exact h)
theorem World.cell?_alloc2_first' (w : World) (c : Array Value) (t : TypeId) (b : Obj) (i : Nat) : ((w.alloc (.cells c t)).alloc b).cell? ⟨w.heap.size, i, none⟩ = c[i]? := World.cell?_alloc2_first c t b i
theorem countOf_no1 {s t : ByteArray} (h : wordOk s = false) : countOf s t = -1 := by simp [countOf, h]
theorem countOf_no2 {s t : ByteArray} (h : letterOk t = false) : countOf s t = -1 := by simp [countOf, h]
theorem countOf_yes {s t : ByteArray} (h : wordOk s = true) (g : letterOk t = true) : countOf s t = cntEq s.data.toList (byteAt t 0) s.size := by simp [countOf, h, g]
theorem letterOk_size {t : ByteArray} (h : letterOk t = true) : t.size = 1 := by simp [letterOk] at h; exact h.1

set_option maxHeartbeats 400000 in
theorem implCountOf_any (s t : ByteArray) (w : World) (hs : s.size ≤ maxLen) (ht : t.size ≤ maxLen) :
    Calls Try.prog 30 #[.string s, .string t] w fun e w' => e = .returned (.int .i64 (countOf s t)) ∧ Below w.heap.size w w' := by
  by_cases hw : wordOk s = true
  · by_cases hg : letterOk t = true
    · have h14 := wordOk_size hw
      have h1 : 0 < t.size := by rw [letterOk_size hg]; omega
      have HE := Lib.hid (countOf_yes hw hg)
      have hcv := fun w => run_bytes_of_string (P := Try.prog) w 9 22 5 s Try.underlying9 Try.underlying22 Try.underlying5
      go_enter Try.func30, Try.ntmps30
      go_wp2_with (first | (go_at_call 56; refine (implWordOk_any _ _ hs).mono ?_; rintro e w' ⟨rfl, rfl⟩) | (go_at_call 62; refine (implLetterOk_any _ _ ht).mono ?_; rintro e w' ⟨rfl, rfl⟩))
      have hnew := hasBytes_new (w.alloc (.cells #[.string t] 9)) s (grownCap (w.alloc (.cells #[.string t] 9)) s.size 0 5) 5
      rw [World.size_alloc] at hnew
      have hcc := (countEq_any (w.heap.size + 1) (grownCap (w.alloc (.cells #[.string t] 9)) s.size 0 5) s.data.toList t ⟨w.heap.size, 0, none⟩ _ (by rw [len_data]; omega) hnew (by rw [World.cell?_drew, World.cell?_alloc2_first']; rfl) h1)
      rw [len_data] at hcc
      refine hcc.mono ?_
      rintro e w' ⟨rfl, rfl⟩
      clear hcc hnew hcv
      go_wp2
      go_ret
      exact ⟨ret_int (by rw [HE.out, byteAt_eq t 0 h1]), (((Below.refl _ _).alloc (Nat.le_refl _) _).alloc (by simp) _).drew⟩
    · have hg' : letterOk t = false := by simpa using hg
      have HE := Lib.hid (countOf_no2 (s := s) hg')
      clear hg
      go_enter Try.func30, Try.ntmps30
      go_wp2_with (first | (go_at_call 56; refine (implWordOk_any _ _ hs).mono ?_; rintro e w' ⟨rfl, rfl⟩) | (go_at_call 62; refine (implLetterOk_any _ _ ht).mono ?_; rintro e w' ⟨rfl, rfl⟩))
      go_ret
      exact ⟨ret_int HE.out.symm, (Below.refl _ _).alloc (Nat.le_refl _) _⟩
  · have hw' : wordOk s = false := by simpa using hw
    have HE := Lib.hid (countOf_no1 (t := t) hw')
    clear hw
    go_enter Try.func30, Try.ntmps30
    go_wp2_with (first | (go_at_call 56; refine (implWordOk_any _ _ hs).mono ?_; rintro e w' ⟨rfl, rfl⟩) | (go_at_call 62; refine (implLetterOk_any _ _ ht).mono ?_; rintro e w' ⟨rfl, rfl⟩))
    go_ret
    exact ⟨ret_int HE.out.symm, (Below.refl _ _).alloc (Nat.le_refl _) _⟩

set_option maxHeartbeats 400000 in
theorem specCountOf_any (s t : ByteArray) (w : World) (hs : s.size ≤ maxLen) :
    Calls Try.prog 85 #[.string s, .string t] w fun e w' => e = .returned (.int .i64 (countOf s t)) ∧ Below w.heap.size w w' := by
  by_cases hw : wordOk s = true
  · by_cases hg : letterOk t = true
    · have h14 := wordOk_size hw
      have h1 : 0 < t.size := by rw [letterOk_size hg]; omega
      have HE := Lib.hid (countOf_yes hw hg)
      go_enter Try.func85, Try.ntmps85
      go_wp2_with (first | (go_at_call 58; refine (specWordOk_any _ _ hs).mono ?_; rintro e w' ⟨rfl, rfl⟩) | (go_at_call 87; refine (specLetterOk_any _ _).mono ?_; rintro e w' ⟨rfl, rfl⟩))
      go_loopw [5, 6] (fun n i w' => ∃ k : Nat, k ≤ s.size ∧ i = .int .i64 k ∧ n = .int .i64 (cntEq s.data.toList t[0] k) ∧ Below w.heap.size w w') (fun _ i _ => s.size - (intOf i).toNat)
      case atStart => exact ⟨0, Nat.zero_le _, rfl, rfl, Below.refl _ _⟩
      case round =>
        obtain ⟨k, hk, rfl, rfl, hbel⟩ := hrel
        have hbd := cntEq_bd s.data.toList t[0] k
        by_cases hlt : k < s.size
        · have HS := Lib.hid (cntEq_stepS s t[0] k hlt)
          by_cases hb : (s[k] == t[0]) = true
          · have hb' : ((s[k].toNat : Int) == (t[0].toNat : Int)) = true := by rw [u8_beq]; exact hb
            have HB := Lib.hid hb
            clear hb
            go_wp2
            go_quiet (fail)
            go_wp2
            go_roundw
            case rel => exact ⟨k + 1, by omega, by go_num, by rw [HS.out, if_pos HB.out], below_drewN hbel _⟩
            case measure => simp [intOf]; omega
          · have hbf : (s[k] == t[0]) = false := by simpa using hb
            have hb' : ((s[k].toNat : Int) == (t[0].toNat : Int)) = false := by rw [u8_beq]; exact hbf
            have HB := Lib.hid hb
            clear hb hbf
            go_wp2
            go_quiet (fail)
            go_wp2
            go_roundw
            case rel => exact ⟨k + 1, by omega, by go_num, by rw [HS.out, if_neg HB.out, Int.add_zero], below_drewN hbel _⟩
            case measure => simp [intOf]; omega
        · obtain rfl : k = s.size := by omega
          go_wp2
          go_ret
          exact ⟨ret_int (by rw [HE.out, byteAt_eq t 0 h1]), hbel⟩
    · have hg' : letterOk t = false := by simpa using hg
      have HE := Lib.hid (countOf_no2 (s := s) hg')
      clear hg
      go_enter Try.func85, Try.ntmps85
      go_wp2_with (first | (go_at_call 58; refine (specWordOk_any _ _ hs).mono ?_; rintro e w' ⟨rfl, rfl⟩) | (go_at_call 87; refine (specLetterOk_any _ _).mono ?_; rintro e w' ⟨rfl, rfl⟩))
      go_ret
      exact ⟨ret_int HE.out.symm, Below.refl _ _⟩
  · have hw' : wordOk s = false := by simpa using hw
    have HE := Lib.hid (countOf_no1 (t := t) hw')
    clear hw
    go_enter Try.func85, Try.ntmps85
    go_wp2_with (first | (go_at_call 58; refine (specWordOk_any _ _ hs).mono ?_; rintro e w' ⟨rfl, rfl⟩) | (go_at_call 87; refine (specLetterOk_any _ _).mono ?_; rintro e w' ⟨rfl, rfl⟩))
    go_ret
    exact ⟨ret_int HE.out.symm, Below.refl _ _⟩
end Go.Proofs.Ytlbblfbiiceofaa
