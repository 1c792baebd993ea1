/- fairerOn of the program: what it returns. No condition. -/
import Derived.Test.YtggohgkjdnnndaaSwapLd
import Derived.BigQuiet
import Derived.Deep.QuietTactic
namespace Go.Proofs.Ytggohgkjdnnndaa
open Go.RowKit

/-- the first pair of which a test holds -/
def IsF2 (P : Nat → Nat → Bool) (n : Nat) : Option (Nat × Nat) → Prop
  | none => ∀ a b, a < n → b < n → P a b = false
  | some (a, b) => a < n ∧ b < n ∧ P a b = true ∧ ∀ a' b', a' < n → b' < n → (a' < a ∨ a' = a ∧ b' < b) → P a' b' = false
def faP (s : ByteArray) (c : UInt8) (L : List Int) (a b : Nat) : Bool := (byteAt s a == c) && (byteAt s b != c) && decide (L.getD b 0 + 2 ≤ L.getD a 0)
def faV : Option (Nat × Nat) → Value
  | none => .tuple #[.int .i64 0, .int .i64 0, .bool false]
  | some (a, b) => .tuple #[.int .i64 (a : Int), .int .i64 (b : Int), .bool true]

set_option maxHeartbeats 3200000 in
theorem fairerOn_any (s : ByteArray) (c : UInt8) (v : Value) (L : List Int) (w : World) (h : IsInts w v L) (hl : L.length = s.size) (hs : s.size ≤ 4) (h0 : 0 < L.length) (hb : ∀ x ∈ L, 0 ≤ x ∧ x ≤ 12) :
    Calls Try.prog 70 #[.string s, .int .u8 (c.toNat : Int), v] w fun e w' => (∃ r, IsF2 (faP s c L) s.size r ∧ e = .returned (faV r)) ∧ Below w.heap.size w w' := by
  obtain ⟨av, cv, rfl, hcap, hmx, hor⟩ := h
  obtain ⟨g, off, rfl, hg, hcell⟩ := hor.resolve_left (fun e => by rw [e] at h0; exact absurd h0 (Nat.lt_irrefl _))
  unfold maxLen at hmx
  have HC := Lib.hid hcell
  have HG := Lib.hid hg
  have HBD := Lib.hid (fun k (hk : k < L.length) => hb _ (List.getElem_mem hk))
  have HP : Hid (∀ k j (hk : k < L.length) (hj : j < L.length) (hk2 : k < s.size) (hj2 : j < s.size), faP s c L k j = (((s[k].toNat : Int) == (c.toNat : Int)) && ((s[j].toNat : Int) != (c.toNat : Int)) && decide (L[j] + 2 ≤ L[k]))) := by
    have : ∀ k j (hk : k < L.length) (hj : j < L.length) (hk2 : k < s.size) (hj2 : j < s.size), faP s c L k j = (((s[k].toNat : Int) == (c.toNat : Int)) && ((s[j].toNat : Int) != (c.toNat : Int)) && decide (L[j] + 2 ≤ L[k])) := fun k j hk hj hk2 hj2 => by
      have e1 : L.getD k 0 = L[k] := by simp [List.getD, hk]
      have e2 : L.getD j 0 = L[j] := by simp [List.getD, hj]
      have e3 : ((s[j].toNat : Int) != (c.toNat : Int)) = (s[j] != c) := by rw [bne, bne, u8_beq]
      rw [faP, e1, e2, u8_beq, e3, byteAt_eq s k hk2, byteAt_eq s j hj2]
    exact Lib.hid this
  have hL4 : L.length ≤ 4 := by omega
  have HLS := Lib.hid hl
  clear hb hor hcell hg hl hs
  go_enter Try.func70, Try.ntmps70
  go_wp2_with fail
  go_loopw [13] (fun iv wr => ∃ (k : Nat), k ≤ L.length ∧ iv = .int .i64 (k : Int) ∧ Hid (∀ a b, a < k → b < L.length → faP s c L a b = false) ∧ Hid (Below w.heap.size w wr)) (fun iv _ => L.length - (intOf iv).toNat)
  case atStart => exact ⟨0, Nat.zero_le _, rfl, Lib.hid (fun a b ha => absurd ha (Nat.not_lt_zero a)), Lib.hid (Below.refl _ _)⟩
  case round =>
    obtain ⟨k, hk, rfl, HK, HB⟩ := hrel
    by_cases hlt : k < L.length
    · have hki : (k : Int) < (L.length : Int) := by omega
      have hks : k < s.size := by have := HLS.out; omega
      have hksi : (k : Int) < (s.size : Int) := by omega
      go_wp2_with fail
      go_loopw [18] (fun jv wq => ∃ (j : Nat), j ≤ L.length ∧ jv = .int .i64 (j : Int) ∧ Hid (∀ b, b < j → faP s c L k b = false) ∧ Hid (Below w.heap.size w wq)) (fun jv _ => L.length - (intOf jv).toNat)
      case atStart => exact ⟨0, Nat.zero_le _, rfl, Lib.hid (fun b hb => absurd hb (Nat.not_lt_zero b)), HB⟩
      case round =>
        obtain ⟨j, hj, rfl, HJ, HQ⟩ := hrel
        by_cases hjl : j < L.length
        · have hji : (j : Int) < (L.length : Int) := by omega
          have hjs : j < s.size := by have := HLS.out; omega
          have hjsi : (j : Int) < (s.size : Int) := by omega
          have x1 := (HQ.out.cell (p := ⟨g, off + k, none⟩) HG.out).trans (HC.out k hlt)
          have x2 := (HQ.out.cell (p := ⟨g, off + j, none⟩) HG.out).trans (HC.out j hjl)
          have b1 := HBD.out k hlt
          have b2 := HBD.out j hjl
          have HPP := Lib.hid (HP.out k j hlt hjl hks hjs)
          generalize L[k] = x at *
          generalize L[j] = y at *
          cases hA : ((s[k].toNat : Int) == (c.toNat : Int)) with
          | false =>
            have HN : Hid (∀ b, b < j + 1 → faP s c L k b = false) := by
              have : ∀ b, b < j + 1 → faP s c L k b = false := fun b hb => by
                by_cases e : b = j
                · rw [e, HPP.out, hA]; rfl
                · exact HJ.out b (by omega)
              exact Lib.hid this
            go_wp2_with fail
            go_quiet (fail)
            go_wp2_with fail
            go_roundw
            case rel => exact ⟨j + 1, by omega, by go_num, HN, Lib.hid (below_drewN HQ.out _)⟩
            case measure => simp [intOf]; omega
          | true =>
            cases hB : ((s[j].toNat : Int) != (c.toNat : Int)) with
            | false =>
              have HN : Hid (∀ b, b < j + 1 → faP s c L k b = false) := by
                have : ∀ b, b < j + 1 → faP s c L k b = false := fun b hb => by
                  by_cases e : b = j
                  · rw [e, HPP.out, hB]; simp
                  · exact HJ.out b (by omega)
                exact Lib.hid this
              go_wp2_with fail
              go_quiet (fail)
              go_wp2_with fail
              go_roundw
              case rel => exact ⟨j + 1, by omega, by go_num, HN, Lib.hid (below_drewN HQ.out _)⟩
              case measure => simp [intOf]; omega
            | true =>
              by_cases hG : y + 2 ≤ x
              · have HF : Hid (IsF2 (faP s c L) s.size (some (k, j))) := by
                  have : IsF2 (faP s c L) s.size (some (k, j)) := by
                    refine ⟨by omega, by omega, ?_, fun a' b' ha' hb' hor => ?_⟩
                    · rw [HPP.out, hA, hB, decide_eq_true hG]; rfl
                    · rcases hor with h1 | ⟨rfl, h1⟩
                      · exact HK.out a' b' h1 (by have := HLS.out; omega)
                      · exact HJ.out b' h1
                  exact Lib.hid this
                have hGd : decide (y + 2 ≤ x) = true := decide_eq_true hG
                go_wp2_with fail
                go_quiet (fail)
                go_wp2_with fail
                go_ret3
                exact ⟨⟨_, HF.out, rfl⟩, below_drewN HQ.out _⟩
              · have HN : Hid (∀ b, b < j + 1 → faP s c L k b = false) := by
                  have : ∀ b, b < j + 1 → faP s c L k b = false := fun b hb => by
                    by_cases e : b = j
                    · rw [e, HPP.out, decide_eq_false hG]; simp
                    · exact HJ.out b (by omega)
                  exact Lib.hid this
                have hGd : decide (y + 2 ≤ x) = false := decide_eq_false hG
                go_wp2_with fail
                go_quiet (fail)
                go_wp2_with fail
                go_roundw
                case rel => exact ⟨j + 1, by omega, by go_num, HN, Lib.hid (below_drewN HQ.out _)⟩
                case measure => simp [intOf]; omega
        · obtain rfl : j = L.length := by omega
          have HN : Hid (∀ a b, a < k + 1 → b < L.length → faP s c L a b = false) := by
            have : ∀ a b, a < k + 1 → b < L.length → faP s c L a b = false := fun a b ha hb => by
              by_cases e : a = k
              · rw [e]; exact HJ.out b hb
              · exact HK.out a b (by omega) hb
            exact Lib.hid this
          go_wp2_with fail
          go_roundw
          case rel => exact ⟨k + 1, by omega, by go_num, HN, HQ⟩
          case measure => simp [intOf]; omega
    · obtain rfl : k = L.length := by omega
      have HF : Hid (IsF2 (faP s c L) s.size none) := by
        have : IsF2 (faP s c L) s.size none := fun a b ha hb => HK.out a b (by have := HLS.out; omega) (by have := HLS.out; omega)
        exact Lib.hid this
      go_wp2_with fail
      go_ret3
      exact ⟨⟨_, HF.out, rfl⟩, HB.out⟩

theorem isF2_row (P : Nat → Nat → Bool) (n a : Nat) : ∀ k, k ≤ n → (∀ b, b < k → P a b = false) ∨ ∃ b, b < k ∧ P a b = true ∧ ∀ b', b' < b → P a b' = false
  | 0, _ => .inl fun b hb => absurd hb (Nat.not_lt_zero b)
  | k + 1, hk => by
    rcases isF2_row P n a k (by omega) with h | ⟨b, h1, h2, h3⟩
    · cases e : P a k with
      | false =>
        refine .inl fun b hb => ?_
        by_cases eb : b = k
        · rw [eb]; exact e
        · exact h b (by omega)
      | true => exact .inr ⟨k, by omega, e, fun b hb => h b hb⟩
    · exact .inr ⟨b, by omega, h2, h3⟩
theorem isF2_to (P : Nat → Nat → Bool) (n : Nat) : ∀ k, k ≤ n → (∀ a b, a < k → b < n → P a b = false) ∨ ∃ r, r ≠ none ∧ IsF2 P n r
  | 0, _ => .inl fun a b ha => absurd ha (Nat.not_lt_zero a)
  | k + 1, hk => by
    rcases isF2_to P n k (by omega) with h | h
    · rcases isF2_row P n k n (Nat.le_refl _) with g | ⟨b, g1, g2, g3⟩
      · refine .inl fun a b ha hb => ?_
        by_cases e : a = k
        · rw [e]; exact g b hb
        · exact h a b (by omega) hb
      · refine .inr ⟨some (k, b), by simp, by omega, g1, g2, fun a' b' ha hb hor => ?_⟩
        rcases hor with h1 | ⟨rfl, h1⟩
        · exact h a' b' h1 hb
        · exact g3 b' h1
    · exact .inr h
theorem isF2_ex (P : Nat → Nat → Bool) (n : Nat) : ∃ r, IsF2 P n r := by
  rcases isF2_to P n n (Nat.le_refl _) with h | ⟨r, -, h⟩
  · exact ⟨none, h⟩
  · exact ⟨r, h⟩
theorem IsF2.one {P : Nat → Nat → Bool} {n : Nat} {r q : Option (Nat × Nat)} (h : IsF2 P n r) (g : IsF2 P n q) : r = q := by
  rcases r with _ | ⟨a, b⟩ <;> rcases q with _ | ⟨c, d⟩
  · rfl
  · obtain ⟨g1, g2, g3, -⟩ := g
    rw [h c d g1 g2] at g3; cases g3
  · obtain ⟨h1, h2, h3, -⟩ := h
    rw [g a b h1 h2] at h3; cases h3
  · obtain ⟨h1, h2, h3, h4⟩ := h
    obtain ⟨g1, g2, g3, g4⟩ := g
    by_cases e1 : c < a ∨ c = a ∧ d < b
    · rw [h4 c d g1 g2 e1] at g3; cases g3
    · by_cases e2 : a < c ∨ a = c ∧ b < d
      · rw [g4 a b h1 h2 e2] at h3; cases h3
      · have : a = c := by omega
        have : b = d := by omega
        subst a b; rfl
theorem fairerOn_at (s : ByteArray) (c : UInt8) (v : Value) (L : List Int) (w : World) (h : IsInts w v L) (hl : L.length = s.size) (hs : s.size ≤ 4) (h0 : 0 < L.length) (hb : ∀ x ∈ L, 0 ≤ x ∧ x ≤ 12) (r : Option (Nat × Nat)) (hr : IsF2 (faP s c L) s.size r) :
    Calls Try.prog 70 #[.string s, .int .u8 (c.toNat : Int), v] w fun e w' => e = .returned (faV r) ∧ Below w.heap.size w w' :=
  (fairerOn_any s c v L w h hl hs h0 hb).mono fun _ _ ⟨⟨_, g, he⟩, hB⟩ => ⟨by rw [he, g.one hr], hB⟩
end Go.Proofs.Ytggohgkjdnnndaa
