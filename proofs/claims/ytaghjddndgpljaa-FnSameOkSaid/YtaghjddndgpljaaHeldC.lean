/- The laws' numbering of slices of bools and of machines. No condition. -/
import Derived.Test.YtaghjddndgpljaaHeldB
import Derived.Test.YtaghjddndgpljaaApart
namespace Go.Proofs.Ytaghjddndgpljaa
open Go.RowKit

/-- the bools that are laid -/
def seqB (m : Int) (n : Nat) : List Bool := (List.range n).map (fun i : Nat => ((m + (i : Int)) % 3 == 0))
theorem seqB_length (m : Int) (n : Nat) : (seqB m n).length = n := by simp [seqB]
theorem seqB_succ (m : Int) (n : Nat) : seqB m (n + 1) = seqB m n ++ [((m + (n : Int)) % 3 == 0)] := by simp [seqB, List.range_succ]
theorem seqB_get (m : Int) (n k : Nat) (h : k < (seqB m n).length) : (seqB m n)[k] = ((m + (k : Int)) % 3 == 0) := by simp [seqB]
def markToB (xs : List Bool) (m : Int) (k : Nat) : List Bool := seqB m k ++ xs.drop k
theorem markToB_zero (xs : List Bool) (m : Int) : markToB xs m 0 = xs := by simp [markToB, seqB]
theorem markToB_all (xs : List Bool) (m : Int) : markToB xs m xs.length = seqB m xs.length := by simp [markToB]
theorem markToB_length (xs : List Bool) (m : Int) (k : Nat) (h : k ≤ xs.length) : (markToB xs m k).length = xs.length := by
  rw [markToB, List.length_append, seqB_length, List.length_drop]; omega
theorem markToB_step (xs : List Bool) (m : Int) (k : Nat) (h : k < xs.length) : (markToB xs m k).set k ((m + (k : Int)) % 3 == 0) = markToB xs m (k + 1) := by
  have e : xs.drop k = xs[k] :: xs.drop (k + 1) := List.drop_eq_getElem_cons h
  rw [markToB, markToB, seqB_succ, List.set_append_right _ _ (by rw [seqB_length]; exact Nat.le_refl _), seqB_length, Nat.sub_self, e, List.set_cons_zero, List.append_assoc]
  rfl
def MarkPostB (base : Nat) (v : Value) (n : Nat) (m : Int) (w : World) (e : Ending) (w' : World) : Prop :=
  e = .returned (.int .i64 (m + n)) ∧ w'.ownsRow base 4 1 v n ((seqB m n).map Value.bool) ∧ w.grownBy w' v.ownBlock

set_option maxHeartbeats 800000 in
theorem markBoolS_any (base : Nat) (v : Value) (xs : List Bool) (m : Int) (w : World) (h : w.ownsRow base 4 1 v xs.length (xs.map Value.bool)) (hx : xs.length ≤ 1100000) (hm0 : 0 ≤ m) (hm : m ≤ 1000000000) :
    Calls Try.prog 116 #[v, .int .i64 m] w (MarkPostB base v xs.length m w) := by
  obtain ⟨a, len, cap, hv, hlen⟩ : ∃ a len cap, v = .slice a len cap ∧ len = xs.length := by
    rcases h.2 with ⟨hv, hn⟩ | ⟨g, cap, cur, hv, _⟩
    · exact ⟨none, 0, 0, hv, hn.symm⟩
    · exact ⟨_, _, _, hv, rfl⟩
  subst hlen
  subst hv
  have HO := Lib.hid h
  clear h
  generalize hL : xs.length = L at *
  have HL := Lib.hid hL
  clear hL
  go_enter Try.func116, Try.ntmps116
  go_wp2
  go_loopw [1, 5] (fun q i wr => ∃ k : Nat, k ≤ L ∧ i = .int .i64 k ∧ q = .int .i64 (m + k) ∧ wr.ownsRow base 4 1 (.slice a L cap) L ((markToB xs m k).map Value.bool) ∧ w.grownBy wr (Value.slice a L cap).ownBlock) (fun _ i _ => L - (intOf i).toNat)
  case atStart => exact ⟨0, Nat.zero_le _, rfl, by go_num, by rw [markToB_zero]; exact HO.out, grown_refl _ _⟩
  case round =>
    obtain ⟨k, hk, rfl, rfl, hown, hgr⟩ := hrel
    have HG := Lib.hid hgr
    clear hgr
    by_cases hlt : k < L
    · obtain ⟨g, rfl⟩ : ∃ g, a = some ⟨g, 0, none⟩ := by
        rcases hown.2 with ⟨h, _⟩ | ⟨g, cap', cur, h, _⟩
        · cases h; omega
        · cases h; exact ⟨g, rfl⟩
      have hcap : L ≤ cap := by
        rcases hown.2 with ⟨h, _⟩ | ⟨g', cap', cur, h, _, _, h4, _⟩
        · cases h
        · cases h; exact h4
      have hml : (markToB xs m k).length = L := by rw [markToB_length xs m k (by rw [HL.out]; exact hk), HL.out]
      have hcl := hown.cellAt k (by omega)
      obtain ⟨c, hcell⟩ : ∃ c, wr.cell? ⟨g, k, none⟩ = some (.bool c) := ⟨(markToB xs m k)[k]'(by omega), by rw [hcl]; simp [hml, hlt]⟩
      have hfr := hown.frozenAt k
      have hst := hown.stored k (.bool ((m + (k : Int)) % 3 == 0))
      rw [← List.map_set, markToB_step xs m k (by rw [HL.out]; exact hlt)] at hst
      have HST := Lib.hid hst
      clear hst hcl hml hown
      go_wp2
      go_roundw
      case rel => exact ⟨k + 1, by omega, by go_num, by go_num, HST.out.1, grown_trans HG.out HST.out.2⟩
      case measure => simp [intOf]; omega
    · obtain rfl : k = L := by omega
      have HM := Lib.hid (markToB_all xs m)
      go_wp2
      go_ret
      refine ⟨rfl, ?_, HG.out⟩
      rw [← HL.out, ← HM.out, HL.out]
      exact hown

theorem heldBoolS_any (v : Value) (m : Int) (L : Nat) (w : World) (h : IsBools w v (seqB m L)) (hx : L ≤ 1100000) (hm0 : 0 ≤ m) (hm : m ≤ 1000000000) :
    Calls Try.prog 118 #[v, .int .i64 m] w fun e w' => e = .returned (.int .i64 (m + L)) ∧ w = w' := by
  obtain ⟨a, cap, rfl, ha1, ha2, ha⟩ := h
  unfold maxLen at ha2
  rw [seqB_length] at ha1 ⊢
  have HA := Lib.hid ha
  clear ha
  go_enter Try.func118, Try.ntmps118
  go_wp2
  go_loop [1, 5] (fun q i => ∃ k : Nat, k ≤ L ∧ i = .int .i64 k ∧ q = .int .i64 (m + k)) (fun _ i => L - (intOf i).toNat)
  case atStart => exact ⟨0, Nat.zero_le _, rfl, by go_num⟩
  case round =>
    obtain ⟨k, hk, rfl, rfl⟩ := hrel
    by_cases hlt : k < L
    · obtain ⟨g, off, rfl, hg, hc⟩ := HA.out.resolve_left (fun h => by have := seqB_length m L; rw [h] at this; simp at this; omega)
      have hcell := hc k (by rw [seqB_length]; exact hlt)
      rw [seqB_get] at hcell
      clear hc
      have hne : (((m + (k : Int)) % 3 == 0) != ((m + (k : Int)) % 3 == 0)) = false := by simp

      go_wp2
      go_round
      case rel => exact ⟨k + 1, by omega, by go_num, by go_num⟩
      case measure => simp [intOf]; omega
    · obtain rfl : k = L := by omega
      go_wp2
      go_ret
      exact ⟨rfl, rfl⟩
end Go.Proofs.Ytaghjddndgpljaa
