/- The helpers of the exact laws on slices of ints. -/
import Derived.Test.YtggohgkjdnnndaaInts
import Derived.Test.YtggohgkjdnnndaaWords
import Derived.Deep.QuietTactic
import Derived.BigQuiet
import Derived.WalkSmall
namespace Go.Proofs.Ytggohgkjdnnndaa
open Go.RowKit

set_option maxHeartbeats 800000 in
theorem eqIntS_any (u v : Value) (xs ys : List Int) (w : World) (hu : IsInts w u xs) (hv : IsInts w v ys) :
    Calls Try.prog 40 #[u, v] w fun e w' => e = .returned (.bool (xs == ys)) ∧ ∃ n, w' = w.drewN n := by
  obtain ⟨a, cap, rfl, ha1, ha2, ha⟩ := hu
  obtain ⟨b, cbp, rfl, hb1, hb2, hb⟩ := hv
  unfold maxLen at ha2 hb2
  by_cases hlen : xs.length = ys.length
  · have hl' : ((xs.length : Int) != (ys.length : Int)) = false := by simp [hlen]
    have HA := Lib.hid ha
    have HB := Lib.hid hb
    clear ha hb
    have hle : xs.length ≤ ys.length := by omega
    have HLN := Lib.hid hlen
    clear hlen
    go_enter Try.func40, Try.ntmps40
    go_wp2
    go_loopw [5] (fun i wr => ∃ k : Nat, k ≤ xs.length ∧ i = .int .i64 k ∧ (∀ j, j < k → xs.getD j 0 = ys.getD j 0) ∧ ∃ n, wr = w.drewN n) (fun i _ => xs.length - (intOf i).toNat)
    case atStart => exact ⟨0, Nat.zero_le _, rfl, (fun j h => absurd h (Nat.not_lt_zero j)), 0, rfl⟩
    case round =>
      obtain ⟨k, hk, rfl, heq, n, rfl⟩ := hrel
      have HE := Lib.hid heq
      clear heq
      by_cases hlt : k < xs.length
      · obtain ⟨g, off, rfl, hg, hc⟩ := HA.out.resolve_left (fun h => by rw [h] at hlt; exact absurd hlt (Nat.not_lt_zero k))
        obtain ⟨g2, off2, rfl, hg2, hc2⟩ := HB.out.resolve_left (fun h => by rw [h] at hle; have : xs.length ≤ 0 := hle; omega)
        have hlt2 : k < ys.length := by omega
        have hc1 := hc k hlt
        have hd1 := hc2 k hlt2
        clear hc hc2
        have e1 : xs.getD k 0 = xs[k] := by simp [List.getD, hlt]
        have e2 : ys.getD k 0 = ys[k] := by simp [List.getD, hlt2]
        by_cases hb : xs[k] = ys[k]
        · have hb' : (xs[k] != ys[k]) = false := by simp [hb]
          have HN : Hid (∀ j, j < k + 1 → xs.getD j 0 = ys.getD j 0) := by
            have : ∀ j, j < k + 1 → xs.getD j 0 = ys.getD j 0 := fun j hj => by
              by_cases hjk : j = k
              · subst hjk; rw [e1, e2, hb]
              · exact HE.out j (by omega)
            exact Lib.hid this
          clear hb e1 e2
          generalize hW : w.drewN n = W at *
          have HW := Lib.hid hW
          have hc1' : W.cell? ⟨g, off + k, none⟩ = some (.int .i64 xs[k]) := by rw [← hW]; exact hc1
          have hd1' : W.cell? ⟨g2, off2 + k, none⟩ = some (.int .i64 ys[k]) := by rw [← hW]; exact hd1
          clear hW hc1 hd1
          go_wp2
          go_quiet (fail)
          go_wp2
          go_roundw
          case rel => exact ⟨k + 1, by omega, by go_num, HN.out, _, by rw [← HW.out, World.drewN_drewN]⟩
          case measure => simp [intOf]; omega
        · have hb' : (xs[k] != ys[k]) = true := by simp [hb]
          have HN : Hid ((xs == ys) = false) := by
            have : (xs == ys) = false := by
              rw [beq_eq_false_iff_ne]
              intro h
              exact hb (by simp only [h])
            exact Lib.hid this
          clear hb e1 e2
          generalize hW : w.drewN n = W at *
          have HW := Lib.hid hW
          have hc1' : W.cell? ⟨g, off + k, none⟩ = some (.int .i64 xs[k]) := by rw [← hW]; exact hc1
          have hd1' : W.cell? ⟨g2, off2 + k, none⟩ = some (.int .i64 ys[k]) := by rw [← hW]; exact hd1
          clear hW hc1 hd1
          go_wp2
          go_quiet (fail)
          go_wp2
          go_ret
          exact ⟨ret_bool HN.out.symm, _, by rw [← HW.out, World.drewN_drewN]⟩
      · obtain rfl : k = xs.length := by omega
        have HN : Hid ((xs == ys) = true) := by
          have : (xs == ys) = true := by
            rw [beq_iff_eq]
            refine List.ext_getElem HLN.out fun i h1 h2 => ?_
            have := HE.out i h1
            simpa [List.getD, h1, h2] using this
          exact Lib.hid this
        go_wp2
        go_ret
        exact ⟨ret_bool HN.out.symm, _, rfl⟩
  · have hl' : ((xs.length : Int) != (ys.length : Int)) = true := by simp; omega
    have HN : Hid ((xs == ys) = false) := by
      have : (xs == ys) = false := by
        rw [beq_eq_false_iff_ne]
        intro h
        exact hlen (by rw [h])
      exact Lib.hid this
    clear hlen ha hb
    go_enter Try.func40, Try.ntmps40
    go_wp2
    go_ret
    exact ⟨ret_bool HN.out.symm, 0, rfl⟩

/-- numbers one after the other -/
def seqL (m : Int) (n : Nat) : List Int := (List.range n).map (fun i : Nat => m + (i : Int))
theorem seqL_length (m : Int) (n : Nat) : (seqL m n).length = n := by simp [seqL]
theorem seqL_succ (m : Int) (n : Nat) : seqL m (n + 1) = seqL m n ++ [m + n] := by simp [seqL, List.range_succ]
theorem seqL_get (m : Int) (n k : Nat) (h : k < (seqL m n).length) : (seqL m n)[k] = m + k := by simp [seqL]
/-- a list of which the first k are numbered -/
def markTo (xs : List Int) (m : Int) (k : Nat) : List Int := seqL m k ++ xs.drop k
theorem markTo_zero (xs : List Int) (m : Int) : markTo xs m 0 = xs := by simp [markTo, seqL]
theorem markTo_all (xs : List Int) (m : Int) : markTo xs m xs.length = seqL m xs.length := by simp [markTo]
theorem markTo_length (xs : List Int) (m : Int) (k : Nat) (h : k ≤ xs.length) : (markTo xs m k).length = xs.length := by
  rw [markTo, List.length_append, seqL_length, List.length_drop]; omega
theorem markTo_step (xs : List Int) (m : Int) (k : Nat) (h : k < xs.length) : (markTo xs m k).set k (m + k) = markTo xs m (k + 1) := by
  have e : xs.drop k = xs[k] :: xs.drop (k + 1) := List.drop_eq_getElem_cons h
  rw [markTo, markTo, seqL_succ, List.set_append_right _ _ (by rw [seqL_length]; exact Nat.le_refl _), seqL_length, Nat.sub_self, e, List.set_cons_zero, List.append_assoc]
  rfl
theorem grown_trans {a b c : World} {row : Option Nat} (h : a.grownBy b row) (k : b.grownBy c row) : a.grownBy c row :=
  ⟨k.os.trans h.os, k.tape.trans h.tape, k.output.trans h.output, Nat.le_trans h.size k.size, fun i hi hr => (k.block i (Nat.lt_of_lt_of_le hi h.size) hr).trans (h.block i hi hr)⟩
theorem grown_refl (a : World) (row : Option Nat) : a.grownBy a row := ⟨rfl, rfl, rfl, Nat.le_refl _, fun _ _ _ => rfl⟩

/-- what numbering a slice leaves -/
def MarkPost (base : Nat) (v : Value) (n : Nat) (m : Int) (w : World) (e : Ending) (w' : World) : Prop :=
  e = .returned (.int .i64 (m + n)) ∧ w'.ownsRow base 3 1 v n ((seqL m n).map (Value.int .i64)) ∧ w.grownBy w' v.ownBlock

set_option maxHeartbeats 800000 in
theorem markIntS_any (base : Nat) (v : Value) (xs : List Int) (m : Int) (w : World) (h : w.ownsRow base 3 1 v xs.length (xs.map (Value.int .i64))) (hx : xs.length ≤ 1100000) (hm0 : 0 ≤ m) (hm : m ≤ 1000000000) :
    Calls Try.prog 41 #[v, .int .i64 m] w (MarkPost base v xs.length m w) := by
  obtain ⟨a, len, cap, hv, hlen⟩ : ∃ a len cap, v = .slice a len cap ∧ len = xs.length := by
    rcases h.2 with ⟨hv, hn⟩ | ⟨g, cap, cur, hv, _⟩
    · exact ⟨none, 0, 0, hv, hn.symm⟩
    · exact ⟨_, _, _, hv, rfl⟩
  subst hlen
  subst hv
  have HO := Lib.hid h
  clear h
  generalize hL : xs.length = L at *
  have HL := Lib.hid hL
  clear hL
  go_enter Try.func41, Try.ntmps41
  go_wp2
  go_loopw [1, 5] (fun q i wr => ∃ k : Nat, k ≤ L ∧ i = .int .i64 k ∧ q = .int .i64 (m + k) ∧ wr.ownsRow base 3 1 (.slice a L cap) L ((markTo xs m k).map (Value.int .i64)) ∧ w.grownBy wr (Value.slice a L cap).ownBlock) (fun _ i _ => L - (intOf i).toNat)
  case atStart => exact ⟨0, Nat.zero_le _, rfl, by go_num, by rw [markTo_zero]; exact HO.out, grown_refl _ _⟩
  case round =>
    obtain ⟨k, hk, rfl, rfl, hown, hgr⟩ := hrel
    have HG := Lib.hid hgr
    clear hgr
    by_cases hlt : k < L
    · obtain ⟨g, rfl⟩ : ∃ g, a = some ⟨g, 0, none⟩ := by
        rcases hown.2 with ⟨h, _⟩ | ⟨g, cap', cur, h, _⟩
        · cases h; omega
        · cases h; exact ⟨g, rfl⟩
      have hcap : L ≤ cap := by
        rcases hown.2 with ⟨h, _⟩ | ⟨g', cap', cur, h, _, _, h4, _⟩
        · cases h
        · cases h; exact h4
      have hml : (markTo xs m k).length = L := by rw [markTo_length xs m k (by rw [HL.out]; exact hk), HL.out]
      have hcl := hown.cellAt k (by omega)
      obtain ⟨c, hcell⟩ : ∃ c, wr.cell? ⟨g, k, none⟩ = some (.int .i64 c) := ⟨(markTo xs m k)[k]'(by omega), by rw [hcl]; simp [hml, hlt]⟩
      have hfr := hown.frozenAt k
      have hst := hown.stored k (.int .i64 (m + k))
      rw [← List.map_set, markTo_step xs m k (by rw [HL.out]; exact hlt)] at hst
      have HST := Lib.hid hst
      clear hst hcl hml hown
      go_wp2
      go_roundw
      case rel => exact ⟨k + 1, by omega, by go_num, by go_num, HST.out.1, grown_trans HG.out HST.out.2⟩
      case measure => simp [intOf]; omega
    · obtain rfl : k = L := by omega
      have HM := Lib.hid (markTo_all xs m)
      go_wp2
      go_ret
      refine ⟨rfl, ?_, HG.out⟩
      rw [← HL.out, ← HM.out, HL.out]
      exact hown

theorem heldIntS_any (v : Value) (m : Int) (L : Nat) (w : World) (h : IsInts w v (seqL m L)) (hx : L ≤ 1100000) (hm0 : 0 ≤ m) (hm : m ≤ 1000000000) :
    Calls Try.prog 42 #[v, .int .i64 m] w fun e w' => e = .returned (.int .i64 (m + L)) ∧ w = w' := by
  obtain ⟨a, cap, rfl, ha1, ha2, ha⟩ := h
  unfold maxLen at ha2
  rw [seqL_length] at ha1 ⊢
  have HA := Lib.hid ha
  clear ha
  go_enter Try.func42, Try.ntmps42
  go_wp2
  go_loop [1, 5] (fun q i => ∃ k : Nat, k ≤ L ∧ i = .int .i64 k ∧ q = .int .i64 (m + k)) (fun _ i => L - (intOf i).toNat)
  case atStart => exact ⟨0, Nat.zero_le _, rfl, by go_num⟩
  case round =>
    obtain ⟨k, hk, rfl, rfl⟩ := hrel
    by_cases hlt : k < L
    · obtain ⟨g, off, rfl, hg, hc⟩ := HA.out.resolve_left (fun h => by have := seqL_length m L; rw [h] at this; simp at this; omega)
      have hcell := hc k (by rw [seqL_length]; exact hlt)
      rw [seqL_get] at hcell
      clear hc
      have hne : (m + (k : Int) != m + (k : Int)) = false := by simp
      go_wp2
      go_round
      case rel => exact ⟨k + 1, by omega, by go_num, by go_num⟩
      case measure => simp [intOf]; omega
    · obtain rfl : k = L := by omega
      go_wp2
      go_ret
      exact ⟨rfl, rfl⟩
end Go.Proofs.Ytggohgkjdnnndaa
