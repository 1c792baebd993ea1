/- laws.sameInts: whether two lists of numbers are the same. No condition. -/
import Derived.Test.YtggohgkjdnnndaaInts
import Derived.Test.YtggohgkjdnnndaaWords
import Derived.Deep.QuietTactic
import Derived.BigQuiet
import Derived.WalkSmall
namespace Go.Proofs.Ytggohgkjdnnndaa
open Go.RowKit

set_option maxHeartbeats 800000 in
theorem sameInts_any (u v : Value) (xs ys : List Int) (w : World) (hu : IsInts w u xs) (hv : IsInts w v ys) :
    Calls Try.prog 29 #[u, v] w fun e w' => e = .returned (.bool (xs == ys)) ∧ ∃ n, w' = w.drewN n := by
  obtain ⟨a, cap, rfl, ha1, ha2, ha⟩ := hu
  obtain ⟨b, cbp, rfl, hb1, hb2, hb⟩ := hv
  unfold maxLen at ha2 hb2
  by_cases hlen : xs.length = ys.length
  · have hl' : ((xs.length : Int) != (ys.length : Int)) = false := by simp [hlen]
    have HA := Lib.hid ha
    have HB := Lib.hid hb
    clear ha hb
    have hle : xs.length ≤ ys.length := by omega
    have HLN := Lib.hid hlen
    clear hlen
    go_enter Try.func29, Try.ntmps29
    go_wp2
    go_loopw [5] (fun i wr => ∃ k : Nat, k ≤ xs.length ∧ i = .int .i64 k ∧ (∀ j, j < k → xs.getD j 0 = ys.getD j 0) ∧ ∃ n, wr = w.drewN n) (fun i _ => xs.length - (intOf i).toNat)
    case atStart => exact ⟨0, Nat.zero_le _, rfl, (fun j h => absurd h (Nat.not_lt_zero j)), 0, rfl⟩
    case round =>
      obtain ⟨k, hk, rfl, heq, n, rfl⟩ := hrel
      have HE := Lib.hid heq
      clear heq
      by_cases hlt : k < xs.length
      · obtain ⟨g, off, rfl, hg, hc⟩ := HA.out.resolve_left (fun h => by rw [h] at hlt; exact absurd hlt (Nat.not_lt_zero k))
        obtain ⟨g2, off2, rfl, hg2, hc2⟩ := HB.out.resolve_left (fun h => by rw [h] at hle; have : xs.length ≤ 0 := hle; omega)
        have hlt2 : k < ys.length := by omega
        have hc1 := hc k hlt
        have hd1 := hc2 k hlt2
        clear hc hc2
        have e1 : xs.getD k 0 = xs[k] := by simp [List.getD, hlt]
        have e2 : ys.getD k 0 = ys[k] := by simp [List.getD, hlt2]
        by_cases hb : xs[k] = ys[k]
        · have hb' : (xs[k] != ys[k]) = false := by simp [hb]
          have HN : Hid (∀ j, j < k + 1 → xs.getD j 0 = ys.getD j 0) := by
            have : ∀ j, j < k + 1 → xs.getD j 0 = ys.getD j 0 := fun j hj => by
              by_cases hjk : j = k
              · subst hjk; rw [e1, e2, hb]
              · exact HE.out j (by omega)
            exact Lib.hid this
          clear hb e1 e2
          generalize hW : w.drewN n = W at *
          have HW := Lib.hid hW
          have hc1' : W.cell? ⟨g, off + k, none⟩ = some (.int .i64 xs[k]) := by rw [← hW]; exact hc1
          have hd1' : W.cell? ⟨g2, off2 + k, none⟩ = some (.int .i64 ys[k]) := by rw [← hW]; exact hd1
          clear hW hc1 hd1
          go_wp2
          go_quiet (fail)
          go_wp2
          go_roundw
          case rel => exact ⟨k + 1, by omega, by go_num, HN.out, _, by rw [← HW.out, World.drewN_drewN]⟩
          case measure => simp [intOf]; omega
        · have hb' : (xs[k] != ys[k]) = true := by simp [hb]
          have HN : Hid ((xs == ys) = false) := by
            have : (xs == ys) = false := by
              rw [beq_eq_false_iff_ne]
              intro h
              exact hb (by simp only [h])
            exact Lib.hid this
          clear hb e1 e2
          generalize hW : w.drewN n = W at *
          have HW := Lib.hid hW
          have hc1' : W.cell? ⟨g, off + k, none⟩ = some (.int .i64 xs[k]) := by rw [← hW]; exact hc1
          have hd1' : W.cell? ⟨g2, off2 + k, none⟩ = some (.int .i64 ys[k]) := by rw [← hW]; exact hd1
          clear hW hc1 hd1
          go_wp2
          go_quiet (fail)
          go_wp2
          go_ret
          exact ⟨ret_bool HN.out.symm, _, by rw [← HW.out, World.drewN_drewN]⟩
      · obtain rfl : k = xs.length := by omega
        have HN : Hid ((xs == ys) = true) := by
          have : (xs == ys) = true := by
            rw [beq_iff_eq]
            refine List.ext_getElem HLN.out fun i h1 h2 => ?_
            have := HE.out i h1
            simpa [List.getD, h1, h2] using this
          exact Lib.hid this
        go_wp2
        go_ret
        exact ⟨ret_bool HN.out.symm, _, rfl⟩
  · have hl' : ((xs.length : Int) != (ys.length : Int)) = true := by simp; omega
    have HN : Hid ((xs == ys) = false) := by
      have : (xs == ys) = false := by
        rw [beq_eq_false_iff_ne]
        intro h
        exact hlen (by rw [h])
      exact Lib.hid this
    clear hlen ha hb
    go_enter Try.func29, Try.ntmps29
    go_wp2
    go_ret
    exact ⟨ret_bool HN.out.symm, 0, rfl⟩

end Go.Proofs.Ytggohgkjdnnndaa
