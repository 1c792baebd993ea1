/- laws.sameInts: whether two lists of numbers are the same. No condition. laws.sameMachine: a machine is the same as itself, wherever its lists lie. No condition. Trimmed again a machine stays. No program, no condition. -/
import Derived.Test.YthknpbefdejbkaaInts
import Derived.Test.YthknpbefdejbkaaWords
import Derived.Deep.QuietTactic
import Derived.BigQuiet
import Derived.WalkSmall
import Derived.Test.YthknpbefdejbkaaMach
import Derived.Deep.RegionWith
import Derived.Test.YthknpbefdejbkaaLeastAll

namespace Go.Proofs.Ythknpbefdejbkaa
open Go.RowKit

set_option maxHeartbeats 800000 in
theorem sameInts_any (u v : Value) (xs ys : List Int) (w : World) (hu : IsInts w u xs) (hv : IsInts w v ys) :
    Calls Try.prog 66 #[u, v] w fun e w' => e = .returned (.bool (xs == ys)) ∧ ∃ n, w' = w.drewN n := by
  obtain ⟨a, cap, rfl, ha1, ha2, ha⟩ := hu
  obtain ⟨b, cbp, rfl, hb1, hb2, hb⟩ := hv
  unfold maxLen at ha2 hb2
  by_cases hlen : xs.length = ys.length
  · have hl' : ((xs.length : Int) != (ys.length : Int)) = false := by simp [hlen]
    have HA := Lib.hid ha
    have HB := Lib.hid hb
    clear ha hb
    have hle : xs.length ≤ ys.length := by omega
    have HLN := Lib.hid hlen
    clear hlen
    go_enter Try.func66, Try.ntmps66
    go_wp2
    go_loopw [5] (fun i wr => ∃ k : Nat, k ≤ xs.length ∧ i = .int .i64 k ∧ (∀ j, j < k → xs.getD j 0 = ys.getD j 0) ∧ ∃ n, wr = w.drewN n) (fun i _ => xs.length - (intOf i).toNat)
    case atStart => exact ⟨0, Nat.zero_le _, rfl, (fun j h => absurd h (Nat.not_lt_zero j)), 0, rfl⟩
    case round =>
      obtain ⟨k, hk, rfl, heq, n, rfl⟩ := hrel
      have HE := Lib.hid heq
      clear heq
      by_cases hlt : k < xs.length
      · obtain ⟨g, off, rfl, hg, hc⟩ := HA.out.resolve_left (fun h => by rw [h] at hlt; exact absurd hlt (Nat.not_lt_zero k))
        obtain ⟨g2, off2, rfl, hg2, hc2⟩ := HB.out.resolve_left (fun h => by rw [h] at hle; have : xs.length ≤ 0 := hle; omega)
        have hlt2 : k < ys.length := by omega
        have hc1 := hc k hlt
        have hd1 := hc2 k hlt2
        clear hc hc2
        have e1 : xs.getD k 0 = xs[k] := by simp [List.getD, hlt]
        have e2 : ys.getD k 0 = ys[k] := by simp [List.getD, hlt2]
        by_cases hb : xs[k] = ys[k]
        · have hb' : (xs[k] != ys[k]) = false := by simp [hb]
          have HN : Hid (∀ j, j < k + 1 → xs.getD j 0 = ys.getD j 0) := by
            have : ∀ j, j < k + 1 → xs.getD j 0 = ys.getD j 0 := fun j hj => by
              by_cases hjk : j = k
              · subst hjk; rw [e1, e2, hb]
              · exact HE.out j (by omega)
            exact Lib.hid this
          clear hb e1 e2
          generalize hW : w.drewN n = W at *
          have HW := Lib.hid hW
          have hc1' : W.cell? ⟨g, off + k, none⟩ = some (.int .i64 xs[k]) := by rw [← hW]; exact hc1
          have hd1' : W.cell? ⟨g2, off2 + k, none⟩ = some (.int .i64 ys[k]) := by rw [← hW]; exact hd1
          clear hW hc1 hd1
          go_wp2
          go_quiet (fail)
          go_wp2
          go_roundw
          case rel => exact ⟨k + 1, by omega, by go_num, HN.out, _, by rw [← HW.out, World.drewN_drewN]⟩
          case measure => simp [intOf]; omega
        · have hb' : (xs[k] != ys[k]) = true := by simp [hb]
          have HN : Hid ((xs == ys) = false) := by
            have : (xs == ys) = false := by
              rw [beq_eq_false_iff_ne]
              intro h
              exact hb (by simp only [h])
            exact Lib.hid this
          clear hb e1 e2
          generalize hW : w.drewN n = W at *
          have HW := Lib.hid hW
          have hc1' : W.cell? ⟨g, off + k, none⟩ = some (.int .i64 xs[k]) := by rw [← hW]; exact hc1
          have hd1' : W.cell? ⟨g2, off2 + k, none⟩ = some (.int .i64 ys[k]) := by rw [← hW]; exact hd1
          clear hW hc1 hd1
          go_wp2
          go_quiet (fail)
          go_wp2
          go_ret
          exact ⟨ret_bool HN.out.symm, _, by rw [← HW.out, World.drewN_drewN]⟩
      · obtain rfl : k = xs.length := by omega
        have HN : Hid ((xs == ys) = true) := by
          have : (xs == ys) = true := by
            rw [beq_iff_eq]
            refine List.ext_getElem HLN.out fun i h1 h2 => ?_
            have := HE.out i h1
            simpa [List.getD, h1, h2] using this
          exact Lib.hid this
        go_wp2
        go_ret
        exact ⟨ret_bool HN.out.symm, _, rfl⟩
  · have hl' : ((xs.length : Int) != (ys.length : Int)) = true := by simp; omega
    have HN : Hid ((xs == ys) = false) := by
      have : (xs == ys) = false := by
        rw [beq_eq_false_iff_ne]
        intro h
        exact hlen (by rw [h])
      exact Lib.hid this
    clear hlen ha hb
    go_enter Try.func66, Try.ntmps66
    go_wp2
    go_ret
    exact ⟨ret_bool HN.out.symm, 0, rfl⟩

end Go.Proofs.Ythknpbefdejbkaa

namespace Go.Proofs.Ythknpbefdejbkaa
open Go.RowKit

set_option maxHeartbeats 1600000 in
set_option maxRecDepth 100000 in
theorem sameMachine_same (m : M) (nv ev nv' ev' : Value) (w : World) (h1 : IsInts w nv m.next) (h2 : IsBools w ev m.ends) (h3 : IsInts w nv' m.next) (h4 : IsBools w ev' m.ends) :
    Calls Try.prog 24 #[.agg #[.int .i64 m.st, nv, ev], .agg #[.int .i64 m.st, nv', ev']] w fun e w' => e = .returned (.bool true) ∧ Below w.heap.size w w' := by
  obtain ⟨st, xs, bs⟩ := m
  simp only at h1 h2 h3 h4 ⊢
  have hM1 := MachBox.new (st := st) 27 h1 h2
  have hal : Below (w.alloc (.cells #[.int .i64 st, nv, ev] 27)).heap.size (w.alloc (.cells #[.int .i64 st, nv, ev] 27)) ((w.alloc (.cells #[.int .i64 st, nv, ev] 27)).alloc (.cells #[.int .i64 st, nv', ev'] 27)) := (Below.refl _ _).alloc (Nat.le_refl _) _
  have hal0 : Below w.heap.size w (w.alloc (.cells #[.int .i64 st, nv, ev] 27)) := (Below.refl _ _).alloc (Nat.le_refl _) _
  have hM2 := MachBox.new (st := st) 27 (h3.below hal0) (h4.below hal0)
  have M1 := Lib.hid (hM1.below hal)
  rw [World.size_alloc] at hM2
  have M2 := Lib.hid hM2
  have Q2 := Lib.hid (hal0.trans (hal.mono (by simp)))
  have hS2 : ((w.alloc (.cells #[.int .i64 st, nv, ev] 27)).alloc (.cells #[.int .i64 st, nv', ev'] 27)).heap.size = w.heap.size + 1 + 1 := by simp
  have HS2 := Lib.hid hS2
  have hcall : ∀ W, IsInts W nv xs → IsInts W nv' xs → Calls Try.prog 66 #[nv, nv'] W fun e w' => e = .returned (.bool true) ∧ Below W.heap.size W w' := fun W a1 a2 => by
    refine (sameInts_any nv nv' xs xs W a1 a2).mono ?_
    rintro e w1 ⟨rfl, n, rfl⟩
    exact ⟨by simp, below_drewN (Below.refl _ _) n⟩
  have HCALL := Lib.hid hcall
  obtain ⟨a2, n2, c2, rfl⟩ := h2.slice
  obtain ⟨a4, n4, c4, rfl⟩ := h4.slice
  obtain ⟨b2, d2, e2, f2, f2', f2''⟩ := h2
  obtain ⟨b4, d4, e4, f4, f4', f4''⟩ := h4
  simp only [Value.slice.injEq] at e2 e4
  obtain ⟨rfl, rfl, rfl⟩ := e2
  obtain ⟨rfl, rfl, rfl⟩ := e4
  unfold maxLen at f2' f4'
  clear h1 h3 hM1 hM2 hal hal0 hS2 hcall f2'' f4''
  have hne : (st != st) = false := by simp
  have hne2 : ((bs.length : Int) != (bs.length : Int)) = false := by simp
  have m0 := M1.out.c0
  have m1 := M1.out.c1
  have m2 := M1.out.c2
  have k0 := M2.out.c0
  have k1 := M2.out.c1
  have k2 := M2.out.c2
  go_enter Try.func24, Try.ntmps24
  go_wp2_with fail
  refine (HCALL.out _ M1.out.ints M2.out.ints).mono ?_
  rintro e w3 ⟨rfl, hb3⟩
  have N1 := Lib.hid (M1.out.below hb3)
  have N2 := Lib.hid (M2.out.below hb3)
  have Q3 := Lib.hid (Q2.out.trans (hb3.mono Q2.out.size))
  clear hb3 m0 m1 m2 k0 k1 k2
  have m2 := N1.out.c2
  have k2 := N2.out.c2
  go_wp2_with fail
  clear m2 k2
  go_loopw [5] (fun i wr => ∃ j : Int, 0 ≤ j ∧ j ≤ (bs.length : Int) ∧ i = .int .i64 j ∧ Below w3.heap.size w3 wr) (fun i _ => bs.length - (intOf i).toNat)
  case atStart => exact ⟨0, by omega, by omega, rfl, Below.refl _ _⟩
  case round =>
    obtain ⟨j, hj0, hj1, rfl, hb⟩ := hrel
    have P1 := Lib.hid (N1.out.below hb)
    have P2 := Lib.hid (N2.out.below hb)
    have QR := Lib.hid hb
    clear hb
    have m2 := P1.out.c2
    have k2 := P2.out.c2
    by_cases hlt : j < (bs.length : Int)
    · have hn : j.toNat < bs.length := by omega
      obtain ⟨a', c', he, -, -, hx⟩ := P1.out.bools
      obtain ⟨a'', c'', he', -, -, hx'⟩ := P2.out.bools
      simp only [Value.slice.injEq] at he he'
      obtain ⟨rfl, -, rfl⟩ := he
      obtain ⟨rfl, -, rfl⟩ := he'
      obtain ⟨g, off, rfl, hg, hc⟩ := hx.resolve_left (fun h => by rw [h] at hn; exact absurd hn (Nat.not_lt_zero _))
      obtain ⟨g', off', rfl, hg', hc'⟩ := hx'.resolve_left (fun h => by rw [h] at hn; exact absurd hn (Nat.not_lt_zero _))
      have c1 := hc j.toNat hn
      have d1 := hc' j.toNat hn
      clear hc hc' hx hx'
      generalize bs[j.toNat] = b at *
      have hbb : (b != b) = false := by simp
      have hbx : (b ^^ b) = false := by simp
      go_wp2_with fail
      go_quiet (fail)
      go_wp2_with fail
      go_roundw
      case rel => exact ⟨j + 1, by omega, by omega, by first | rfl | go_num, below_drewN QR.out _⟩
      case measure => simp [intOf]; omega
    · go_wp2_with fail
      go_ret
      exact ⟨rfl, Q3.out.trans (QR.out.mono Q3.out.size)⟩
end Go.Proofs.Ythknpbefdejbkaa

namespace Go.Proofs.Ythknpbefdejbkaa

theorem tm_tm {m : M} (hg : m.good) : tm (tm m) = tm m := by
  have hT := tm_good hg
  have htr := tm_trim hg
  have hlen := tm_len hg
  have hN := trimN_is hg (lrounds m m.ends.length)
  have hN' := trimN_is hT (lrounds (tm m) (tm m).ends.length)
  have hL := lrounds_live hT
  have hst := M.good_shape hT
  have hfat : ∀ i : Nat, i < trimN m (lrounds m m.ends.length) → (bfsTo (trimOn m (lrounds m m.ends.length)) 0 (trimN m (lrounds m m.ends.length))).1[i]? = some ((bfsTo (trimOn m (lrounds m m.ends.length)) 0 (trimN m (lrounds m m.ends.length))).1.getD i 0) := by
    intro i hi
    rw [List.getD_eq_getElem?_getD, List.getElem?_eq_getElem (by omega)]; rfl
  have hinM : ∀ x, inM (tm m) x → ∃ i : Nat, x = (i : Int) ∧ i < trimN m (lrounds m m.ends.length) := fun x hx => ⟨x.toNat, by have := hx.1; omega, by have := hx.1; have := hx.2; omega⟩
  have e := bfsTo_map (f := fun i => (bfsTo (trimOn m (lrounds m m.ends.length)) 0 (trimN m (lrounds m m.ends.length))).1.getD i.toNat 0) (P := inM (tm m)) (on := trimOn (tm m) (lrounds (tm m) (tm m).ends.length)) (on' := trimOn m (lrounds m m.ends.length)) (s0 := 0) (inM_zero hT)
    (fun x hx l b hl h => trimOn_in hT _ x hx l b hl h)
    (by
      intro a b ha hb hab
      obtain ⟨i, rfl, hi⟩ := hinM a ha
      obtain ⟨j, rfl, hj⟩ := hinM b hb
      simp only [Int.toNat_natCast] at hab
      have h1 := hfat i hi
      have h2 := hfat j hj
      rw [hab, ← h2] at h1
      obtain ⟨g1, g2⟩ := List.getElem?_eq_some_iff.1 h2
      have hi' : i < (bfsTo (trimOn m (lrounds m m.ends.length)) 0 (trimN m (lrounds m m.ends.length))).1.length := by omega
      rw [List.getElem?_eq_getElem hi', List.getElem?_eq_getElem g1] at h1
      have hnd := bfsTo_nodup (trimOn m (lrounds m m.ends.length)) 0 (trimN m (lrounds m m.ends.length))
      have := Option.some.inj h1
      rw [← idxOf_nodup hnd hi', ← idxOf_nodup hnd g1, this])
    (by
      intro x hx l hl
      obtain ⟨i, rfl, hi⟩ := hinM x hx
      simp only [Int.toNat_natCast]
      have hx2 := hfat i hi
      generalize (bfsTo (trimOn m (lrounds m m.ends.length)) 0 (trimN m (lrounds m m.ends.length))).1.getD i 0 = y at hx2 ⊢
      obtain ⟨n1, n2⟩ := bM_nx (ends := m.endAt) hN hi hl hx2
      have n1' : (tm m).nx (i : Int) (l : Int) = enc (bfsTo (trimOn m (lrounds m m.ends.length)) 0 (trimN m (lrounds m m.ends.length))).1 (trimOn m (lrounds m m.ends.length) y l) := n1
      cases hc : trimOn m (lrounds m m.ends.length) y l with
      | none =>
        rw [hc] at n1'
        have n1' : (tm m).nx (i : Int) (l : Int) = -1 := n1'
        rw [trimOn, n1', if_neg (by omega)]; rfl
      | some b =>
        rw [hc] at n1'
        have n1' : (tm m).nx (i : Int) (l : Int) = ((bfsTo (trimOn m (lrounds m m.ends.length)) 0 (trimN m (lrounds m m.ends.length))).1.idxOf b : Int) := n1'
        have hbm := n2 b hc
        have hlive := htr i l (by rw [hlen]; exact hi) hl (by rw [n1']; omega)
        have hbd := M.gnx_bd hT (i : Int) (l : Int) hx.2 (by omega) (by omega)
        rw [n1'] at hbd hlive
        have hk : (bfsTo (trimOn m (lrounds m m.ends.length)) 0 (trimN m (lrounds m m.ends.length))).1.idxOf b < (lrounds (tm m) (tm m).ends.length).length := by rw [hL.1]; omega
        have hX := (hL.2 _ hk).2 hlive
        rw [trimOn, n1', if_pos ⟨by omega, by rw [Int.toNat_natCast, List.getD_eq_getElem?_getD, List.getElem?_eq_getElem hk]; exact hX⟩]
        simp only [Option.map_some, Int.toNat_natCast, List.getD_eq_getElem?_getD, bM_idx hbm]
        rfl)
  have f0 : (bfsTo (trimOn m (lrounds m m.ends.length)) 0 (trimN m (lrounds m m.ends.length))).1.getD (0 : Int).toNat 0 = 0 := by
    rw [List.getD_eq_getElem?_getD, show (0 : Int).toNat = 0 from rfl, bM_first]; rfl
  simp only [f0] at e
  have hNN : trimN m (lrounds m m.ends.length) = trimN (tm m) (lrounds (tm m) (tm m).ends.length) := by
    refine bfsTo_one hN ?_
    rw [e]
    simp only [List.length_map]
    exact hN'
  have h1 : tm (tm m) = bM (trimOn (tm m) (lrounds (tm m) (tm m).ends.length)) 0 (trimN (tm m) (lrounds (tm m) (tm m).ends.length)) (tm m).endAt := rfl
  have h2 : tm m = bM (trimOn m (lrounds m m.ends.length)) 0 (trimN m (lrounds m m.ends.length)) m.endAt := rfl
  have e2 := e (trimN m (lrounds m m.ends.length))
  rw [h1, ← hNN]
  conv => rhs; rw [h2]
  unfold bM
  rw [e2]
  congr 1
  rw [List.map_map]
  refine List.map_congr_left fun x hx => ?_
  have hin := bfsTo_all (inM_zero hT) (fun x hx l b hl h => trimOn_in hT (lrounds (tm m) (tm m).ends.length) x hx l b hl h) _ x hx
  obtain ⟨i, rfl, hi⟩ := hinM x hin
  show (tm m).endAt (i : Int) = m.endAt _
  simp only [Int.toNat_natCast]
  exact bM_end (ends := m.endAt) (hfat i hi)
open Go.RowKit
theorem isInts_nil (w : World) : IsInts w (.slice none 0 0) [] := IsInts.of_owns (xs := []) (World.ownsRow_nil w 0 3 1)
theorem isBools_nil (w : World) : IsBools w (.slice none 0 0) [] := IsBools.of_owns (xs := []) (World.ownsRow_nil w 0 4 1)
end Go.Proofs.Ythknpbefdejbkaa
