/- spec.l7Times: the product of two tables. No condition. -/
import Derived.Test.YtpcependeealfaaWalkSpec
namespace Go.Proofs.Ytpcependeealfaa
open Go.RowKit

set_option maxHeartbeats 4000000 in
theorem specTimes_any (A B : Nat → Nat → Int) (n : Nat) (va vb : Value) (w : World) (ha : IsMat w va n A) (hb : IsMat w vb n B) (hn1 : 1 ≤ n) (hn48 : n ≤ 48) (hm : Mul A B) :
    Calls Try.prog 99 #[va, vb] w fun e w' => ∃ v, e = .returned v ∧ IsMat w' v n (prodM A B n) ∧ Below w.heap.size w w' := by
  obtain ⟨i0, hi, hz0, hz1, hz2⟩ := info_parts infoIntM
  obtain ⟨s0, hs, hy0, hy1, hy2⟩ := info_parts infoSlM
  have HI := Lib.hid (And.intro hi (And.intro hz0 (And.intro hz1 hz2)))
  have HS := Lib.hid (And.intro hs (And.intro hy0 (And.intro hy1 hy2)))
  clear hi hz0 hz1 hz2 hs hy0 hy1 hy2
  have HA := Lib.hid ha
  have HB := Lib.hid hb
  have HM := Lib.hid hm
  obtain ⟨ga, ca, rfl, -, -⟩ := ha
  obtain ⟨gb, cb, rfl, -, -⟩ := hb
  clear hm
  have B0 : Hid (Bk w (.slice (some ⟨w.heap.size, 0, none⟩) 0 0) [] [] (w.alloc (.cells #[] 23))) := Lib.hid ⟨(Below.refl _ _).alloc (Nat.le_refl _) _, by
    refine ⟨fun t ht => ?_, by simp⟩
    simp only [List.map_nil, List.length_nil, List.append_nil, List.mem_singleton] at ht
    subst ht
    exact ⟨World.ownsRow_lit (base := 0) w #[] 0 (Nat.zero_le _) (Nat.zero_le _) rfl, fun k e => by cases e; simp⟩⟩
  go_enter Try.func99, Try.ntmps99
  go_wp2_with fail
  go_loopw [5, 6, 7, 8, 9, 10] (fun ov iv _ _ _ _ wr => ∃ (i : Nat) (ii : Int) (ps : List (Value × List Int)), ii = (i : Int) ∧ i ≤ n ∧ iv = .int .i64 ii ∧ ps.length = i ∧ (∀ j (hj : j < ps.length), ps[j].2 = rowF (prodM A B n j) n) ∧ Bk w ov ps [] wr) (fun _ iv _ _ _ _ _ => n - (intOf iv).toNat)
  case atStart => exact ⟨0, 0, [], rfl, Nat.zero_le _, rfl, rfl, fun j hj => absurd hj (Nat.not_lt_zero j), B0.out⟩
  case round =>
    obtain ⟨i, ii, ps, hii, hin, rfl, hpl, hrows, hB⟩ := hrel
    have B1 := Lib.hid hB
    have HPL := Lib.hid hpl
    have HRW := Lib.hid hrows
    have HII := Lib.hid hii
    have hq : IntKind.i64.wrap (ii + 1) = ii + 1 := IntWalk.i64_in _ (by omega)
    obtain ⟨oa, oc, rfl⟩ := ownsRow_slice hB.row
    clear hB hrows hpl
    by_cases hlt : i < n
    · have hltI : ii < (n : Int) := by omega
      have hi0 : 0 ≤ ii := by omega
      have hit : ii.toNat = i := by omega
      clear hii
      have B2 : Hid (Bk w (.slice oa ps.length oc) ps (inn (.slice (some ⟨wr.heap.size, 0, none⟩) 0 0, rowF (prodM A B n i) 0) :: []) (wr.alloc (.cells #[] 3))) := Lib.hid (B1.out.made (World.grownBy_alloc wr _ none) (World.ownsRow_lit (base := wr.heap.size) wr #[] 0 (Nat.le_refl _) (Nat.zero_le _) rfl) (fun j e => by cases e; exact Nat.le_refl _))
      go_wp2_with fail
      go_loopw [7, 8, 9, 10] (fun rv jv _ _ wr2 => ∃ (j : Nat) (ji : Int), ji = (j : Int) ∧ j ≤ n ∧ jv = .int .i64 ji ∧ Bk w (.slice oa ps.length oc) ps (inn (rv, rowF (prodM A B n i) j) :: []) wr2) (fun _ jv _ _ _ => n - (intOf jv).toNat)
      case atStart => exact ⟨0, 0, rfl, Nat.zero_le _, rfl, B2.out⟩
      case round =>
        obtain ⟨j, ji, hji, hjn, rfl, hB⟩ := hrel
        have B3 := Lib.hid hB
        have HJI := Lib.hid hji
        have hqj : IntKind.i64.wrap (ji + 1) = ji + 1 := IntWalk.i64_in _ (by omega)
        have hrow := (hB.also 0 (by simp)).1
        obtain ⟨ra, rc, he⟩ := ownsRow_slice (show wr.ownsRow 0 3 1 _ (rowF (prodM A B n i) j).length ((rowF (prodM A B n i) j).map (Value.int .i64)) from hrow)
        rw [rowF_length] at he
        subst he
        clear hB hrow B2
        by_cases hjlt : j < n
        · have hjltI : ji < (n : Int) := by omega
          have hj0 : 0 ≤ ji := by omega
          have hjt : ji.toNat = j := by omega
          clear hji
          go_wp2_with fail
          go_loopw [9, 10] (fun sv kv wr3 => ∃ (k : Nat) (ki : Int), ki = (k : Int) ∧ k ≤ n ∧ kv = .int .i64 ki ∧ sv = .int .i64 (sumN (fun b => A i b * B b j) k) ∧ Bk w (.slice oa ps.length oc) ps (inn (.slice ra j rc, rowF (prodM A B n i) j) :: []) wr3) (fun _ kv _ => n - (intOf kv).toNat)
          case atStart => exact ⟨0, 0, rfl, Nat.zero_le _, rfl, rfl, B3.out⟩
          case round =>
            obtain ⟨k, ki, hki, hkn, rfl, rfl, hB⟩ := hrel
            have B4 := Lib.hid hB
            have HKI := Lib.hid hki
            have hqk : IntKind.i64.wrap (ki + 1) = ki + 1 := IntWalk.i64_in _ (by omega)
            clear hB B3
            by_cases hklt : k < n
            · have hkltI : ki < (n : Int) := by omega
              have hk0 : 0 ≤ ki := by omega
              have hkt : ki.toNat = k := by omega
              clear hki
              obtain ⟨ga', ca', e1, -, hra⟩ := HA.out.below B4.out.keep
              obtain ⟨gb', cb', e2, -, hrb⟩ := HB.out.below B4.out.keep
              simp only [Value.slice.injEq, Option.some.injEq, Addr.mk.injEq, and_true, true_and] at e1 e2
              obtain ⟨rfl, rfl⟩ := e1
              obtain ⟨rfl, rfl⟩ := e2
              obtain ⟨gi, ci, c1, -, hc1⟩ := hra i hlt
              obtain ⟨gk, ck, c2, -, hc2⟩ := hrb k hklt
              have c3 := hc1 k hklt
              have c4 := hc2 j hjlt
              have hp := HM.out.ok i k j
              have hsb := HM.out.sum i j k (by omega)
              have HSU : Hid (sumN (fun b => A i b * B b j) (k + 1) = sumN (fun b => A i b * B b j) k + A i k * B k j) := Lib.hid rfl
              have hw1 : IntKind.i64.wrap (A i k * B k j) = A i k * B k j := IntWalk.i64_in _ (by omega)
              have hw2 : IntKind.i64.wrap (sumN (fun b => A i b * B b j) k + A i k * B k j) = sumN (fun b => A i b * B b j) k + A i k * B k j := IntWalk.i64_in _ (by omega)
              clear hra hrb hc1 hc2 hp hsb
              generalize A i k = x at *
              generalize B k j = y at *
              generalize sumN (fun b => A i b * B b j) k = z at *
              go_wp2_with fail
              go_quiet (fail)
              go_wp2_with fail
              go_roundw
              case rel => exact ⟨k + 1, ki + 1, by have := HKI.out; omega, by omega, by first | rfl | rw [hqk], by rw [HSU.out], B4.out.same (grown_drewN _ _ _)⟩
              case measure => simp [intOf]; have := HKI.out; omega
            · have hkn2 : k = n := by omega
              have hknl : ¬ ki < (n : Int) := by omega
              subst hkn2
              have HMR := Lib.hid (rowF_more (prodM A B k i) j)
              have HPE : Hid (sumN (fun b => A i b * B b j) k = prodM A B k i j) := Lib.hid rfl
              have hrow := (B4.out.also 0 (by simp)).1
              have hrow2 : wr.ownsRow 0 3 1 (.slice ra j rc) j ((rowF (prodM A B k i) j).map (Value.int .i64)) := by
                have h : wr.ownsRow 0 3 1 (.slice ra j rc) (rowF (prodM A B k i) j).length ((rowF (prodM A B k i) j).map (Value.int .i64)) := hrow
                rwa [rowF_length] at h
              have HRW2 := Lib.hid hrow2
              clear hki hrow hrow2
              rw [HPE.out]
              generalize prodM A B k i j = z at *
              go_wp2_with (at_builtin; refine wpList_append_lies _ rfl _ _ 23 rfl 0 3 i0 (.int .i64 0) 1 8 Try.underlying23 HI.out.1 HI.out.2.1 HI.out.2.2.1 HI.out.2.2.2 rfl (by decide) (.slice ra j rc) j ((rowF (prodM A B k i) j).map (Value.int .i64)) rfl (HRW2.out.alloc _) ⟨wr.heap.size, 0, none⟩ 1 1 [.int .i64 z] rfl rfl (cellM _ _ _) (by simp [Value.oneCell']) (by omega) (by unfold maxLen; omega) (by omega) (Nat.zero_le _) _ rfl ?_; intro g9 cp w6 hown hgrow hat hlt3; have B5 := Lib.hid (B4.out.pushPre hgrow (by rw [rowF_length]; exact hown) hat); clear hown hgrow hat hlt3)
              go_roundw
              case rel => exact ⟨j + 1, ji + 1, by have := HJI.out; omega, by omega, by first | rfl | rw [hqj], by rw [HMR.out]; have := B5.out; rwa [rowF_length] at this⟩
              case measure => simp [intOf]; have := HJI.out; omega
        · have hjn2 : j = n := by omega
          have hjnl : ¬ ji < (n : Int) := by omega
          subst hjn2
          have hps48 : ps.length ≤ 48 := by have := HPL.out; omega
          clear hji
          go_wp2_with (at_builtin; refine wpList_append_lies _ rfl _ _ 99 rfl 0 23 s0 (.slice none 0 0) 1 24 Try.underlying99 HS.out.1 HS.out.2.1 HS.out.2.2.1 HS.out.2.2.2 rfl (by decide) (.slice oa ps.length oc) ps.length (ps.map Prod.fst) rfl (B3.out.row.alloc _) ⟨wr.heap.size, 0, none⟩ 1 1 [.slice ra j rc] rfl rfl (cellM _ _ _) (by simp [Value.oneCell']) (by omega) (by unfold maxLen; omega) (by omega) (Nat.zero_le _) _ rfl ?_; intro g9 cp w6 hown hgrow hat hlt3; have B5 := Lib.hid (B3.out.more hgrow hown hat); clear hown hgrow hat hlt3)
          go_roundw
          case rel => exact ⟨i + 1, ii + 1, _, by have := HII.out; omega, by omega, by first | rfl | rw [hq], by rw [List.length_append, HPL.out]; rfl, fun q hj => by
            rw [List.length_append, List.length_singleton] at hj
            by_cases e : q < ps.length
            · rw [List.getElem_append_left e]; exact HRW.out q e
            · have e2 : q = ps.length := by omega
              subst e2
              rw [List.getElem_append_right (Nat.le_refl _)]
              simp [HPL.out], B5.out⟩
          case measure => simp [intOf]; have := HII.out; omega
    · have hnlt : ¬ ii < (n : Int) := by omega
      have hkn2 : i = n := by omega
      clear hii
      go_wp2_with fail
      go_ret
      exact ⟨_, rfl, B1.out.mat (by rw [HPL.out, hkn2]) hn1 HRW.out, B1.out.keep⟩
end Go.Proofs.Ytpcependeealfaa
