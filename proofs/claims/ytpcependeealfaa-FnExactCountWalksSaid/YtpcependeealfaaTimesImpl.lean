/- impl.multiplied: the product of two tables. No condition. -/
import Derived.Test.YtpcependeealfaaWalkImpl
namespace Go.Proofs.Ytpcependeealfaa
open Go.RowKit

/-- the sums of the first b products, and of one more in the first t places -/
def partF (A B : Nat → Nat → Int) (i b t j : Nat) : Int := sumN (fun c => A i c * B c j) (if j < t then b + 1 else b)
theorem partF_step (A B : Nat → Nat → Int) (n i b t : Nat) (ht : t < n) : (rowF (partF A B i b t) n).set t (sumN (fun c => A i c * B c t) b + A i b * B b t) = rowF (partF A B i b (t + 1)) n := by
  refine rowF_set ht ?_ ?_
  · rw [partF, if_pos (Nat.lt_succ_self t)]; rfl
  · intro k _ hk
    rw [partF, partF]
    by_cases h : k < t
    · rw [if_pos h, if_pos (by omega)]
    · rw [if_neg h, if_neg (by omega)]
theorem partF_at (A B : Nat → Nat → Int) (i b t : Nat) : partF A B i b t t = sumN (fun c => A i c * B c t) b := by rw [partF, if_neg (Nat.lt_irrefl t)]
theorem partF_end (A B : Nat → Nat → Int) (n i b : Nat) : rowF (partF A B i b n) n = rowF (partF A B i (b + 1) 0) n := rowF_congr fun j hj => by
  rw [partF, partF, if_pos hj, if_neg (Nat.not_lt_zero j)]
theorem partF_zero (A B : Nat → Nat → Int) (n i : Nat) : rowF (partF A B i 0 0) n = rowF (fun _ => 0) n := rowF_congr fun j _ => by
  rw [partF, if_neg (Nat.not_lt_zero j)]; rfl
theorem partF_all (A B : Nat → Nat → Int) (n i : Nat) : rowF (partF A B i n 0) n = rowF (prodM A B n i) n := rowF_congr fun j _ => by
  rw [partF, if_neg (Nat.not_lt_zero j)]; rfl

set_option maxHeartbeats 4000000 in
theorem implTimes_any (A B : Nat → Nat → Int) (n : Nat) (va vb : Value) (w : World) (ha : IsMat w va n A) (hb : IsMat w vb n B) (hn1 : 1 ≤ n) (hn48 : n ≤ 48) (hm : Mul A B) :
    Calls Try.prog 102 #[va, vb] w fun e w' => ∃ v, e = .returned v ∧ IsMat w' v n (prodM A B n) ∧ Below w.heap.size w w' := by
  obtain ⟨i0, hi, hz0, hz1, hz2⟩ := info_parts infoIntM
  obtain ⟨s0, hs, hy0, hy1, hy2⟩ := info_parts infoSlM
  have HI := Lib.hid (And.intro hi (And.intro hz0 (And.intro hz1 (show i0.bytes * n ≤ 281474976710656 by rw [hz2]; omega))))
  have HS := Lib.hid (And.intro hs (And.intro hy0 (And.intro hy1 (show s0.bytes * n ≤ 281474976710656 by rw [hy2]; omega))))
  clear hi hz0 hz1 hz2 hs hy0 hy1 hy2
  have HA := Lib.hid ha
  have HB := Lib.hid hb
  have HM := Lib.hid hm
  obtain ⟨ga, ca, rfl, -, -⟩ := ha
  obtain ⟨gb, cb, rfl, -, -⟩ := hb
  clear hm
  go_enter Try.func102, Try.ntmps102
  go_wp2_with (at_make; refine wpList_make_full _ rfl _ _ 99 rfl w.heap.size 23 s0 (.slice none 0 0) 1 Try.underlying99 HS.out.1 HS.out.2.1 HS.out.2.2.1 .i64 .i64 _ _ n rfl rfl rfl rfl HS.out.2.2.2 (by unfold maxLen; omega) (Nat.le_refl _) ?_; intro w1 hown1 hgrow1)
  rw [made_nils] at hown1
  have B0 := Lib.hid (bk_start w n hown1 hgrow1)
  clear hown1 hgrow1
  generalize hgo : w.heap.size = go at *
  have HGO := Lib.hid hgo
  clear hgo
  go_loopw [6, 7, 8, 14] (fun _ _ _ iv wr => ∃ (k : Nat) (ki : Int) (ps : List (Value × List Int)), ki = (k : Int) ∧ k ≤ n ∧ iv = .int .i64 ki ∧ ps.length = n ∧ DoneTo (prodM A B n) n k ps ∧ Bk w (.slice (some ⟨go, 0, none⟩) n n) ps [] wr) (fun _ _ _ iv _ => n - (intOf iv).toNat)
  case atStart => exact ⟨0, 0, _, rfl, Nat.zero_le _, rfl, List.length_replicate, fun j _ hj => absurd hj (Nat.not_lt_zero j), B0.out⟩
  case round =>
    obtain ⟨k, ki, ps, hki, hkn, rfl, hpl, hrows, hB⟩ := hrel
    have B1 := Lib.hid hB
    have HPL := Lib.hid hpl
    have HRW := Lib.hid hrows
    have HKI := Lib.hid hki
    have hq : IntKind.i64.wrap (ki + 1) = ki + 1 := IntWalk.i64_in _ (by omega)
    clear hB hrows hpl B0
    by_cases hlt : k < n
    · have hltI : ki < (n : Int) := by omega
      have hk0 : 0 ≤ ki := by omega
      have hkt : ki.toNat = k := by omega
      clear hki
      go_wp2_with (at_make; refine wpList_make_full _ rfl _ _ 23 rfl wr.heap.size 3 i0 (.int .i64 0) 1 Try.underlying23 HI.out.1 HI.out.2.1 HI.out.2.2.1 .i64 .i64 _ _ n rfl rfl rfl rfl HI.out.2.2.2 (by unfold maxLen; omega) (Nat.le_refl _) ?_; intro w1 hown1 hgrow1; have B2 := Lib.hid (B1.out.made (p := (.slice (some ⟨wr.heap.size, 0, none⟩) n n, rowF (partF A B k 0 0) n)) hgrow1 (made_part hown1 (partF_zero A B n k)) (fun j e => by cases e; exact Nat.le_refl _)); obtain ⟨⟨uO, cO⟩, fO⟩ := bk_cell B2.out (by rw [HPL.out]; exact hlt); clear hown1 hgrow1)
      have F0 := Lib.hid (Fill.start HPL.out HRW.out B2.out hlt)
      clear B2 cO fO
      generalize wr.heap.size = gr at *
      go_loopw [7, 8, 25] (fun _ _ bv wr2 => ∃ (b : Nat) (bi : Int), bi = (b : Int) ∧ b ≤ n ∧ bv = .int .i64 bi ∧ Fill w go n k (prodM A B n) gr (partF A B k b 0) wr2) (fun _ _ bv _ => n - (intOf bv).toNat)
      case atStart => exact ⟨0, 0, rfl, Nat.zero_le _, rfl, F0.out⟩
      case round =>
        obtain ⟨b, bi, hbi, hbn, rfl, hF⟩ := hrel
        have F1 := Lib.hid hF
        have HBI := Lib.hid hbi
        clear hF F0
        have hq2 : IntKind.i64.wrap (bi + 1) = bi + 1 := IntWalk.i64_in _ (by omega)
        by_cases hbl : b < n
        · have hblI : bi < (n : Int) := by omega
          have hb0 : 0 ≤ bi := by omega
          have hbt : bi.toNat = b := by omega
          obtain ⟨c1, -⟩ := F1.out.cells hlt
          clear hbi
          go_wp2_with fail
          clear c1
          go_loopw [8, 33] (fun _ tv wr3 => ∃ (t : Nat) (ti : Int), ti = (t : Int) ∧ t ≤ n ∧ tv = .int .i64 ti ∧ Fill w go n k (prodM A B n) gr (partF A B k b t) wr3) (fun _ tv _ => n - (intOf tv).toNat)
          case atStart => exact ⟨0, 0, rfl, Nat.zero_le _, rfl, F1.out⟩
          case round =>
            obtain ⟨t, ti, hti, htn, rfl, hF⟩ := hrel
            have F2 := Lib.hid hF
            have HTI := Lib.hid hti
            clear hF F1
            have hq3 : IntKind.i64.wrap (ti + 1) = ti + 1 := IntWalk.i64_in _ (by omega)
            by_cases htl : t < n
            · have htlI : ti < (n : Int) := by omega
              have ht0 : 0 ≤ ti := by omega
              have htt : ti.toNat = t := by omega
              obtain ⟨c1, c2⟩ := F2.out.cells hlt
              have c3 := (c2 t htl).1
              have c4 := (c2 t htl).2
              rw [partF_at] at c3
              obtain ⟨ga', ca', e1, -, hra⟩ := HA.out.below (by have := F2.out.keep; exact this)
              obtain ⟨gb', cb', e2, -, hrb⟩ := HB.out.below (by have := F2.out.keep; exact this)
              simp only [Value.slice.injEq, Option.some.injEq, Addr.mk.injEq, and_true, true_and] at e1 e2
              obtain ⟨rfl, rfl⟩ := e1
              obtain ⟨rfl, rfl⟩ := e2
              obtain ⟨gi, ci, d1, -, hc1⟩ := hra k hlt
              obtain ⟨gk, ck, d2, -, hc2⟩ := hrb b hbl
              have d3 := hc1 b hbl
              have d4 := hc2 t htl
              have hp := HM.out.ok k b t
              have hsb := HM.out.sum k t b (by omega)
              have HST := Lib.hid (partF_step A B n k b t htl)
              have hw1 : IntKind.i64.wrap (A k b * B b t) = A k b * B b t := IntWalk.i64_in _ (by omega)
              have hw2 : IntKind.i64.wrap (sumN (fun c => A k c * B c t) b + A k b * B b t) = sumN (fun c => A k c * B c t) b + A k b * B b t := IntWalk.i64_in _ (by omega)
              have HSS := Lib.hid (fun W (h : Fill w go n k (prodM A B n) gr (partF A B k b t) W) => h.store t (sumN (fun c => A k c * B c t) b + A k b * B b t) HST.out)
              have HFD := Lib.hid (HSS.out _ (F2.out.same (grown_drew wr none)))
              clear hra hrb hc1 hc2 hp hsb HSS HST c2 hti
              generalize A k b = x at *
              generalize B b t = y at *
              generalize sumN (fun c => A k c * B c t) b = z at *
              go_wp2_with fail
              go_region
              all_goals
                go_wp2_with fail
                go_roundw
                case rel => exact ⟨t + 1, ti + 1, by have := HTI.out; omega, by omega, by first | rfl | rw [hq3], HFD.out⟩
                case measure => simp [intOf]; have := HTI.out; omega
            · have htn2 : t = n := by omega
              have htnl : ¬ ti < (n : Int) := by omega
              have F3 : Hid (Fill w go n k (prodM A B n) gr (partF A B k (b + 1) 0) wr) := Lib.hid (by
                have := F2.out
                rw [htn2] at this
                exact this.congr (partF_end A B n k b))
              clear hti
              go_wp2_with fail
              go_roundw
              case rel => exact ⟨b + 1, bi + 1, by have := HBI.out; omega, by omega, by first | rfl | rw [hq2], F3.out⟩
              case measure => simp [intOf]; have := HBI.out; omega
        · have hbn2 : b = n := by omega
          have hbnl : ¬ bi < (n : Int) := by omega
          obtain ⟨ps2, d1, d2, d3⟩ := F1.out.done (by rw [hbn2]; exact partF_all A B n k)
          have D := Lib.hid (And.intro d1 (And.intro d2 d3))
          clear hbi d1 d2 d3
          go_wp2_with fail
          go_roundw
          case rel => exact ⟨k + 1, ki + 1, ps2, by have := HKI.out; omega, by omega, by first | rfl | rw [hq], D.out.1, D.out.2.1, D.out.2.2⟩
          case measure => simp [intOf]; have := HKI.out; omega
    · have hnlt : ¬ ki < (n : Int) := by omega
      have hkn2 : k = n := by omega
      clear hki
      go_wp2_with fail
      go_ret
      exact ⟨_, rfl, B1.out.mat HPL.out hn1 (fun j hj => HRW.out j hj (by rw [hkn2, ← HPL.out]; exact hj)), B1.out.keep⟩
end Go.Proofs.Ytpcependeealfaa
