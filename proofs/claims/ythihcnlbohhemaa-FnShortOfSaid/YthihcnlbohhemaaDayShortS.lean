/- spec.ShortOf: what it returns, for every day. No condition. -/
import Derived.Test.YthihcnlbohhemaaDayShort
import Derived.Deep.RegionWith
namespace Go.Proofs.Ythihcnlbohhemaa
open Go.RowKit

set_option maxHeartbeats 1600000 in
theorem specShortOf_any (ppl : Int) (xs : List Int) (cv : Value) (w : World) (h1 : IsInts w cv xs) :
    Calls Try.prog 46 #[.agg #[.int .i64 ppl, cv]] w (ShortPost ⟨ppl, xs⟩ w) := by
  have hB0 : Below w.heap.size w (w.alloc (.cells #[.int .i64 ppl, cv] 44)) := (Below.refl _ _).alloc (Nat.le_refl _) _
  have X0 := Lib.hid (DayBox.new (ppl := ppl) 44 h1)
  have C0 := Lib.hid (specDayOk_any ppl xs cv _ X0.out.ints)
  have Q0 := Lib.hid hB0
  clear hB0
  obtain ⟨a, n0, c0, rfl⟩ := h1.slice
  clear h1
  rcases D.two ppl xs with hok | ⟨hok, n, cs, rfl, rfl, G, hdn, hdc⟩
  · go_enter Try.func46, Try.ntmps46
    go_wp2_with fail
    refine C0.out.mono ?_
    rintro e w1 ⟨rfl, hb1⟩
    have Q1 := Lib.hid (Q0.out.trans (hb1.mono Q0.out.size))
    clear hb1
    go_wp2_with fail
    refine bodyPost_ret (res3 rfl _ _ _) rfl ?_
    exact short_no hok _ _ Q1.out
  · have HK := Lib.hid hok
    have HN := Lib.hid hdn
    have HD := Lib.hid hdc
    have HG := Lib.hid G
    have hl5 := G.l5
    obtain ⟨P, hP, hP2, hP3, hP4⟩ := pow_len cs.length hl5
    have HP := Lib.hid hP2
    clear hdn hdc G hP2
    have hl64 : cs.length < 64 := by omega
    go_enter Try.func46, Try.ntmps46
    go_wp2_with fail
    refine C0.out.mono ?_
    rintro e w1 ⟨rfl, hb1⟩
    have X1 := Lib.hid (X0.out.below hb1)
    have Q1 := Lib.hid (Q0.out.trans (hb1.mono Q0.out.size))
    clear hb1
    have x0 := X1.out.c0
    have x1 := X1.out.c1
    obtain ⟨aa, cap, hsl, hcap1, hcap2, _⟩ := X1.out.ints.nats
    simp only [Value.slice.injEq] at hsl
    obtain ⟨rfl, rfl, rfl⟩ := hsl
    unfold maxLen at hcap2
    go_wp2_with fail
    clear x0 x1
    go_loopw [5, 6, 7] (fun b t i wr => ∃ k : Nat, k ≤ P ∧ b = .int .i64 (bestTo cs k).1 ∧ t = .int .i64 ((bestTo cs k).2 : Int) ∧ i = .int .i64 k ∧ DayBox w.heap.size n (.slice a cs.length c0) (cs.map Int.ofNat) wr ∧ Below w.heap.size w wr) (fun _ _ i _ => P - (intOf i).toNat)
    case atStart => exact ⟨0, Nat.zero_le _, rfl, rfl, rfl, X1.out, Q1.out⟩
    case round =>
      obtain ⟨k, hk, rfl, rfl, rfl, hX, hQ⟩ := hrel
      have X2 := Lib.hid hX
      have Q2 := Lib.hid hQ
      have x0 := hX.c0
      have x1 := hX.c1
      clear hX hQ
      by_cases hlt : k < P
      · have hlt' : (k : Int) < (P : Int) := by omega
        have hk64 : k < 64 := by omega
        have h64 := whoTo_64 HG.out k cs.length
        have hp1 := pc_le k
        have hp2 := pc_le (whoTo cs k cs.length)
        have hq : IntKind.i64.wrap (sh cs k) = sh cs k := IntWalk.i64_in _ (by have := sh_bd cs k; omega)
        have hsh : (pc k : Int) - pc (whoTo cs k cs.length) = sh cs k := rfl
        have XN := Lib.hid (X2.out.below (Below.refl _ wr).drew).ints.nats
        go_wp2_with fail
        go_region_with (first | (go_at_call 104; refine (l8Who_any HG.out _ wr.drew XN.out k).mono ?_; rintro e w3 ⟨rfl, hb3⟩) | (go_at_call 103; with_reducible refine (l8Bits_any k _ hk64).mono ?_; rintro e wa ⟨rfl, rfl⟩) | (go_at_call 103; with_reducible refine (l8Bits_any (whoTo cs k cs.length) _ h64).mono ?_; rintro e wb ⟨rfl, rfl⟩))
        all_goals
          have X3 := Lib.hid ((X2.out.below (Below.refl _ wr).drew).below hb3)
          have Q3 := Lib.hid ((Q2.out.drew).trans (hb3.mono Q2.out.size))
          clear hb3 x0 x1
          clear hsh hp1 hp2
          have hlv : ¬ (bestTo cs k).1 < sh cs k ∨ (bestTo cs k).1 < sh cs k := by omega
          rcases hlv with hgt | hgt
          · have HT := Lib.hid (best_no hgt)
            generalize sh cs k = q at *
            generalize hb1 : (bestTo cs k).1 = b1 at *
            generalize hb2 : (bestTo cs k).2 = b2 at *
            have HB1 := Lib.hid hb1
            have HB2 := Lib.hid hb2
            clear hb1 hb2
            go_wp2_with fail
            go_roundw
            case rel => exact ⟨k + 1, by omega, by rw [HT.out.1], by rw [HT.out.2], by go_num, X3.out, Q3.out⟩
            case measure => simp [intOf]; omega
          · have HT := Lib.hid (best_yes hgt)
            generalize hq : sh cs k = q at *
            generalize hb1 : (bestTo cs k).1 = b1 at *
            generalize hb2 : (bestTo cs k).2 = b2 at *
            clear hb1 hb2 hq
            go_wp2_with fail
            go_roundw
            case rel => exact ⟨k + 1, by omega, by rw [HT.out.1], by rw [HT.out.2], by go_num, X3.out, Q3.out⟩
            case measure => simp [intOf]; omega
      · obtain rfl : k = P := by omega
        obtain ⟨e1, e2⟩ := short_is2 HK.out HD.out HP.out
        have E1 := Lib.hid e1
        have E2 := Lib.hid e2
        clear e1 e2
        generalize (bestTo cs k).1 = b1 at *
        generalize (bestTo cs k).2 = b2 at *
        go_wp2_with fail
        refine bodyPost_ret (res3 rfl _ _ _) rfl ?_
        refine ⟨?_, Q2.out⟩
        simp [← E1.out, ← E2.out, HK.out]
end Go.Proofs.Ythihcnlbohhemaa
