/- The walk of FnGivingOk: true at every code. No condition. -/
import Derived.Test.YthihcnlbohhemaaDrawGiv
import Derived.Test.YthihcnlbohhemaaLawDayOk
import Derived.Test.YthihcnlbohhemaaLawDayFirst
import Derived.Test.YthihcnlbohhemaaLawDayMost
import Derived.Test.YthihcnlbohhemaaDayGivS
namespace Go.Proofs.Ythihcnlbohhemaa
open Go.RowKit

def usedTo (u : Nat) : List Int → Nat → Nat
  | _, 0 => u
  | [], _ + 1 => u
  | x :: xs, k + 1 => usedTo (u ||| 2 ^ x.toNat) xs k
theorem gok_at {n : Nat} : ∀ {cs : List Nat} {u : Nat} {ws : List Int}, gok n cs u ws = true → u < 2 ^ n → ∀ k (h : k < ws.length) (h2 : k < cs.length), ∃ p : Nat, ws[k] = (p : Int) ∧ p < n ∧ cs[k].testBit p = true ∧ (usedTo u ws k).testBit p = false ∧ usedTo u ws (k + 1) = usedTo u ws k ||| 2 ^ p ∧ usedTo u ws k < 2 ^ n := by
  intro cs
  induction cs with
  | nil => intro u ws _ _ k _ h2; exact absurd h2 (Nat.not_lt_zero _)
  | cons c cs ih =>
    intro u ws hg hu k h h2
    cases ws with
    | nil => exact absurd h (Nat.not_lt_zero _)
    | cons x xs =>
      simp only [gok, Bool.and_eq_true, decide_eq_true_eq, Bool.not_eq_true'] at hg
      obtain ⟨⟨⟨hx0, hxn⟩, hc, hb⟩, hr⟩ := hg
      cases k with
      | zero => exact ⟨x.toNat, by simp; omega, by omega, hc, hb, by cases xs <;> rfl, hu⟩
      | succ k =>
        have hp : 2 ^ x.toNat < 2 ^ n := Nat.pow_lt_pow_right (by omega) (by omega)
        exact ih hr (Nat.or_lt_two_pow hu hp) k (by simpa using h) (by simpa using h2)
theorem gok_take {n : Nat} : ∀ {cs : List Nat} {u : Nat} {ws : List Int} (m : Nat), gok n cs u ws = true → gok n (cs.take m) u (ws.take m) = true := by
  intro cs
  induction cs with
  | nil => intro u ws m hg; cases ws with
    | nil => simp [gok]
    | cons x xs => simp [gok] at hg
  | cons c cs ih =>
    intro u ws m hg
    cases ws with
    | nil => simp [gok] at hg
    | cons x xs =>
      cases m with
      | zero => simp [gok]
      | succ m =>
        simp only [gok, Bool.and_eq_true] at hg
        simp only [List.take_succ_cons, gok, Bool.and_eq_true]
        exact ⟨hg.1, ih m hg.2⟩
theorem giving_less {n : Nat} {cs : List Nat} {ws : List Int} (G : Good n cs) (h : gok n cs 0 ws = true) (m : Nat) : D.giving ⟨n, (cs.map Int.ofNat).take m⟩ (ws.take m) = true := by
  have h1 := ok_less G m
  have h2 := gok_take m h
  have hn : D.n ⟨n, (cs.map Int.ofNat).take m⟩ = n := by simp [D.n]
  have hc : D.cs ⟨n, (cs.map Int.ofNat).take m⟩ = cs.take m := by
    simp only [D.cs, ← List.map_take, List.map_map]
    exact (List.map_congr_left (fun c _ => by simp)).trans (List.map_id _)
  rw [D.giving, h1, hn, hc, h2]; rfl

set_option maxRecDepth 100000 in
set_option maxHeartbeats 6400000 in
theorem lawGivingOk_walk {w : World} (a : Option Addr) (len cap : Nat) (zs : List Int) (h : IsRow .u8 w a len cap zs) :
    Calls Try.prog 9 #[.slice a len cap] w fun e w' => e = .returned (.bool true) ∧ Below w.heap.size w w' := by
  have HD := Lib.hid (drawGivingOk_any a len cap zs w h)
  have hl := rowD_len h
  clear h
  by_cases hbig : 1048576 < len
  · go_enter Try.func9, Try.ntmps9
    go_wp2_with fail
    go_ret
    exact ⟨rfl, Below.refl _ _⟩
  go_enter Try.func9, Try.ntmps9
  go_wp2_with fail
  refine HD.out.mono ?_
  clear HD
  rintro e w1 ⟨ppl, xs, cv, ws, wv, rfl, hxl, hI, hJ, hb⟩
  obtain ⟨va, vn, vc, rfl⟩ := hI.slice
  obtain ⟨ua, un, uc, rfl⟩ := hJ.slice
  have hal : Below w1.heap.size w1 (w1.alloc (.cells #[.int .i64 ppl, .slice va vn vc] 44)) := (Below.refl _ _).alloc (Nat.le_refl _) _
  have X1 := Lib.hid (DayBox.new (ppl := ppl) 44 hI)
  have J1 := Lib.hid (hJ.below hal)
  have Q1 := Lib.hid (hb.trans (hal.mono hb.size))
  clear hI hb hal hJ
  go_wp2_with fail
  generalize w1.heap.size = b3 at *
  refine (implGivingOk_any ppl xs _ ws _ _ X1.out.ints J1.out).mono ?_
  rintro e w2 ⟨rfl, hb2⟩
  have X2 := Lib.hid (X1.out.below hb2)
  have J2 := Lib.hid (J1.out.below hb2)
  have Q2 := Lib.hid (Q1.out.trans (hb2.mono Q1.out.size))
  have x0 := X2.out.c0
  have x1 := X2.out.c1
  clear hb2 X1 Q1 J1
  go_wp2_with fail
  clear x0 x1
  refine (specGivingOk_any ppl xs _ ws _ _ X2.out.ints J2.out).mono ?_
  rintro e w3 ⟨rfl, hb3⟩
  have X3 := Lib.hid (X2.out.below hb3)
  have J3 := Lib.hid (J2.out.below hb3)
  have Q3 := Lib.hid (Q2.out.trans (hb3.mono Q2.out.size))
  have hgg : (D.giving ⟨ppl, xs⟩ ws != D.giving ⟨ppl, xs⟩ ws) = false := by simp
  clear hb3 X2 Q2 J2
  cases hg : D.giving ⟨ppl, xs⟩ ws with
  | false =>
    rw [hg] at hgg
    clear hg
    go_wp2_with (go_at_call 23; refine (aliveD_any _).mono ?_; rintro e w' ⟨rfl, rfl⟩)
    go_ret
    exact ⟨rfl, Q3.out⟩
  | true =>
    rcases D.two ppl xs with hok | ⟨hok, n, cs, rfl, rfl, G, hdn, hdc⟩
    · exact absurd hg (by rw [D.giving, hok]; simp)
    rw [hg] at hgg
    rw [D.giving, hok, hdn, hdc, Bool.true_and] at hg
    have hwl := gok_len hg
    have hl5 := G.l5
    have hn6 := G.n6
    have HAT := Lib.hid (gok_at hg (Nat.two_pow_pos n))
    have HLS := Lib.hid (giving_less G hg)
    have HMS : Hid (D.most ⟨n, cs.map Int.ofNat⟩ = (cs.length : Int)) := Lib.hid (by have : D.most ⟨n, cs.map Int.ofNat⟩ = (cs.length : Int) := by { have h2 := giving_iff.1 ⟨ws, hg⟩; simp only [D.most, hok, if_true, hdn, hdc, h2] }; exact this)
    have hvn : vn = cs.length := by
      obtain ⟨_, _, hs, _⟩ := X3.out.ints
      simp only [Value.slice.injEq, List.length_map] at hs
      exact hs.2.1
    have hun : un = cs.length := by
      obtain ⟨_, _, hs, _⟩ := J3.out
      simp only [Value.slice.injEq] at hs
      rw [← hwl]; exact hs.2.1
    subst hvn hun
    have HWL := Lib.hid hwl
    clear hxl hg hdn hdc hok hwl
    go_wp2_with fail
    go_loopw [6, 7] (fun v i wr => ∃ k : Nat, k ≤ cs.length ∧ v = .int .i64 (usedTo 0 ws k : Int) ∧ i = .int .i64 k ∧ Below w3.heap.size w3 wr) (fun _ i _ => cs.length - (intOf i).toNat)
    case atStart => exact ⟨0, Nat.zero_le _, by cases ws <;> rfl, rfl, Below.refl _ _⟩
    case round =>
      obtain ⟨k, hk, rfl, rfl, hbr⟩ := hrel
      obtain ⟨w7, rfl⟩ : ∃ wo, wo = wr := ⟨_, rfl⟩
      have HB := Lib.hid hbr
      have X7 := Lib.hid (X3.out.below hbr)
      have Q7 := Lib.hid (Q3.out.trans (hbr.mono Q3.out.size))
      have J7 := Lib.hid (J3.out.below hbr)
      have x0 := X7.out.c0
      have x1 := X7.out.c1
      clear hbr
      by_cases hlt : k < cs.length
      · have hky : k < ws.length := by have := HWL.out; omega
        obtain ⟨p, hp1, hp2, hp3, hp4, hp5, hp6⟩ := HAT.out k hky hlt
        obtain ⟨aY, cY, hsY, _, _, hY⟩ := J7.out
        simp only [Value.slice.injEq] at hsY
        obtain ⟨rfl, hlY, rfl⟩ := hsY
        obtain ⟨gY, oY, rfl, hgY, hcY⟩ := hY.resolve_left (fun h => by rw [h] at hky; exact absurd hky (Nat.not_lt_zero _))
        have hc1 := hcY k hky
        obtain ⟨aX, cX, hsX, _, _, hA⟩ := X7.out.ints.nats
        simp only [Value.slice.injEq, true_and] at hsX
        obtain ⟨rfl, rfl⟩ := hsX
        obtain ⟨g2, off2, rfl, hg2, hcX⟩ := hA.resolve_left (fun h => by rw [h] at hlt; exact absurd hlt (Nat.not_lt_zero _))
        have hc2 := hcX k hlt
        rw [hp1] at hc1
        have hp64 : p < 64 := by omega
        have hN64 : 2 ^ n ≤ 64 := Nat.pow_le_pow_right (n := 2) (by omega) hn6
        have hs1 := shr_bit (usedTo 0 ws k) p
        rw [if_neg (by rw [hp4]; simp)] at hs1
        have hs2 := shr_bit cs[k] p
        rw [if_pos hp3] at hs2
        have hor := or_pow6 (usedTo 0 ws k) p (by omega) (by omega)
        obtain ⟨Q, hQ, hQ2, hQ3, hQ4⟩ := pow_small p (by omega)
        have hQw : IntKind.i64.wrap (Q : Int) = Q := IntWalk.i64_in _ (by omega)
        rw [hQ2] at hor hp5
        rw [hQ] at hs1 hs2
        have HP5 := Lib.hid hp5
        clear hp3 hp4 hp5 hp6 hcX hcY hA hY hlY hky hp1 hN64 hQ2
        generalize hug : usedTo 0 ws k ||| Q = ug at *
        generalize usedTo 0 ws k = us at *
        generalize cs[k] = c9 at *
        go_wp2_with fail
        go_quiet (fail)
        go_wp2_with fail
        go_roundw
        case rel => exact ⟨k + 1, by omega, by rw [HP5.out], by go_num, HB.out.trans ((below_drewNF _).mono HB.out.size)⟩
        case measure => simp [intOf]; omega
      · obtain rfl : k = cs.length := by omega
        generalize usedTo 0 ws cs.length = us at *
        have HBW : Hid (Below w7.heap.size w7 w7.drew) := Lib.hid (Below.refl _ _).drew
        by_cases h0 : cs.length = 0
        · have hlw : IntKind.i64.wrap ((cs.length : Int) - 1) = -1 := by rw [h0]; decide
          clear h0
          go_wp2_with fail
          refine wp_region_any (by kernel_rfl) ?_
          change wpAny _ _ _ _ _ _ _ (World.drew _)
          refine wpAny_take (i := 0) (oi := ⟨some 66, _, _, _, _, _⟩) (v := .int .i64 (-1)) rfl (by kernel_rfl) (by kernel_rfl) (by kernel_rfl) (fun _ _ _ h => h) (Or.inl ⟨by rfl, by intro w; go_simp⟩) ?_; simp only [Act.put, List.setIfInBounds_toArray, List.set_cons_zero, List.set_cons_succ]
          refine wpAny_take (i := 1) (oi := ⟨some 67, _, _, _, _, _⟩) (v := .bool true) rfl (by kernel_rfl) (by kernel_rfl) (by kernel_rfl) (fun _ _ _ h => h) (Or.inl ⟨by rfl, by intro w; go_simp⟩) ?_; simp only [Act.put, List.setIfInBounds_toArray, List.set_cons_zero, List.set_cons_succ]
          refine wpAny_take (i := 2) (oi := ⟨some 68, _, _, _, _, _⟩) (v := .bool true) rfl (by kernel_rfl) (by kernel_rfl) (by kernel_rfl) (fun _ _ _ h => h) (Or.inl ⟨by rfl, by intro w; go_simp⟩) ?_; simp only [Act.put, List.setIfInBounds_toArray, List.set_cons_zero, List.set_cons_succ]
          refine wpAny_take (i := 3) (oi := ⟨some 69, _, _, _, _, _⟩) (v := undef) rfl (by kernel_rfl) (by kernel_rfl) (by kernel_rfl) (fun _ _ _ h => h) (Or.inr ⟨by rfl, rfl⟩) ?_; simp only [Act.put, List.setIfInBounds_toArray, List.set_cons_zero, List.set_cons_succ]
          refine wpAny_take (i := 4) (oi := ⟨some 70, _, _, _, _, _⟩) (v := undef) rfl (by kernel_rfl) (by kernel_rfl) (by kernel_rfl) (fun _ _ _ h => h) (Or.inr ⟨by rfl, rfl⟩) ?_; simp only [Act.put, List.setIfInBounds_toArray, List.set_cons_zero, List.set_cons_succ]
          refine wpAny_take (i := 5) (oi := ⟨some 71, _, _, _, _, _⟩) (v := undef) rfl (by kernel_rfl) (by kernel_rfl) (by kernel_rfl) (fun _ _ _ h => h) (Or.inr ⟨by rfl, rfl⟩) ?_; simp only [Act.put, List.setIfInBounds_toArray, List.set_cons_zero, List.set_cons_succ]
          refine wpAny_take (i := 6) (oi := ⟨some 72, _, _, _, _, _⟩) (v := undef) rfl (by kernel_rfl) (by kernel_rfl) (by kernel_rfl) (fun _ _ _ h => h) (Or.inr ⟨by rfl, rfl⟩) ?_; simp only [Act.put, List.setIfInBounds_toArray, List.set_cons_zero, List.set_cons_succ]
          refine wpAny_take (i := 7) (oi := ⟨some 73, _, _, _, _, _⟩) (v := undef) rfl (by kernel_rfl) (by kernel_rfl) (by kernel_rfl) (fun _ _ _ h => h) (Or.inr ⟨by rfl, rfl⟩) ?_; simp only [Act.put, List.setIfInBounds_toArray, List.set_cons_zero, List.set_cons_succ]
          refine wpAny_take (i := 8) (oi := ⟨some 74, _, _, _, _, _⟩) (v := undef) rfl (by kernel_rfl) (by kernel_rfl) (by kernel_rfl) (fun _ _ _ h => h) (Or.inr ⟨by rfl, rfl⟩) ?_; simp only [Act.put, List.setIfInBounds_toArray, List.set_cons_zero, List.set_cons_succ]
          refine wpAny_take (i := 9) (oi := ⟨some 75, _, _, _, _, _⟩) (v := undef) rfl (by kernel_rfl) (by kernel_rfl) (by kernel_rfl) (fun _ _ _ h => h) (Or.inr ⟨by rfl, rfl⟩) ?_; simp only [Act.put, List.setIfInBounds_toArray, List.set_cons_zero, List.set_cons_succ]
          refine wpAny_take (i := 10) (oi := ⟨some 76, _, _, _, _, _⟩) (v := undef) rfl (by kernel_rfl) (by kernel_rfl) (by kernel_rfl) (fun _ _ _ h => h) (Or.inr ⟨by rfl, rfl⟩) ?_; simp only [Act.put, List.setIfInBounds_toArray, List.set_cons_zero, List.set_cons_succ]
          refine wpAny_take (i := 11) (oi := ⟨some 77, _, _, _, _, _⟩) (v := undef) rfl (by kernel_rfl) (by kernel_rfl) (by kernel_rfl) (fun _ _ _ h => h) (Or.inr ⟨by rfl, rfl⟩) ?_; simp only [Act.put, List.setIfInBounds_toArray, List.set_cons_zero, List.set_cons_succ]
          refine wpAny_take (i := 12) (oi := ⟨some 78, _, _, _, _, _⟩) (v := undef) rfl (by kernel_rfl) (by kernel_rfl) (by kernel_rfl) (fun _ _ _ h => h) (Or.inr ⟨by rfl, rfl⟩) ?_; simp only [Act.put, List.setIfInBounds_toArray, List.set_cons_zero, List.set_cons_succ]
          refine wpAny_take (i := 13) (oi := ⟨some 79, _, _, _, _, _⟩) (v := undef) rfl (by kernel_rfl) (by kernel_rfl) (by kernel_rfl) (fun _ _ _ h => h) (Or.inr ⟨by rfl, rfl⟩) ?_; simp only [Act.put, List.setIfInBounds_toArray, List.set_cons_zero, List.set_cons_succ]
          refine wpAny_take (i := 14) (oi := ⟨some 80, _, _, _, _, _⟩) (v := .bool true) rfl (by kernel_rfl) (by kernel_rfl) (by kernel_rfl) (fun _ _ _ h => h) (Or.inl ⟨by rfl, by intro w; go_simp⟩) ?_; simp only [Act.put, List.setIfInBounds_toArray, List.set_cons_zero, List.set_cons_succ]
          refine wpAny_take (i := 15) (oi := ⟨some 81, _, _, _, _, _⟩) (v := .bool true) rfl (by kernel_rfl) (by kernel_rfl) (by kernel_rfl) (fun _ _ _ h => h) (Or.inl ⟨by rfl, by intro w; go_simp⟩) ?_; simp only [Act.put, List.setIfInBounds_toArray, List.set_cons_zero, List.set_cons_succ]
          refine wpAny_take (i := 18) (oi := ⟨some 84, _, _, _, _, _⟩) (v := .pointer (some ⟨b3, 1, none⟩)) rfl (by kernel_rfl) (by kernel_rfl) (by kernel_rfl) (fun _ _ _ h => h) (Or.inl ⟨by rfl, by intro w; go_simp⟩) ?_; simp only [Act.put, List.setIfInBounds_toArray, List.set_cons_zero, List.set_cons_succ]
          refine wpAny_ready (rs := [16, 19]) (by kernel_rfl) (by simp) ?_
          refine AllReady.cons rfl (fun K hK => ?_) (AllReady.cons rfl (fun K hK => ?_) AllReady.nil)
          · go_simp
            refine hK _ _ ?_
            clear hK K
            refine wpAny_ready (rs := [17, 19]) (by kernel_rfl) (by simp) ?_
            refine AllReady.cons rfl (fun K hK => ?_) (AllReady.cons rfl (fun K hK => ?_) AllReady.nil)
            · go_simp
              go_wp2_with (go_at_call 42; refine (implMostDone_any _ _ _ _ (X7.out.below (HBW.out)).ints).mono ?_; rintro e w9 ⟨rfl, hb9⟩; rw [HMS.out]; have X9 := Lib.hid ((X7.out.below (HBW.out)).below hb9); have Q9 := Lib.hid ((Q7.out.trans (Below.mono HBW.out Q7.out.size)).trans (hb9.mono (Q7.out.trans (Below.mono HBW.out Q7.out.size)).size)); have t0 := X9.out.c0; have t1 := X9.out.c1; clear hb9)
              refine wpAny_ready (rs := [19]) (by kernel_rfl) (by simp) ?_
              refine AllReady.cons rfl (fun K hK => ?_) AllReady.nil
              go_simp
              refine hK _ _ ?_
              clear hK K
              refine wpAny_take (i := 20) (oi := ⟨some 86, _, _, _, _, _⟩) (v := .int .i64 cs.length) rfl (by kernel_rfl) (by kernel_rfl) (by kernel_rfl) (fun _ _ _ h => h) (Or.inl ⟨by rfl, by intro w; go_simp⟩) ?_; simp only [Act.put, List.setIfInBounds_toArray, List.set_cons_zero, List.set_cons_succ]
              refine wpAny_take (i := 21) (oi := ⟨some 87, _, _, _, _, _⟩) (v := .bool true) rfl (by kernel_rfl) (by kernel_rfl) (by kernel_rfl) (fun _ _ _ h => h) (Or.inl ⟨by rfl, by intro w; go_simp⟩) ?_; simp only [Act.put, List.setIfInBounds_toArray, List.set_cons_zero, List.set_cons_succ]
              refine wpAny_take (i := 22) (oi := ⟨some 88, _, _, _, _, _⟩) (v := .bool true) rfl (by kernel_rfl) (by kernel_rfl) (by kernel_rfl) (fun _ _ _ h => h) (Or.inl ⟨by rfl, by intro w; go_simp⟩) ?_; simp only [Act.put, List.setIfInBounds_toArray, List.set_cons_zero, List.set_cons_succ]
              refine wpAny_take (i := 23) (oi := ⟨some 2, _, _, _, _, _⟩) (v := .bool true) rfl (by kernel_rfl) (by kernel_rfl) (by kernel_rfl) (fun _ _ _ h => h) (Or.inl ⟨by rfl, by intro w; go_simp⟩) ?_; simp only [Act.put, List.setIfInBounds_toArray, List.set_cons_zero, List.set_cons_succ]
              refine wpAny_done (by kernel_rfl) ?_ _
              go_simp
              go_wp2_with fail
              go_ret
              exact ⟨rfl, Q9.out⟩
            · go_simp
              refine hK _ _ ?_
              clear hK K
              refine wpAny_take (i := 20) (oi := ⟨some 86, _, _, _, _, _⟩) (v := .int .i64 cs.length) rfl (by kernel_rfl) (by kernel_rfl) (by kernel_rfl) (fun _ _ _ h => h) (Or.inl ⟨by rfl, by intro w; go_simp⟩) ?_; simp only [Act.put, List.setIfInBounds_toArray, List.set_cons_zero, List.set_cons_succ]
              refine wpAny_ready (rs := [17]) (by kernel_rfl) (by simp) ?_
              refine AllReady.cons rfl (fun K hK => ?_) AllReady.nil
              go_simp
              go_wp2_with (go_at_call 42; refine (implMostDone_any _ _ _ _ (X7.out.below (HBW.out)).ints).mono ?_; rintro e w9 ⟨rfl, hb9⟩; rw [HMS.out]; have X9 := Lib.hid ((X7.out.below (HBW.out)).below hb9); have Q9 := Lib.hid ((Q7.out.trans (Below.mono HBW.out Q7.out.size)).trans (hb9.mono (Q7.out.trans (Below.mono HBW.out Q7.out.size)).size)); have t0 := X9.out.c0; have t1 := X9.out.c1; clear hb9)
              refine wpAny_take (i := 21) (oi := ⟨some 87, _, _, _, _, _⟩) (v := .bool true) rfl (by kernel_rfl) (by kernel_rfl) (by kernel_rfl) (fun _ _ _ h => h) (Or.inl ⟨by rfl, by intro w; go_simp⟩) ?_; simp only [Act.put, List.setIfInBounds_toArray, List.set_cons_zero, List.set_cons_succ]
              refine wpAny_take (i := 22) (oi := ⟨some 88, _, _, _, _, _⟩) (v := .bool true) rfl (by kernel_rfl) (by kernel_rfl) (by kernel_rfl) (fun _ _ _ h => h) (Or.inl ⟨by rfl, by intro w; go_simp⟩) ?_; simp only [Act.put, List.setIfInBounds_toArray, List.set_cons_zero, List.set_cons_succ]
              refine wpAny_take (i := 23) (oi := ⟨some 2, _, _, _, _, _⟩) (v := .bool true) rfl (by kernel_rfl) (by kernel_rfl) (by kernel_rfl) (fun _ _ _ h => h) (Or.inl ⟨by rfl, by intro w; go_simp⟩) ?_; simp only [Act.put, List.setIfInBounds_toArray, List.set_cons_zero, List.set_cons_succ]
              refine wpAny_done (by kernel_rfl) ?_ _
              go_simp
              go_wp2_with fail
              go_ret
              exact ⟨rfl, Q9.out⟩
          · go_simp
            refine hK _ _ ?_
            clear hK K
            refine wpAny_take (i := 20) (oi := ⟨some 86, _, _, _, _, _⟩) (v := .int .i64 cs.length) rfl (by kernel_rfl) (by kernel_rfl) (by kernel_rfl) (fun _ _ _ h => h) (Or.inl ⟨by rfl, by intro w; go_simp⟩) ?_; simp only [Act.put, List.setIfInBounds_toArray, List.set_cons_zero, List.set_cons_succ]
            refine wpAny_ready (rs := [16]) (by kernel_rfl) (by simp) ?_
            refine AllReady.cons rfl (fun K hK => ?_) AllReady.nil
            go_simp
            refine hK _ _ ?_
            clear hK K
            refine wpAny_ready (rs := [17]) (by kernel_rfl) (by simp) ?_
            refine AllReady.cons rfl (fun K hK => ?_) AllReady.nil
            go_simp
            go_wp2_with (go_at_call 42; refine (implMostDone_any _ _ _ _ (X7.out.below (HBW.out)).ints).mono ?_; rintro e w9 ⟨rfl, hb9⟩; rw [HMS.out]; have X9 := Lib.hid ((X7.out.below (HBW.out)).below hb9); have Q9 := Lib.hid ((Q7.out.trans (Below.mono HBW.out Q7.out.size)).trans (hb9.mono (Q7.out.trans (Below.mono HBW.out Q7.out.size)).size)); have t0 := X9.out.c0; have t1 := X9.out.c1; clear hb9)
            refine wpAny_take (i := 21) (oi := ⟨some 87, _, _, _, _, _⟩) (v := .bool true) rfl (by kernel_rfl) (by kernel_rfl) (by kernel_rfl) (fun _ _ _ h => h) (Or.inl ⟨by rfl, by intro w; go_simp⟩) ?_; simp only [Act.put, List.setIfInBounds_toArray, List.set_cons_zero, List.set_cons_succ]
            refine wpAny_take (i := 22) (oi := ⟨some 88, _, _, _, _, _⟩) (v := .bool true) rfl (by kernel_rfl) (by kernel_rfl) (by kernel_rfl) (fun _ _ _ h => h) (Or.inl ⟨by rfl, by intro w; go_simp⟩) ?_; simp only [Act.put, List.setIfInBounds_toArray, List.set_cons_zero, List.set_cons_succ]
            refine wpAny_take (i := 23) (oi := ⟨some 2, _, _, _, _, _⟩) (v := .bool true) rfl (by kernel_rfl) (by kernel_rfl) (by kernel_rfl) (fun _ _ _ h => h) (Or.inl ⟨by rfl, by intro w; go_simp⟩) ?_; simp only [Act.put, List.setIfInBounds_toArray, List.set_cons_zero, List.set_cons_succ]
            refine wpAny_done (by kernel_rfl) ?_ _
            go_simp
            go_wp2_with fail
            go_ret
            exact ⟨rfl, Q9.out⟩
        · obtain ⟨m, hm⟩ : ∃ m, cs.length = m + 1 := ⟨cs.length - 1, by omega⟩
          have hlw : IntKind.i64.wrap ((cs.length : Int) - 1) = (m : Int) := by rw [IntWalk.i64_in _ (by omega)]; omega
          have hcX : cs.length ≤ vc ∧ vc ≤ 2 ^ 63 - 1 := by
            obtain ⟨_, _, hs, h1, h2, _⟩ := X7.out.ints
            simp only [Value.slice.injEq, List.length_map] at hs h1
            obtain ⟨_, _, rfl⟩ := hs
            exact ⟨h1, h2⟩
          have hcU : cs.length ≤ uc ∧ uc ≤ 2 ^ 63 - 1 := by
            obtain ⟨_, _, hs, h1, h2, _⟩ := J7.out
            simp only [Value.slice.injEq] at hs
            obtain ⟨_, _, rfl⟩ := hs
            exact ⟨by have := HWL.out; omega, h2⟩
          obtain ⟨hcX1, hcX2⟩ := hcX
          obtain ⟨hcU1, hcU2⟩ := hcU
          have hm1 : m ≤ cs.length := by omega
          have hm2 : m ≤ ws.length := by have := HWL.out; omega
          have hm0 : decide ((m : Int) < 0) = false := by simp
          have HT1 := Lib.hid ((X7.out.below HBW.out).ints.take (m := m) (by simpa using hm1))
          have HT2 := Lib.hid ((J7.out.below HBW.out).take hm2)
          have HLM := Lib.hid (HLS.out m)
          have HMM := Lib.hid hm
          have hz1 : (0 : Int) ≤ (m : Int) := by omega
          have hz2 : (m : Int) ≤ (vc : Int) := by omega
          have hz3 : (m : Int) ≤ (uc : Int) := by omega
          clear hm2 hm h0
          go_wp2_with fail
          go_region_held3 (fun w' => w'.cell? ⟨b3, 0, none⟩ = some (.int .i64 n) ∧ w'.cell? ⟨b3, 1, none⟩ = some (.slice va cs.length vc))
            (first | (with_reducible exact ⟨(X7.out.below HBW.out).c0, (X7.out.below HBW.out).c1⟩) | (with_reducible exact ⟨X8.out.c0, X8.out.c1⟩) | (with_reducible exact ⟨X9.out.c0, X9.out.c1⟩))
            (first | (go_at_call 49; with_reducible refine (implGivingOk_any _ _ _ _ _ _ HT1.out HT2.out).mono ?_; rintro e w8 ⟨rfl, hb8⟩; rw [HLM.out]; have X8 := Lib.hid ((X7.out.below HBW.out).below hb8); have Q8 := Lib.hid ((Q7.out.trans (HBW.out.mono Q7.out.size)).trans (hb8.mono (Q7.out.trans (HBW.out.mono Q7.out.size)).size)); clear hb8) | (go_at_call 42; with_reducible refine (implMostDone_any _ _ _ _ X8.out.ints).mono ?_; rintro e w9 ⟨rfl, hb9⟩; rw [HMS.out]; have X9 := Lib.hid (X8.out.below hb9); have Q9 := Lib.hid (Q8.out.trans (hb9.mono Q8.out.size)); clear hb9))
          all_goals
            go_wp2_with fail
            go_ret
            exact ⟨rfl, Q9.out⟩
end Go.Proofs.Ythihcnlbohhemaa
