/- The walks of FnRosterOk, FnNeedsOk, FnRowsExchanged: true at every code. No condition. -/
import Derived.Test.YtlbblfbiiceofaaRostDraw2
import Derived.Test.YtlbblfbiiceofaaRostCov
namespace Go.Proofs.Ytlbblfbiiceofaa
open Go.RowKit

theorem rowR_len {w : World} {a : Option Addr} {len cap : Nat} {zs : List Int} (h : IsRow .u8 w a len cap zs) : len ≤ 9223372036854775807 := by
  rcases h with ⟨_, rfl, _⟩ | ⟨x, _, h1, h2, _⟩
  · omega
  · unfold maxLen at h2; omega
theorem aliveR_any (w : World) : Calls Try.prog 20 #[] w fun e w' => e = .returned (.bool true) ∧ w = w' := by
  have h1 : wordOk ⟨#[114, 100, 110]⟩ = true := by decide +kernel
  have h2 : wordOk ⟨#[120]⟩ = false := by decide +kernel
  go_enter Try.func20, Try.ntmps20
  go_wp2_with (go_at_call 56; refine (implWordOk_any _ _ (by decide)).mono ?_; rintro e w' ⟨rfl, rfl⟩)
  go_ret
  exact ⟨rfl, rfl⟩
theorem owns_litS {w' : World} {base b : Nat} {xs : List ByteArray} (hb : w'.heap[b]? = some (.cells (xs.map Value.string).toArray 9 (0, 0))) (hbase : base ≤ b) (hl : xs.length ≤ 1000) : w'.ownsRow base 9 1 (.slice (some ⟨b, 0, none⟩) xs.length xs.length) xs.length (xs.map Value.string) :=
  ⟨by simp, .inr ⟨b, xs.length, _, rfl, hbase, hb, Nat.le_refl _, by unfold maxLen; omega, by simp, by rw [List.take_of_length_le (by simp)]⟩⟩
theorem strs_lit (W : World) (xs : List ByteArray) (n : Nat) (hn : xs.length = n) (hl : n ≤ 1000) (cs : Array Value) (hc : cs = (xs.map Value.string).toArray) : IsStrs (W.alloc (.cells cs 9)) (.slice (some ⟨W.heap.size, 0, none⟩) n n) xs := by
  subst hn hc
  exact IsStrs.of_owns (owns_litS (base := W.heap.size) (heap_alloc_new W _) (Nat.le_refl _) hl)

set_option maxHeartbeats 3200000 in
theorem lawRosterOk_walk {w : World} (a : Option Addr) (len cap : Nat) (zs : List Int) (h : IsRow .u8 w a len cap zs) :
    Calls Try.prog 3 #[.slice a len cap] w fun e w' => e = .returned (.bool true) ∧ Below w.heap.size w w' := by
  have HD := Lib.hid (drawRosterOk_any a len cap zs w h)
  have hl := rowR_len h
  clear h
  by_cases hbig : 1048576 < len
  · go_enter Try.func3, Try.ntmps3
    go_wp2_with fail
    go_ret
    exact ⟨rfl, Below.refl _ _⟩
  go_enter Try.func3, Try.ntmps3
  go_wp2_with fail
  refine HD.out.mono ?_
  clear HD
  rintro e w1 ⟨xs, v, rfl, hs, ho, hb⟩
  obtain ⟨b, c, rfl, hc1, hc2, hI⟩ := drawnR_form ho
  have hx7 := hs.1
  have HSH := Lib.hid hs.short
  have I1 := Lib.hid hI
  have Q1 := Lib.hid hb
  clear hI ho hb hs
  go_wp2_with fail
  refine (implRosterOk_any _ xs HSH.out w1 I1.out).mono ?_
  rintro e w2 ⟨rfl, hb2⟩
  have I2 := Lib.hid (I1.out.below hb2)
  have Q2 := Lib.hid (Q1.out.trans (hb2.mono Q1.out.size))
  clear hb2 I1 Q1
  have HR : Hid (∀ u v : Bool, u = v → (u != v) = false) := by
    have : ∀ u v : Bool, u = v → (u != v) = false := fun u v h => by subst h; simp
    exact Lib.hid this
  have hne := HR.out _ _ (rfl : rosterOk xs = rosterOk xs)
  go_wp2_with fail
  refine (specRosterOk_any _ xs HSH.out w2 I2.out).mono ?_
  rintro e w3 ⟨rfl, hb3⟩
  have I3 := Lib.hid (I2.out.below hb3)
  have Q3 := Lib.hid (Q2.out.trans (hb3.mono Q2.out.size))
  clear hb3 I2 Q2
  have HLX := Lib.hid (fun h1 h2 => rosterOk_init (xs := xs) h1 h2)
  have HS1 : Hid (Short [⟨#[]⟩]) := by
    have : Short [⟨#[]⟩] := fun s h => by simp at h; subst h; decide
    exact Lib.hid this
  have HS2 : Hid (Short []) := by
    have : Short [] := fun s h => by cases h
    exact Lib.hid this
  have HS3 : Hid (Short [⟨#[114]⟩, ⟨#[]⟩]) := by
    have : Short [⟨#[114]⟩, ⟨#[]⟩] := fun s h => by simp at h; rcases h with rfl | rfl <;> decide
    exact Lib.hid this
  cases hok : rosterOk xs with
  | false =>
    rw [hok] at hne
    clear HLX
    go_wp2_with fail
    refine (implRosterOk_any _ [⟨#[]⟩] HS1.out _ (strs_lit w3 [⟨#[]⟩] 1 rfl (by omega) _ rfl)).mono ?_
    rintro e w4 ⟨rfl, hb4⟩
    rw [show rosterOk [⟨#[]⟩] = true from by decide]
    have Q4 := Lib.hid (Q3.out.trans (((Below.refl w3.heap.size w3).alloc (Nat.le_refl _) _).trans (hb4.mono (by simp)) |>.mono Q3.out.size))
    clear hb4
    go_wp2_with fail
    refine (implRosterOk_any _ [] HS2.out _ (strs_lit w4 [] 0 rfl (by omega) _ rfl)).mono ?_
    rintro e w5 ⟨rfl, hb5⟩
    rw [show rosterOk [] = false from by decide]
    have Q5 := Lib.hid (Q4.out.trans (((Below.refl w4.heap.size w4).alloc (Nat.le_refl _) _).trans (hb5.mono (by simp)) |>.mono Q4.out.size))
    clear hb5
    go_wp2_with fail
    refine (implRosterOk_any _ [⟨#[114]⟩, ⟨#[]⟩] HS3.out _ (strs_lit w5 [⟨#[114]⟩, ⟨#[]⟩] 2 rfl (by omega) _ rfl)).mono ?_
    rintro e w6 ⟨rfl, hb6⟩
    rw [show rosterOk [⟨#[114]⟩, ⟨#[]⟩] = false from by decide]
    have Q6 := Lib.hid (Q5.out.trans (((Below.refl w5.heap.size w5).alloc (Nat.le_refl _) _).trans (hb6.mono (by simp)) |>.mono Q5.out.size))
    clear hb6
    go_wp2_with (go_at_call 20; refine (aliveR_any _).mono ?_; rintro e w' ⟨rfl, rfl⟩)
    go_ret
    exact ⟨rfl, Q6.out⟩
  | true =>
    rw [hok] at hne
    go_wp2_with fail
    refine (implRosterOk_any _ [⟨#[]⟩] HS1.out _ (strs_lit w3 [⟨#[]⟩] 1 rfl (by omega) _ rfl)).mono ?_
    rintro e w4 ⟨rfl, hb4⟩
    rw [show rosterOk [⟨#[]⟩] = true from by decide]
    have D4 := Lib.hid (((Below.refl w3.heap.size w3).alloc (Nat.le_refl _) _).trans (hb4.mono (by simp)))
    clear hb4
    go_wp2_with fail
    refine (implRosterOk_any _ [] HS2.out _ (strs_lit w4 [] 0 rfl (by omega) _ rfl)).mono ?_
    rintro e w5 ⟨rfl, hb5⟩
    rw [show rosterOk [] = false from by decide]
    have D5 := Lib.hid (D4.out.trans (((Below.refl w4.heap.size w4).alloc (Nat.le_refl _) _).trans (hb5.mono (by simp)) |>.mono D4.out.size))
    clear hb5
    go_wp2_with fail
    refine (implRosterOk_any _ [⟨#[114]⟩, ⟨#[]⟩] HS3.out _ (strs_lit w5 [⟨#[114]⟩, ⟨#[]⟩] 2 rfl (by omega) _ rfl)).mono ?_
    rintro e w6 ⟨rfl, hb6⟩
    rw [show rosterOk [⟨#[114]⟩, ⟨#[]⟩] = false from by decide]
    have D6 := Lib.hid (D5.out.trans (((Below.refl w5.heap.size w5).alloc (Nat.le_refl _) _).trans (hb6.mono (by simp)) |>.mono D5.out.size))
    clear hb6
    have Q6 := Lib.hid (Q3.out.trans (D6.out.mono Q3.out.size))
    have HOK := Lib.hid hok
    clear hok
    by_cases h2 : xs.length < 2
    · go_wp2_with (go_at_call 20; refine (aliveR_any _).mono ?_; rintro e w' ⟨rfl, rfl⟩)
      go_ret
      exact ⟨rfl, Q6.out⟩
    · have e1 : ((xs.length : Int) - 1) = ((xs.length - 1 : Nat) : Int) := by omega
      have HI := Lib.hid ((I3.out.below D6.out).cut (xs.length - 1) (by omega) rfl)
      have HST : Hid (Short (xs.take (xs.length - 1))) := by
        have : Short (xs.take (xs.length - 1)) := fun s hs => HSH.out s (List.mem_of_mem_take hs)
        exact Lib.hid this
      have HLI := Lib.hid (HLX.out HOK.out (by omega))
      have hle : xs.length - 1 ≤ c := by omega
      go_wp2_with fail
      refine (implRosterOk_any _ _ HST.out _ HI.out).mono ?_
      rintro e w7 ⟨rfl, hb7⟩
      rw [HLI.out]
      have Q7 := Lib.hid (Q6.out.trans (hb7.mono Q6.out.size))
      clear hb7
      go_wp2_with (go_at_call 20; refine (aliveR_any _).mono ?_; rintro e w' ⟨rfl, rfl⟩)
      go_ret
      exact ⟨rfl, Q7.out⟩

theorem needsOk_comm (l d : Int) : needsOk d l = needsOk l d := by
  unfold needsOk
  rw [Bool.and_comm (decide (0 ≤ d)), Int.add_comm d l]

set_option maxHeartbeats 3200000 in
theorem lawNeedsOk_walk {w : World} (a : Option Addr) (len cap : Nat) (zs : List Int) (h : IsRow .u8 w a len cap zs) :
    Calls Try.prog 4 #[.slice a len cap] w fun e w' => e = .returned (.bool true) ∧ Below w.heap.size w w' := by
  have HD := Lib.hid (drawNeedsOk_any a len cap zs w h)
  have hl := rowR_len h
  clear h
  by_cases hbig : 1048576 < len
  · go_enter Try.func4, Try.ntmps4
    go_wp2_with fail
    go_ret
    exact ⟨rfl, Below.refl _ _⟩
  go_enter Try.func4, Try.ntmps4
  go_wp2_with fail
  refine HD.out.mono ?_
  clear HD
  rintro e w1 ⟨l, d, rfl, hl1, hl2, hd1, hd2, hb⟩
  have HL := Lib.hid (show (Lit.int .i64 l).wf = true from WalkArith.wf_i64 (by omega))
  have HDD := Lib.hid (show (Lit.int .i64 d).wf = true from WalkArith.wf_i64 (by omega))
  have X1 := Lib.hid (NdBox.new w1 l d 29)
  have Q1 := Lib.hid (hb.alloc hb.size (.cells #[.int .i64 l, .int .i64 d] 29))
  have HIM := Lib.hid (fun W => implNeedsOk_any l d W HL.out HDD.out)
  have HSP := Lib.hid (fun W => specNeedsOk_any l d W)
  have HIC := Lib.hid (fun W => implNeedsOk_any d l W HDD.out HL.out)
  have HIZ := Lib.hid (fun W => implNeedsOk_any 0 0 W (WalkArith.wf_i64 (by decide)) (WalkArith.wf_i64 (by decide)))
  rw [show needsOk 0 0 = true from by decide] at HIZ
  rw [needsOk_comm l d] at HIC
  clear hb
  generalize needsOk l d = r at *
  have hne : (r != r) = false := by simp
  have heq : (r == r) = true := by simp
  go_wp2_with fail
  refine (HIM.out _).mono ?_
  rintro e w2 ⟨rfl, hb2⟩
  have X2 := Lib.hid (X1.out.below hb2)
  have Q2 := Lib.hid (Q1.out.trans (hb2.mono Q1.out.size))
  clear hb2
  have c0 := X2.out.c0
  have c1 := X2.out.c1
  go_wp2_with fail
  refine (HSP.out _).mono ?_
  rintro e w3 ⟨rfl, hb3⟩
  have X3 := Lib.hid (X2.out.below hb3)
  have Q3 := Lib.hid (Q2.out.trans (hb3.mono Q2.out.size))
  clear hb3 c0 c1
  go_wp2_with fail
  refine (HIZ.out _).mono ?_
  rintro e w4 ⟨rfl, hb4⟩
  have X4 := Lib.hid (X3.out.below hb4)
  have Q4 := Lib.hid (Q3.out.trans (hb4.mono Q3.out.size))
  clear hb4
  have c0 := X4.out.c0
  have c1 := X4.out.c1
  go_wp2_with fail
  refine (HIC.out _).mono ?_
  rintro e w5 ⟨rfl, hb5⟩
  have Q5 := Lib.hid (Q4.out.trans (hb5.mono Q4.out.size))
  clear hb5
  go_wp2_with (go_at_call 20; refine (aliveR_any _).mono ?_; rintro e w' ⟨rfl, rfl⟩)
  go_ret
  exact ⟨rfl, Q5.out⟩

theorem exch_back_n {xs : List ByteArray} {f t : Int} (h : exchOk xs f t = true) : exchOk (exch xs f t) t f = true ∧ exch (exch xs f t) t f = xs := exch_back h

set_option maxHeartbeats 6400000 in
theorem lawRowsExchanged_walk {w : World} (a : Option Addr) (len cap : Nat) (zs : List Int) (h : IsRow .u8 w a len cap zs) :
    Calls Try.prog 9 #[.slice a len cap] w fun e w' => e = .returned (.bool true) ∧ Below w.heap.size w w' := by
  have HD := Lib.hid (drawRowsExchanged_any a len cap zs w h)
  have hl := rowR_len h
  clear h
  by_cases hbig : 1048576 < len
  · go_enter Try.func9, Try.ntmps9
    go_wp2_with fail
    go_ret
    exact ⟨rfl, Below.refl _ _⟩
  go_enter Try.func9, Try.ntmps9
  go_wp2_with fail
  refine HD.out.mono ?_
  clear HD
  rintro e w1 ⟨xs, v, f, t, rfl, hs, hf1, hf2, ht1, ht2, ho, hb⟩
  obtain ⟨b, c, rfl, hc1, hc2, hI⟩ := drawnR_form ho
  have hx7 := hs.1
  have HSH := Lib.hid hs.short
  have I1 := Lib.hid hI
  have Q1 := Lib.hid hb
  clear hI ho hb hs
  have HIM := Lib.hid (fun W hI => implExch_any (.slice b xs.length c) xs HSH.out f t W hI)
  have HSP := Lib.hid (fun W hI => specExch_any (.slice b xs.length c) xs HSH.out f t W hI)
  cases hok : exchOk xs f t with
  | false =>
    rw [hok, exch_no hok] at HIM HSP
    clear hok
    go_wp2_with fail
    refine (HIM.out _ I1.out).mono ?_
    rintro e w2 ⟨v2, rfl, ho2, hb2⟩
    obtain ⟨a2, c2, rfl, hc21, hc22, hI2⟩ := drawnR_form ho2
    have I2 := Lib.hid (I1.out.below hb2)
    have Y2 := Lib.hid hI2
    have Q2 := Lib.hid (Q1.out.trans (hb2.mono Q1.out.size))
    clear hb2 ho2 hI2
    go_wp2_with fail
    refine (HSP.out _ I2.out).mono ?_
    rintro e w3 ⟨v3, rfl, ho3, hb3⟩
    obtain ⟨a3, c3, rfl, hc31, hc32, hI3⟩ := drawnR_form ho3
    have Y3 := Lib.hid (Y2.out.below hb3)
    have Z3 := Lib.hid hI3
    have Q3 := Lib.hid (Q2.out.trans (hb3.mono Q2.out.size))
    clear hb3 ho3 hI3
    go_wp2_with fail
    refine (sameTexts_any _ _ [] [] _ Y3.out Z3.out).mono ?_
    rintro e w4 ⟨rfl, hb4⟩
    rw [show decide (([] : List ByteArray) = []) = true from by simp]
    have Q4 := Lib.hid (Q3.out.trans (hb4.mono Q3.out.size))
    clear hb4
    go_wp2_with (go_at_call 20; refine (aliveR_any _).mono ?_; rintro e w' ⟨rfl, rfl⟩)
    go_ret
    exact ⟨rfl, Q4.out⟩
  | true =>
    obtain ⟨hr, hfb, htb, hft⟩ := exchOk_iff.1 hok
    obtain ⟨nf, rfl⟩ := Int.eq_ofNat_of_zero_le hfb.1
    obtain ⟨nt, rfl⟩ := Int.eq_ofNat_of_zero_le htb.1
    obtain ⟨r1, r2, r3⟩ := exch_roster hok
    obtain ⟨k1, k2⟩ := exch_back hok
    have hnf : nf < xs.length := by omega
    have hnt : nt < xs.length := by omega
    have hat := exch_at hok (by rw [r3]; exact hnf) hnt
    have HYS : Hid (Short (exch xs nf nt)) := by
      have : Short (exch xs nf nt) := fun s hs => by
        have := (rosterOk_iff.1 r1).2.2.2 s hs
        have h12 := (rosterOk_iff.1 r1).2.2.1
        unfold maxLen; omega
      exact Lib.hid this
    rw [hok] at HIM HSP
    have HAT : Hid ((exch xs nf nt)[nf]? = some xs[nt]) := by
      have : (exch xs nf nt)[nf]? = some xs[nt] := by rw [List.getElem?_eq_getElem (by rw [r3]; exact hnf), hat]
      exact Lib.hid this
    have HR1 := Lib.hid r1
    have HK1 := Lib.hid k1
    have HK2 := Lib.hid k2
    have R3 := Lib.hid r3
    have hr4 : 0 < xs.length := by omega
    clear hok hr hfb htb hft r1 r2 r3 k1 k2 hat
    generalize hys : exch xs nf nt = ys at *
    have HYL := Lib.hid R3.out
    have hnfy : nf < ys.length := by rw [R3.out]; exact hnf
    have HBK := Lib.hid (fun (u : Value) W hI => implExch_any u ys HYS.out nt nf W hI)
    rw [HK1.out, HK2.out] at HBK
    clear hys
    go_wp2_with fail
    refine (HIM.out _ I1.out).mono ?_
    rintro e w2 ⟨v2, rfl, ho2, hb2⟩
    obtain ⟨a2, c2, rfl, hc21, hc22, hI2⟩ := drawnR_form ho2
    have I2 := Lib.hid (I1.out.below hb2)
    have Y2 := Lib.hid hI2
    have Q2 := Lib.hid (Q1.out.trans (hb2.mono Q1.out.size))
    clear hb2 ho2 hI2
    go_wp2_with fail
    refine (HSP.out _ I2.out).mono ?_
    rintro e w3 ⟨v3, rfl, ho3, hb3⟩
    obtain ⟨a3, c3, rfl, hc31, hc32, hI3⟩ := drawnR_form ho3
    have I3 := Lib.hid (I2.out.below hb3)
    have Y3 := Lib.hid (Y2.out.below hb3)
    have Z3 := Lib.hid hI3
    have Q3 := Lib.hid (Q2.out.trans (hb3.mono Q2.out.size))
    clear hb3 ho3 hI3
    go_wp2_with fail
    refine (sameTexts_any _ _ ys ys _ Y3.out Z3.out).mono ?_
    rintro e w4 ⟨rfl, hb4⟩
    rw [decide_eq_true (rfl : ys = ys)]
    have I4 := Lib.hid (I3.out.below hb4)
    have Y4 := Lib.hid (Y3.out.below hb4)
    have Q4 := Lib.hid (Q3.out.trans (hb4.mono Q3.out.size))
    clear hb4
    go_wp2_with fail
    refine (HBK.out _ _ Y4.out).mono ?_
    rintro e w5 ⟨v5, rfl, ho5, hb5⟩
    obtain ⟨a5, c5, rfl, hc51, hc52, hI5⟩ := drawnR_form ho5
    have I5 := Lib.hid (I4.out.below hb5)
    have Y5 := Lib.hid (Y4.out.below hb5)
    have Z5 := Lib.hid hI5
    have Q5 := Lib.hid (Q4.out.trans (hb5.mono Q4.out.size))
    clear hb5 ho5 hI5
    obtain ⟨g2, o2, rfl, hg2, hcl2⟩ := Y5.out.at (by omega)
    obtain ⟨g1, o1, rfl, hg1, hcl1⟩ := I5.out.at (by omega)
    have x2 := hcl2 nf hnfy
    have x1 := hcl1 nt hnt
    have hva : ys[nf] = xs[nt] := by
      have := HAT.out
      rw [List.getElem?_eq_getElem hnfy] at this
      exact Option.some.inj this
    rw [hva] at x2
    have HX2 := Lib.hid (fun W (hb : Below w5.heap.size w5 W) => (hb.cell (p := ⟨g2, o2 + nf, none⟩) hg2).trans x2)
    have HX1 := Lib.hid (fun W (hb : Below w5.heap.size w5 W) => (hb.cell (p := ⟨g1, o1 + nt, none⟩) hg1).trans x1)
    clear hcl1 hcl2 x1 x2 hva HAT
    have hnfi : (nf : Int) < (ys.length : Int) := by omega
    have hnti : (nt : Int) < (xs.length : Int) := by omega
    have BD := Lib.hid ((Below.refl w5.heap.size w5).drew)
    have HRO := Lib.hid (fun W (hb : Below w5.heap.size w5 W) => implRosterOk_any _ ys HYS.out W (Y5.out.below hb))
    rw [HR1.out] at HRO
    have HSM : Hid (∀ W, Below w5.heap.size w5 W → Calls Try.prog 42 #[.slice a5 xs.length c5, .slice (some ⟨g1, o1, none⟩) xs.length c] W fun e w' => e = .returned (.bool true) ∧ Below W.heap.size W w') := by
      have : ∀ W, Below w5.heap.size w5 W → Calls Try.prog 42 #[.slice a5 xs.length c5, .slice (some ⟨g1, o1, none⟩) xs.length c] W fun e w' => e = .returned (.bool true) ∧ Below W.heap.size W w' := fun W hb =>
        (sameTexts_any _ _ xs xs W (Z5.out.below hb) (I5.out.below hb)).mono fun _ _ ⟨h, g⟩ => ⟨by rw [h, decide_eq_true (rfl : xs = xs)], g⟩
      exact Lib.hid this
    generalize xs[nt] = sx at *
    go_wp2_with fail
    go_region_with (first | (go_at_call 18; with_reducible refine Calls.mono (HRO.out _ BD.out) ?_; rintro e w6 ⟨rfl, hb6⟩; have B6 := Lib.hid (BD.out.trans (hb6.mono BD.out.size)); clear hb6) | (go_at_call 42; with_reducible refine Calls.mono (HSM.out _ B6.out) ?_; rintro e w7 ⟨rfl, hb7⟩; have B7 := Lib.hid (B6.out.trans (hb7.mono B6.out.size)); clear hb7; have y1 := HX1.out _ B7.out; have y2 := HX2.out _ B7.out))
    all_goals
      go_wp2_with fail
      go_ret
      exact ⟨rfl, Q5.out.trans (B7.out.mono Q5.out.size)⟩
end Go.Proofs.Ytlbblfbiiceofaa
