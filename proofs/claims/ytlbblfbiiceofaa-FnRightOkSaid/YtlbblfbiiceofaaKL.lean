/- The walks of FnRosterOk, FnNeedsOk, FnRowsExchanged: true at every code. No condition. The walk of FnKeepsAll: true at every code. The world lays the library's longest length in a cell (MaxLen). The walk of FnRightOk: true at every code. The world lays the library's longest length in a cell (MaxLen). The walk of FnCoverOk: true at every code. No condition. -/
import Derived.Test.YtlbblfbiiceofaaKG
import Derived.Test.YtlbblfbiiceofaaKB
import Derived.Test.YtlbblfbiiceofaaKH
import Derived.Test.YtlbblfbiiceofaaKI
import Derived.Test.YtlbblfbiiceofaaKC

namespace Go.Proofs.Ytlbblfbiiceofaa
open Go.RowKit

theorem rowR_len {w : World} {a : Option Addr} {len cap : Nat} {zs : List Int} (h : IsRow .u8 w a len cap zs) : len ≤ 9223372036854775807 := by
  rcases h with ⟨_, rfl, _⟩ | ⟨x, _, h1, h2, _⟩
  · omega
  · unfold maxLen at h2; omega
theorem aliveR_any (w : World) : Calls Try.prog 20 #[] w fun e w' => e = .returned (.bool true) ∧ w = w' := by
  have h1 : wordOk ⟨#[114, 100, 110]⟩ = true := by decide +kernel
  have h2 : wordOk ⟨#[120]⟩ = false := by decide +kernel
  go_enter Try.func20, Try.ntmps20
  go_wp2_with (go_at_call 56; refine (implWordOk_any _ _ (by decide)).mono ?_; rintro e w' ⟨rfl, rfl⟩)
  go_ret
  exact ⟨rfl, rfl⟩
end Go.Proofs.Ytlbblfbiiceofaa

namespace Go.Proofs.Ytlbblfbiiceofaa
open Go.RowKit

theorem isAll_exch {ms : List Mk} {xs : List ByteArray} {a b : Int} {c : Bool} (h : IsAll ms xs c) (he : exchOk xs a b = true) : IsAll ms (exch xs a b) c := by
  obtain ⟨h1, h2, h3, -⟩ := exchOk_iff.1 he
  obtain ⟨r1, -, -⟩ := exch_roster he
  have hm : ∀ s, s ∈ exch xs a b ↔ s ∈ xs := fun s => by
    rw [exch, if_pos he]; exact exchTo_perm (by omega) (by omega) s
  rcases h with ⟨rfl, _, g2, g3⟩ | ⟨rfl, g⟩
  · exact .inl ⟨rfl, r1, g2, fun s hs => g3 s ((hm s).1 hs)⟩
  · rcases g with g | g | ⟨s, hs, g⟩
    · rw [h1] at g; cases g
    · exact .inr ⟨rfl, .inr (.inl g)⟩
    · exact .inr ⟨rfl, .inr (.inr ⟨s, (hm s).2 hs, g⟩)⟩
theorem IsAll.no1 {ms : List Mk} {xs : List ByteArray} {c : Bool} (h : IsAll ms xs c) (hr : rosterOk xs = false) : c = false := h.one (.inr ⟨rfl, .inl hr⟩)
theorem IsAll.no2 {ms : List Mk} {xs : List ByteArray} {c : Bool} (h : IsAll ms xs c) (hr : termOk ms = false) : c = false := h.one (.inr ⟨rfl, .inr (.inl hr)⟩)
/-- whether each of the first rows keeps -/
def EachTo (ms : List Mk) (xs : List ByteArray) (k : Nat) (E : Bool) : Prop := (E = true ∧ ∀ j (hj : j < xs.length), j < k → IsKept ms xs[j] true) ∨ (E = false ∧ ∃ s ∈ xs, IsKept ms s false)
theorem EachTo.zero (ms : List Mk) (xs : List ByteArray) : EachTo ms xs 0 true := .inl ⟨rfl, fun _ _ h => absurd h (Nat.not_lt_zero _)⟩
theorem EachTo.stay {ms : List Mk} {xs : List ByteArray} {k : Nat} (h : EachTo ms xs k false) : EachTo ms xs (k + 1) false := by
  rcases h with ⟨h, _⟩ | ⟨_, h⟩
  · cases h
  · exact .inr ⟨rfl, h⟩
theorem EachTo.next {ms : List Mk} {xs : List ByteArray} {k : Nat} {b : Bool} (hk : k < xs.length) (h : EachTo ms xs k true) (hb : IsKept ms xs[k] b) : EachTo ms xs (k + 1) b := by
  rcases h with ⟨_, h⟩ | ⟨h, _⟩
  · cases b with
    | true => exact .inl ⟨rfl, fun j hj hjk => by
        by_cases e : j = k
        · subst e; exact hb
        · exact h j hj (by omega)⟩
    | false => exact .inr ⟨rfl, xs[k], List.getElem_mem hk, hb⟩
  · cases h
theorem EachTo.all {ms : List Mk} {xs : List ByteArray} {E c : Bool} (h : EachTo ms xs xs.length E) (hr : rosterOk xs = true) (ht : termOk ms = true) (hc : IsAll ms xs c) : c = E := by
  refine hc.one ?_
  rcases h with ⟨rfl, h⟩ | ⟨rfl, h⟩
  · exact .inl ⟨rfl, hr, ht, fun s hs => by
      obtain ⟨j, hj, rfl⟩ := List.mem_iff_getElem.1 hs
      exact h j hj hj⟩
  · exact .inr ⟨rfl, .inr (.inr h)⟩
theorem exch_short {xs : List ByteArray} {a b : Int} (h : exchOk xs a b = true) : Short (exch xs a b) := fun s hs => by
  obtain ⟨r1, -, -⟩ := exch_roster h
  have := (rosterOk_iff.1 r1).2.2.2 s hs
  have h12 := (rosterOk_iff.1 r1).2.2.1
  unfold maxLen; omega

set_option maxHeartbeats 6400000 in
theorem lawKeepsAll_walk {w : World} (a : Option Addr) (len cap : Nat) (zs : List Int) (h : IsRow .u8 w a len cap zs) (hglob : ∃ m, w.cell? ⟨0, 0, none⟩ = some (.int .i64 m)) :
    Calls Try.prog 7 #[.slice a len cap] w fun e w' => e = .returned (.bool true) ∧ Below w.heap.size w w' := by
  obtain ⟨M, hM⟩ := hglob
  have HG := Lib.hid (fun W (hb : Below w.heap.size w W) => (hb.cell (p := ⟨0, 0, none⟩) (maxl_lt hM)).trans hM)
  have HD := Lib.hid (drawKeepsAll_any a len cap zs w h)
  have hl := rowR_len h
  clear h hM
  by_cases hbig : 1048576 < len
  · go_enter Try.func7, Try.ntmps7
    go_wp2_with fail
    go_ret
    exact ⟨rfl, Below.refl _ _⟩
  go_enter Try.func7, Try.ntmps7
  go_wp2_with fail
  refine HD.out.mono ?_
  clear HD
  rintro e w1 ⟨ms, tv, xs, v, rfl, hml, hmw, hs, hot, hor, hb⟩
  obtain ⟨b, c, rfl, hc1, hc2, hI⟩ := drawnR_form hor
  have HM1 := Lib.hid (IsMarks.of_owns hot)
  obtain ⟨ta, tc, rfl⟩ := ownsRow_sliceR hot
  have hx7 := hs.1
  have HSH := Lib.hid hs.short
  have HMW := Lib.hid hmw
  have I1 := Lib.hid hI
  have Q1 := Lib.hid hb
  clear hI hot hor hb hs hmw
  have HIM := Lib.hid (fun W (hI : IsMarks W (.slice ta ms.length tc) ms) hJ hMM => implKeepsAll_any ms HMW.out (.slice ta ms.length tc) (.slice b xs.length c) xs HSH.out M W hI hJ hMM)
  have HSP := Lib.hid (fun W (hI : IsMarks W (.slice ta ms.length tc) ms) hJ => specKeepsAll_any ms (.slice ta ms.length tc) (.slice b xs.length c) xs HSH.out W hI (by omega) hJ)
  go_wp2_with fail
  refine (HIM.out _ HM1.out I1.out (HG.out _ Q1.out)).mono ?_
  rintro e w2 ⟨⟨ok, hok, rfl⟩, hb2⟩
  have B2 := Lib.hid hb2
  have HOK := Lib.hid hok
  clear hb2 hok
  go_wp2_with fail
  refine (HSP.out _ (HM1.out.below B2.out) (I1.out.below B2.out)).mono ?_
  rintro e w3 ⟨⟨ok3, hok3, rfl⟩, hb3⟩
  have hne : (ok == ok3) = true := beq_iff_eq.2 (HOK.out.one hok3)
  have B3 := Lib.hid (B2.out.trans (hb3.mono B2.out.size))
  clear hb3 hok3 HIM HSP
  go_wp2_with fail
  refine (specRosterOk_any _ xs HSH.out w3 (I1.out.below B3.out)).mono ?_
  rintro e w4 ⟨rfl, hb4⟩
  have B4 := Lib.hid (B3.out.trans (hb4.mono B3.out.size))
  clear hb4 hne
  cases hr : rosterOk xs with
  | false =>
    obtain rfl : ok = false := HOK.out.no1 hr
    go_wp2_with (go_at_call 20; refine (aliveR_any _).mono ?_; rintro e w' ⟨rfl, rfl⟩)
    go_ret
    exact ⟨rfl, Q1.out.trans (B4.out.mono Q1.out.size)⟩
  | true =>
    go_wp2_with fail
    refine (specTermOk_any ms _ w4 (HM1.out.below B4.out) (by omega)).mono ?_
    rintro e w5 ⟨rfl, hb5⟩
    have B5 := Lib.hid (B4.out.trans (hb5.mono B4.out.size))
    clear hb5
    cases ht : termOk ms with
    | false =>
      obtain rfl : ok = false := HOK.out.no2 ht
      go_wp2_with (go_at_call 20; refine (aliveR_any _).mono ?_; rintro e w' ⟨rfl, rfl⟩)
      go_ret
      exact ⟨rfl, Q1.out.trans (B5.out.mono Q1.out.size)⟩
    | true =>
      have hx1 : 1 ≤ xs.length := (rosterOk_iff.1 hr).1
      have HFIN : Hid (∀ E, EachTo ms xs xs.length E → (ok == E) = true) := Lib.hid (fun E h => beq_iff_eq.2 (h.all hr ht HOK.out))
      have HEX : Hid (∀ W, IsStrs W (.slice b xs.length c) xs → Calls Try.prog 31 #[.slice b xs.length c, .int .i64 0, .int .i64 ((xs.length : Int) - 1)] W fun e w' => ∃ v2 : Value, e = .returned (.tuple #[v2, .bool (exchOk xs 0 ((xs.length : Int) - 1))]) ∧ w'.ownsRow W.heap.size 9 1 v2 (exch xs 0 ((xs.length : Int) - 1)).length ((exch xs 0 ((xs.length : Int) - 1)).map Value.string) ∧ Below W.heap.size W w') := Lib.hid (fun W hI => implExch_any (.slice b xs.length c) xs HSH.out 0 ((xs.length : Int) - 1) W hI)
      clear hr ht
      go_wp2_with fail
      go_loopw [6, 7] (fun sv iv wr => ∃ (k : Nat) (E : Bool), k ≤ xs.length ∧ iv = .int .i64 (k : Int) ∧ sv = .bool E ∧ Hid (EachTo ms xs k E) ∧ Hid (Below w1.heap.size w1 wr)) (fun _ iv _ => xs.length - (intOf iv).toNat)
      case atStart => exact ⟨0, true, Nat.zero_le _, rfl, rfl, Lib.hid (EachTo.zero ms xs), B5⟩
      case round =>
        obtain ⟨k, E, hk, rfl, rfl, HE, BB⟩ := hrel
        by_cases hlt : k < xs.length
        · cases E with
          | false =>
            have HY := Lib.hid HE.out.stay
            go_wp2_with fail
            go_roundw
            case rel => exact ⟨k + 1, false, by omega, by go_num, rfl, HY, BB⟩
            case measure => simp [intOf]; omega
          | true =>
            obtain ⟨g, off, rfl, hg, hcl⟩ := I1.out.at (by omega)
            have ck := (BB.out.cell (p := ⟨g, off + k, none⟩) hg).trans (hcl k hlt)
            have HK := Lib.hid (implKeepsTerm_any ms HMW.out _ xs[k] M wr (HM1.out.below BB.out) (HSH.out _ (List.getElem_mem hlt)) (HG.out _ (Q1.out.trans (BB.out.mono Q1.out.size))))
            have HY := Lib.hid (fun u (hu : IsKept ms xs[k] u) => HE.out.next hlt hu)
            clear hcl hg
            generalize xs[k] = s at *
            go_wp2_with fail
            refine HK.out.mono ?_
            rintro e w6 ⟨⟨kb, hkb, rfl⟩, hb6⟩
            have HY2 := Lib.hid (HY.out _ hkb)
            have B6 := Lib.hid (BB.out.trans (hb6.mono BB.out.size))
            clear hb6 hkb
            go_wp2_with fail
            go_roundw
            case rel => exact ⟨k + 1, kb, by omega, by go_num, rfl, HY2, B6⟩
            case measure => simp [intOf]; omega
        · obtain rfl : k = xs.length := by omega
          have heq := HFIN.out E HE.out
          clear hlt HE HFIN
          go_wp2_with fail
          refine (HEX.out wr (I1.out.below BB.out)).mono ?_
          cases hx : exchOk xs 0 ((xs.length : Int) - 1) with
          | false =>
            rintro e w6 ⟨v2, rfl, ho2, hb6⟩
            have B6 := Lib.hid (BB.out.trans (hb6.mono BB.out.size))
            clear hb6 ho2
            go_wp2_with fail
            go_ret
            exact ⟨rfl, Q1.out.trans (B6.out.mono Q1.out.size)⟩
          | true =>
            have HYS := Lib.hid (exch_short hx)
            have HYA := Lib.hid (isAll_exch HOK.out hx)
            rintro e w6 ⟨v2, rfl, ho2, hb6⟩
            generalize exch xs 0 ((xs.length : Int) - 1) = ys at *
            obtain ⟨a2, c2, rfl, hc21, hc22, hI2⟩ := drawnR_form ho2
            have B6 := Lib.hid (BB.out.trans (hb6.mono BB.out.size))
            have Y6 := Lib.hid hI2
            clear hb6 ho2 hI2
            go_wp2_with fail
            refine (implKeepsAll_any ms HMW.out (.slice ta ms.length tc) (.slice a2 ys.length c2) ys HYS.out M w6 (HM1.out.below B6.out) Y6.out (HG.out _ (Q1.out.trans (B6.out.mono Q1.out.size)))).mono ?_
            rintro e w7 ⟨⟨ok7, hok7, rfl⟩, hb7⟩
            have heq2 : (ok7 == ok) = true := beq_iff_eq.2 (hok7.one HYA.out)
            have B7 := Lib.hid (B6.out.trans (hb7.mono B6.out.size))
            clear hb7 hok7
            go_wp2_with fail
            go_ret
            exact ⟨rfl, Q1.out.trans (B7.out.mono Q1.out.size)⟩
end Go.Proofs.Ytlbblfbiiceofaa

namespace Go.Proofs.Ytlbblfbiiceofaa
open Go.RowKit

theorem exchTo_isPerm {xs : List ByteArray} {a b : Nat} (ha : a < xs.length) (hb : b < xs.length) : (exchTo xs a b).Perm xs := by
  have e1 : xs.getD a ⟨#[]⟩ = xs[a] := by simp [List.getD, ha]
  have e2 : xs.getD b ⟨#[]⟩ = xs[b] := by simp [List.getD, hb]
  rw [exchTo, e1, e2]
  exact List.set_set_perm ha hb
theorem dayCount_perm {xs ys : List ByteArray} (hp : ys.Perm xs) (hx : rosterOk xs = true) (hy : rosterOk ys = true) (hd : daysOf ys = daysOf xs) (k : Nat) (hk : k < daysOf xs) (t : ByteArray) (ht : letterOk t = true) : countOf (dayStr ys k) t = countOf (dayStr xs k) t := by
  rw [countOf_list (dayStr_word hx k hk) ht, countOf_list (dayStr_word hy k (by omega)) ht]
  have h : ((dayBytes ys k).countP (· == byteAt t 0)) = ((dayBytes xs k).countP (· == byteAt t 0)) := (hp.map _).countP_eq _
  show (((dayBytes ys k).toArray.toList.countP _ : Nat) : Int) = (((dayBytes xs k).toArray.toList.countP _ : Nat) : Int)
  rw [List.toList_toArray, List.toList_toArray, h]
theorem coverTo_perm {xs ys : List ByteArray} (hp : ys.Perm xs) (hx : rosterOk xs = true) (hy : rosterOk ys = true) (hd : daysOf ys = daysOf xs) (l d : Int) (n : Nat) (hn : n ≤ daysOf xs) : coverTo ys l d n = coverTo xs l d n := by
  induction n with
  | zero => rfl
  | succ n ih =>
    rw [coverTo_succ, coverTo_succ, ih (by omega), covers, covers, dayCount_perm hp hx hy hd n (by omega) _ (by decide), dayCount_perm hp hx hy hd n (by omega) _ (by decide)]
theorem exch_cover {xs : List ByteArray} {a b : Int} (he : exchOk xs a b = true) (l d : Int) : coverOk (exch xs a b) l d = coverOk xs l d := by
  obtain ⟨h1, h2, h3, -⟩ := exchOk_iff.1 he
  obtain ⟨r1, r2, -⟩ := exch_roster he
  have hp : (exch xs a b).Perm xs := by rw [exch, if_pos he]; exact exchTo_isPerm (by omega) (by omega)
  rw [coverOk, coverOk, r1, h1, r2, coverTo_perm hp h1 r1 r2 l d _ (Nat.le_refl _)]

set_option maxHeartbeats 6400000 in
theorem lawRightOk_walk {w : World} (a : Option Addr) (len cap : Nat) (zs : List Int) (h : IsRow .u8 w a len cap zs) (hglob : ∃ m, w.cell? ⟨0, 0, none⟩ = some (.int .i64 m)) :
    Calls Try.prog 8 #[.slice a len cap] w fun e w' => e = .returned (.bool true) ∧ Below w.heap.size w w' := by
  obtain ⟨M, hM⟩ := hglob
  have HG := Lib.hid (fun W (hb : Below w.heap.size w W) => (hb.cell (p := ⟨0, 0, none⟩) (maxl_lt hM)).trans hM)
  have HD := Lib.hid (drawRightOk_any a len cap zs w h)
  have hl := rowR_len h
  clear h hM
  by_cases hbig : 1048576 < len
  · go_enter Try.func8, Try.ntmps8
    go_wp2_with fail
    go_ret
    exact ⟨rfl, Below.refl _ _⟩
  go_enter Try.func8, Try.ntmps8
  go_wp2_with fail
  refine HD.out.mono ?_
  clear HD
  rintro e w1 ⟨ms, tv, xs, v, l, d, rfl, hml, hmw, hs, hl1, hl2, hd1, hd2, hot, hor, hb⟩
  obtain ⟨b, c, rfl, hc1, hc2, hI⟩ := drawnR_form hor
  have HM0 := Lib.hid (IsMarks.of_owns hot)
  obtain ⟨ta, tc, rfl⟩ := ownsRow_sliceR hot
  have hx7 := hs.1
  have HSH := Lib.hid hs.short
  have HMW := Lib.hid hmw
  have HL := Lib.hid (show (Lit.int .i64 l).wf = true from WalkArith.wf_i64 (by omega))
  have HDD := Lib.hid (show (Lit.int .i64 d).wf = true from WalkArith.wf_i64 (by omega))
  have X1 := Lib.hid (NdBox.new w1 l d 29)
  have hal : Below w1.heap.size w1 (w1.alloc (.cells #[.int .i64 l, .int .i64 d] 29)) := (Below.refl _ _).alloc (Nat.le_refl _) _
  have I1 := Lib.hid (hI.below hal)
  have HM1 := Lib.hid (HM0.out.below hal)
  have Q1 := Lib.hid (hb.alloc hb.size (.cells #[.int .i64 l, .int .i64 d] 29))
  clear hI hot hor hb hs hmw hal HM0
  have HIM := Lib.hid (fun W (hI : IsMarks W (.slice ta ms.length tc) ms) hJ hMM => implRightOk_any ms HMW.out (.slice ta ms.length tc) (.slice b xs.length c) xs HSH.out l d HL.out HDD.out M W hI hJ hMM)
  have HSP := Lib.hid (fun W (hI : IsMarks W (.slice ta ms.length tc) ms) hJ => specRightOk_any ms (.slice ta ms.length tc) (.slice b xs.length c) xs HSH.out l d W hI (by omega) hJ)
  have HKE := Lib.hid (fun W (hI : IsMarks W (.slice ta ms.length tc) ms) hJ hMM => implKeepsAll_any ms HMW.out (.slice ta ms.length tc) (.slice b xs.length c) xs HSH.out M W hI hJ hMM)
  have HCO := Lib.hid (fun W hJ => implCoverOk_any (.slice b xs.length c) xs HSH.out l d HL.out HDD.out W hJ)
  have HEX : Hid (∀ W, IsStrs W (.slice b xs.length c) xs → Calls Try.prog 31 #[.slice b xs.length c, .int .i64 0, .int .i64 ((xs.length : Int) - 1)] W fun e w' => ∃ v2 : Value, e = .returned (.tuple #[v2, .bool (exchOk xs 0 ((xs.length : Int) - 1))]) ∧ w'.ownsRow W.heap.size 9 1 v2 (exch xs 0 ((xs.length : Int) - 1)).length ((exch xs 0 ((xs.length : Int) - 1)).map Value.string) ∧ Below W.heap.size W w') := Lib.hid (fun W hI => implExch_any (.slice b xs.length c) xs HSH.out 0 ((xs.length : Int) - 1) W hI)
  have HXC := Lib.hid (fun (h : exchOk xs 0 ((xs.length : Int) - 1) = true) => exch_cover h l d)
  generalize coverOk xs l d = cv at *
  go_wp2_with fail
  refine (HIM.out _ HM1.out I1.out (HG.out _ Q1.out)).mono ?_
  rintro e w2 ⟨⟨bb, hok, rfl⟩, hb2⟩
  have HOK := Lib.hid hok
  have I2 := Lib.hid (I1.out.below hb2)
  have M2 := Lib.hid (HM1.out.below hb2)
  have X2 := Lib.hid (X1.out.below hb2)
  have Q2 := Lib.hid (Q1.out.trans (hb2.mono Q1.out.size))
  clear hb2 hok HIM
  have c0 := X2.out.c0
  have c1 := X2.out.c1
  go_wp2_with fail
  refine (HSP.out _ M2.out I2.out).mono ?_
  rintro e w3 ⟨⟨b3, hok3, rfl⟩, hb3⟩
  have hne : ((bb && cv) == (b3 && cv)) = true := beq_iff_eq.2 (by rw [HOK.out.one hok3])
  have I3 := Lib.hid (I2.out.below hb3)
  have M3 := Lib.hid (M2.out.below hb3)
  have X3 := Lib.hid (X2.out.below hb3)
  have Q3 := Lib.hid (Q2.out.trans (hb3.mono Q2.out.size))
  clear hb3 hok3 HSP c0 c1
  go_wp2_with fail
  refine (HEX.out _ I3.out).mono ?_
  cases hx : exchOk xs 0 ((xs.length : Int) - 1) with
  | false =>
    rintro e w4 ⟨v2, rfl, ho2, hb4⟩
    have I4 := Lib.hid (I3.out.below hb4)
    have M4 := Lib.hid (M3.out.below hb4)
    have X4 := Lib.hid (X3.out.below hb4)
    have Q4 := Lib.hid (Q3.out.trans (hb4.mono Q3.out.size))
    clear hb4 ho2 hne HXC
    cases bb with
    | false =>
      simp only [Bool.false_and]
      go_wp2_with fail
      refine (HKE.out _ M4.out I4.out (HG.out _ Q4.out)).mono ?_
      rintro e w5 ⟨⟨b5, hok5, rfl⟩, hb5⟩
      obtain rfl : b5 = false := hok5.one HOK.out
      have I5 := Lib.hid (I4.out.below hb5)
      have M5 := Lib.hid (M4.out.below hb5)
      have X5 := Lib.hid (X4.out.below hb5)
      have Q5 := Lib.hid (Q4.out.trans (hb5.mono Q4.out.size))
      clear hb5 hok5
      have c0 := X5.out.c0
      have c1 := X5.out.c1
      go_wp2_with (go_at_call 20; refine (aliveR_any _).mono ?_; rintro e w' ⟨rfl, rfl⟩)
      go_ret
      exact ⟨rfl, Q5.out⟩
    | true =>
      simp only [Bool.true_and]
      go_wp2_with fail
      refine (HKE.out _ M4.out I4.out (HG.out _ Q4.out)).mono ?_
      rintro e w5 ⟨⟨b5, hok5, rfl⟩, hb5⟩
      obtain rfl : b5 = true := hok5.one HOK.out
      have I5 := Lib.hid (I4.out.below hb5)
      have M5 := Lib.hid (M4.out.below hb5)
      have X5 := Lib.hid (X4.out.below hb5)
      have Q5 := Lib.hid (Q4.out.trans (hb5.mono Q4.out.size))
      clear hb5 hok5
      have c0 := X5.out.c0
      have c1 := X5.out.c1
      go_wp2_with fail
      refine (HCO.out _ I5.out).mono ?_
      rintro e w6 ⟨rfl, hb6⟩
      have Q6 := Lib.hid (Q5.out.trans (hb6.mono Q5.out.size))
      clear hb6 c0 c1
      go_wp2_with (go_at_call 20; refine (aliveR_any _).mono ?_; rintro e w' ⟨rfl, rfl⟩)
      go_ret
      exact ⟨rfl, Q6.out⟩
  | true =>
    rintro e w4 ⟨v2, rfl, ho2, hb4⟩
    have HYS := Lib.hid (exch_short hx)
    have HYA := Lib.hid (isAll_exch HOK.out hx)
    have HRY := Lib.hid (fun (z : Value) W (hI : IsMarks W (.slice ta ms.length tc) ms) hJ hMM => implRightOk_any ms HMW.out (.slice ta ms.length tc) z (exch xs 0 ((xs.length : Int) - 1)) HYS.out l d HL.out HDD.out M W hI hJ hMM)
    rw [HXC.out hx] at HRY
    clear HXC hx
    generalize exch xs 0 ((xs.length : Int) - 1) = ys at *
    obtain ⟨a2, c2, rfl, hc21, hc22, hI2⟩ := drawnR_form ho2
    have HRY := Lib.hid (HRY.out (.slice a2 ys.length c2))
    have Y4 := Lib.hid hI2
    have I4 := Lib.hid (I3.out.below hb4)
    have M4 := Lib.hid (M3.out.below hb4)
    have X4 := Lib.hid (X3.out.below hb4)
    have Q4 := Lib.hid (Q3.out.trans (hb4.mono Q3.out.size))
    clear hb4 ho2 hne hI2
    cases bb with
    | false =>
      simp only [Bool.false_and]
      go_wp2_with fail
      refine (HKE.out _ M4.out I4.out (HG.out _ Q4.out)).mono ?_
      rintro e w5 ⟨⟨b5, hok5, rfl⟩, hb5⟩
      obtain rfl : b5 = false := hok5.one HOK.out
      have I5 := Lib.hid (I4.out.below hb5)
      have M5 := Lib.hid (M4.out.below hb5)
      have X5 := Lib.hid (X4.out.below hb5)
      have Y5 := Lib.hid (Y4.out.below hb5)
      have Q5 := Lib.hid (Q4.out.trans (hb5.mono Q4.out.size))
      clear hb5 hok5
      have c0 := X5.out.c0
      have c1 := X5.out.c1
      go_wp2_with fail
      refine (HRY.out _ M5.out Y5.out (HG.out _ Q5.out)).mono ?_
      rintro e w7 ⟨⟨b7, hok7, rfl⟩, hb7⟩
      obtain rfl : b7 = false := hok7.one HYA.out
      have Q7 := Lib.hid (Q5.out.trans (hb7.mono Q5.out.size))
      clear hb7 hok7
      go_wp2_with (go_at_call 20; refine (aliveR_any _).mono ?_; rintro e w' ⟨rfl, rfl⟩)
      go_ret
      exact ⟨rfl, Q7.out⟩
    | true =>
      simp only [Bool.true_and]
      go_wp2_with fail
      refine (HKE.out _ M4.out I4.out (HG.out _ Q4.out)).mono ?_
      rintro e w5 ⟨⟨b5, hok5, rfl⟩, hb5⟩
      obtain rfl : b5 = true := hok5.one HOK.out
      have I5 := Lib.hid (I4.out.below hb5)
      have M5 := Lib.hid (M4.out.below hb5)
      have X5 := Lib.hid (X4.out.below hb5)
      have Y5 := Lib.hid (Y4.out.below hb5)
      have Q5 := Lib.hid (Q4.out.trans (hb5.mono Q4.out.size))
      clear hb5 hok5
      have c0 := X5.out.c0
      have c1 := X5.out.c1
      go_wp2_with fail
      refine (HCO.out _ I5.out).mono ?_
      rintro e w6 ⟨rfl, hb6⟩
      have M6 := Lib.hid (M5.out.below hb6)
      have X6 := Lib.hid (X5.out.below hb6)
      have Y6 := Lib.hid (Y5.out.below hb6)
      have Q6 := Lib.hid (Q5.out.trans (hb6.mono Q5.out.size))
      clear hb6 c0 c1
      have c0 := X6.out.c0
      have c1 := X6.out.c1
      go_wp2_with fail
      refine (HRY.out _ M6.out Y6.out (HG.out _ Q6.out)).mono ?_
      rintro e w7 ⟨⟨b7, hok7, rfl⟩, hb7⟩
      obtain rfl : b7 = true := hok7.one HYA.out
      have Q7 := Lib.hid (Q6.out.trans (hb7.mono Q6.out.size))
      clear hb7 hok7
      go_wp2_with (go_at_call 20; refine (aliveR_any _).mono ?_; rintro e w' ⟨rfl, rfl⟩)
      go_ret
      exact ⟨rfl, Q7.out⟩
end Go.Proofs.Ytlbblfbiiceofaa

namespace Go.Proofs.Ytlbblfbiiceofaa
open Go.RowKit

theorem cntTo_congrR {p q : Nat → Bool} {n : Nat} (h : ∀ k, k < n → p k = q k) : cntTo p n = cntTo q n := by
  induction n with
  | zero => rfl
  | succ n ih => rw [cntTo, cntTo, ih (fun k hk => h k (by omega)), h n (by omega)]
/-- a table's marks counted row by row, and day by day -/
def sumRows (f : Nat → Nat → Bool) (D : Nat) : Nat → Int
  | 0 => 0
  | n + 1 => sumRows f D n + cntTo (f n) D
def sumDays (f : Nat → Nat → Bool) (n : Nat) : Nat → Int
  | 0 => 0
  | D + 1 => sumDays f n D + cntTo (fun j => f j D) n
theorem sumDays_zero (f : Nat → Nat → Bool) (D : Nat) : sumDays f 0 D = 0 := by
  induction D with
  | zero => rfl
  | succ D ih => simp [sumDays, ih, cntTo]
theorem sumDays_row (f : Nat → Nat → Bool) (n D : Nat) : sumDays f (n + 1) D = sumDays f n D + cntTo (f n) D := by
  induction D with
  | zero => rfl
  | succ D ih =>
    simp only [sumDays, cntTo, ih]
    split <;> omega
theorem sumRows_days (f : Nat → Nat → Bool) (n D : Nat) : sumRows f D n = sumDays f n D := by
  induction n with
  | zero => rw [sumDays_zero]; rfl
  | succ n ih => rw [sumRows, ih, sumDays_row]
theorem sumDays_const {f : Nat → Nat → Bool} {n D : Nat} {z : Int} (h : ∀ k, k < D → cntTo (fun j => f j k) n = z) : sumDays f n D = z * D := by
  induction D with
  | zero => simp [sumDays]
  | succ D ih =>
    rw [sumDays, ih (fun k hk => h k (by omega)), h D (by omega), Int.natCast_succ, Int.mul_add, Int.mul_one]
def letAt (xs : List ByteArray) (c : UInt8) (j d : Nat) : Bool := byteAt (xs.getD j ⟨#[]⟩) d == c
def rowCnt (xs : List ByteArray) (t : ByteArray) : Nat → Int
  | 0 => 0
  | k + 1 => rowCnt xs t k + countOf (xs.getD k ⟨#[]⟩) t
theorem rowCnt_succ {xs : List ByteArray} {t : ByteArray} {k : Nat} (h : k < xs.length) : rowCnt xs t (k + 1) = rowCnt xs t k + countOf xs[k] t := by
  simp [rowCnt, List.getD, h]
theorem rowCnt_sum {xs : List ByteArray} {t : ByteArray} (hr : rosterOk xs = true) (ht : letterOk t = true) : ∀ k, k ≤ xs.length → rowCnt xs t k = sumRows (letAt xs (byteAt t 0)) (daysOf xs) k := by
  intro k
  induction k with
  | zero => intro _; rfl
  | succ k ih =>
    intro hk
    have hk' : k < xs.length := by omega
    obtain ⟨h1, h2⟩ := roster_row hr k hk'
    rw [rowCnt_succ hk', ih (by omega), sumRows, countOf_yes h2 ht, h1]
    congr 1
    refine cntTo_congrR fun d _ => ?_
    simp [letAt, byteAt, List.getD, hk']
theorem dayCnt_col {xs : List ByteArray} {t : ByteArray} (hr : rosterOk xs = true) (ht : letterOk t = true) (d : Nat) (hd : d < daysOf xs) : cntTo (fun j => letAt xs (byteAt t 0) j d) xs.length = countOf (dayStr xs d) t := by
  rw [countOf_yes (dayStr_word hr d hd) ht, dayStr_size]
  refine cntTo_congrR fun j hj => ?_
  show letAt xs (byteAt t 0) j d = ((dayBytes xs d).toArray.toList.getD j 0 == byteAt t 0)
  simp [letAt, dayBytes, List.getD, hj]
theorem cover_rows {xs : List ByteArray} {l d : Int} (h : coverOk xs l d = true) : rosterOk xs = true ∧ rowCnt xs ⟨#[100]⟩ xs.length = l * daysOf xs ∧ rowCnt xs ⟨#[110]⟩ xs.length = d * daysOf xs := by
  obtain ⟨⟨hr, hn⟩, hc⟩ : (rosterOk xs = true ∧ needsOk l d = true) ∧ coverTo xs l d (daysOf xs) = true := by simpa [coverOk] using h
  have hall : ∀ k, k < daysOf xs → countOf (dayStr xs k) ⟨#[100]⟩ = l ∧ countOf (dayStr xs k) ⟨#[110]⟩ = d := by
    intro k hk
    have := List.all_eq_true.1 hc k (List.mem_range.2 hk)
    simpa [covers] using this
  refine ⟨hr, ?_, ?_⟩
  · rw [rowCnt_sum hr (by decide) _ (Nat.le_refl _), sumRows_days]
    exact sumDays_const fun k hk => by rw [dayCnt_col hr (by decide) k hk]; exact (hall k hk).1
  · rw [rowCnt_sum hr (by decide) _ (Nat.le_refl _), sumRows_days]
    exact sumDays_const fun k hk => by rw [dayCnt_col hr (by decide) k hk]; exact (hall k hk).2

set_option maxHeartbeats 6400000 in
theorem lawCoverOk_walk {w : World} (a : Option Addr) (len cap : Nat) (zs : List Int) (h : IsRow .u8 w a len cap zs) :
    Calls Try.prog 6 #[.slice a len cap] w fun e w' => e = .returned (.bool true) ∧ Below w.heap.size w w' := by
  have HD := Lib.hid (drawCoverOk_any a len cap zs w h)
  have hl := rowR_len h
  clear h
  by_cases hbig : 1048576 < len
  · go_enter Try.func6, Try.ntmps6
    go_wp2_with fail
    go_ret
    exact ⟨rfl, Below.refl _ _⟩
  go_enter Try.func6, Try.ntmps6
  go_wp2_with fail
  refine HD.out.mono ?_
  clear HD
  rintro e w1 ⟨xs, v, l, d, rfl, hs, hl1, hl2, hd1, hd2, hor, hb⟩
  obtain ⟨b, c, rfl, hc1, hc2, hI⟩ := drawnR_form hor
  have hx7 := hs.1
  have HSH := Lib.hid hs.short
  have HL := Lib.hid (show (Lit.int .i64 l).wf = true from WalkArith.wf_i64 (by omega))
  have HDD := Lib.hid (show (Lit.int .i64 d).wf = true from WalkArith.wf_i64 (by omega))
  have X1 := Lib.hid (NdBox.new w1 l d 29)
  have hal : Below w1.heap.size w1 (w1.alloc (.cells #[.int .i64 l, .int .i64 d] 29)) := (Below.refl _ _).alloc (Nat.le_refl _) _
  have I1 := Lib.hid (hI.below hal)
  have Q1 := Lib.hid (hb.alloc hb.size (.cells #[.int .i64 l, .int .i64 d] 29))
  have HB1 := Lib.hid (show w1.heap.size < (w1.alloc (.cells #[.int .i64 l, .int .i64 d] 29)).heap.size by simp)
  clear hI hor hb hs hal
  have HIM := Lib.hid (fun W hJ => implCoverOk_any (.slice b xs.length c) xs HSH.out l d HL.out HDD.out W hJ)
  have HSP := Lib.hid (fun W hJ => specCoverOk_any (.slice b xs.length c) xs HSH.out l d W hJ)
  go_wp2_with fail
  refine (HIM.out _ I1.out).mono ?_
  rintro e w2 ⟨rfl, hb2⟩
  have I2 := Lib.hid (I1.out.below hb2)
  have X2 := Lib.hid (X1.out.below hb2)
  have Q2 := Lib.hid (Q1.out.trans (hb2.mono Q1.out.size))
  have HB2 := Lib.hid (Nat.lt_of_lt_of_le HB1.out hb2.size)
  clear hb2 HIM HB1
  have c0 := X2.out.c0
  have c1 := X2.out.c1
  have hne : (coverOk xs l d == coverOk xs l d) = true := beq_iff_eq.2 rfl
  go_wp2_with fail
  refine (HSP.out _ I2.out).mono ?_
  rintro e w3 ⟨rfl, hb3⟩
  have I3 := Lib.hid (I2.out.below hb3)
  have X3 := Lib.hid (X2.out.below hb3)
  have Q3 := Lib.hid (Q2.out.trans (hb3.mono Q2.out.size))
  have HB3 := Lib.hid (Nat.lt_of_lt_of_le HB2.out hb3.size)
  clear hb3 HSP c0 c1 HB2
  generalize hb1g : w1.heap.size = nb at *
  cases hcv : coverOk xs l d with
  | false =>
    rw [hcv] at hne
    go_wp2_with (go_at_call 20; refine (aliveR_any _).mono ?_; rintro e w' ⟨rfl, rfl⟩)
    go_ret
    exact ⟨rfl, Q3.out⟩
  | true =>
    rw [hcv] at hne
    obtain ⟨hr, hs1, hs2⟩ := cover_rows hcv
    obtain ⟨hx1, hx4, hd12, hrows⟩ := rosterOk_iff.1 hr
    have h0 : 0 < xs.length := by omega
    have hd0 := daysOf_get (xs := xs) h0
    rw [hd0] at hs1 hs2
    have hsz : xs[0].size ≤ 12 := by omega
    have HT1 := Lib.hid hs1
    have HT2 := Lib.hid hs2
    have HST1 := Lib.hid (fun k (hk : k < xs.length) => rowCnt_succ (t := ⟨#[100]⟩) hk)
    have HST2 := Lib.hid (fun k (hk : k < xs.length) => rowCnt_succ (t := ⟨#[110]⟩) hk)
    have HCB : Hid (∀ k (hk : k < xs.length), (0 ≤ countOf xs[k] ⟨#[100]⟩ ∧ countOf xs[k] ⟨#[100]⟩ ≤ 12) ∧ (0 ≤ countOf xs[k] ⟨#[110]⟩ ∧ countOf xs[k] ⟨#[110]⟩ ≤ 12)) := by
      have : ∀ k (hk : k < xs.length), (0 ≤ countOf xs[k] ⟨#[100]⟩ ∧ countOf xs[k] ⟨#[100]⟩ ≤ 12) ∧ (0 ≤ countOf xs[k] ⟨#[110]⟩ ∧ countOf xs[k] ⟨#[110]⟩ ≤ 12) := fun k hk => by
        obtain ⟨e1, e2⟩ := roster_row hr k hk
        have g1 := countOf_bd (t := ⟨#[100]⟩) e2 (by decide)
        have g2 := countOf_bd (t := ⟨#[110]⟩) e2 (by decide)
        omega
      exact Lib.hid this
    have HEX : Hid (∀ W, IsStrs W (.slice b xs.length c) xs → Calls Try.prog 31 #[.slice b xs.length c, .int .i64 0, .int .i64 ((xs.length : Int) - 1)] W fun e w' => ∃ v2 : Value, e = .returned (.tuple #[v2, .bool (exchOk xs 0 ((xs.length : Int) - 1))]) ∧ w'.ownsRow W.heap.size 9 1 v2 (exch xs 0 ((xs.length : Int) - 1)).length ((exch xs 0 ((xs.length : Int) - 1)).map Value.string) ∧ Below W.heap.size W w') := Lib.hid (fun W hI => implExch_any (.slice b xs.length c) xs HSH.out 0 ((xs.length : Int) - 1) W hI)
    have HXC : Hid (exchOk xs 0 ((xs.length : Int) - 1) = true → coverOk (exch xs 0 ((xs.length : Int) - 1)) l d = true) := Lib.hid (fun h => by rw [exch_cover h l d]; exact hcv)
    obtain ⟨g, off, rfl, hg, hcl⟩ := I3.out.at h0
    have HCL := Lib.hid (fun W (hb : Below w3.heap.size w3 W) k (hk : k < xs.length) => (hb.cell (p := ⟨g, off + k, none⟩) hg).trans (hcl k hk))
    have HC0 : Hid (∀ W, Below w3.heap.size w3 W → W.cell? ⟨g, off, none⟩ = some (.string xs[0])) := Lib.hid (fun W hb => HCL.out W hb 0 h0)
    have HSK := Lib.hid (fun k (hk : k < xs.length) => HSH.out xs[k] (List.getElem_mem hk))
    have B3 := Lib.hid (Below.refl w3.heap.size w3)
    clear hcv hr hs1 hs2 hd12 hrows hd0 hg hcl hne
    go_wp2_with fail
    go_loopw [6, 7, 8] (fun sv tv iv wr => ∃ (k : Nat) (T U : Int), k ≤ xs.length ∧ iv = .int .i64 (k : Int) ∧ sv = .int .i64 T ∧ tv = .int .i64 U ∧ Hid (T = rowCnt xs ⟨#[100]⟩ k) ∧ Hid (U = rowCnt xs ⟨#[110]⟩ k) ∧ 0 ≤ T ∧ T ≤ 12 * k ∧ 0 ≤ U ∧ U ≤ 12 * k ∧ Hid (Below w3.heap.size w3 wr)) (fun _ _ iv _ => xs.length - (intOf iv).toNat)
    case atStart => exact ⟨0, 0, 0, Nat.zero_le _, rfl, rfl, rfl, Lib.hid rfl, Lib.hid rfl, by omega, by omega, by omega, by omega, B3⟩
    case round =>
      obtain ⟨k, T, U, hk, rfl, rfl, rfl, HT, HU, hT0, hT1, hU0, hU1, BB⟩ := hrel
      by_cases hlt : k < xs.length
      · have ck := HCL.out wr BB.out k hlt
        have HCK := Lib.hid (fun W (hb : Below w3.heap.size w3 W) => HCL.out W hb k hlt)
        obtain ⟨⟨hu0, hu1⟩, hv0, hv1⟩ := HCB.out k hlt
        have HK1 := Lib.hid (fun W => implCountOf_any xs[k] ⟨#[100]⟩ W (HSK.out k hlt) (by decide))
        have HK2 := Lib.hid (fun W => implCountOf_any xs[k] ⟨#[110]⟩ W (HSK.out k hlt) (by decide))
        have HN1 : Hid (T + countOf xs[k] ⟨#[100]⟩ = rowCnt xs ⟨#[100]⟩ (k + 1)) := Lib.hid (by rw [HST1.out k hlt, HT.out])
        have HN2 : Hid (U + countOf xs[k] ⟨#[110]⟩ = rowCnt xs ⟨#[110]⟩ (k + 1)) := Lib.hid (by rw [HST2.out k hlt, HU.out])
        generalize countOf xs[k] ⟨#[100]⟩ = u at *
        generalize countOf xs[k] ⟨#[110]⟩ = z at *
        generalize xs[k] = s at *
        go_wp2_with fail
        refine (HK1.out _).mono ?_
        rintro e w4 ⟨rfl, hb4⟩
        have B4 := Lib.hid (BB.out.trans (hb4.mono BB.out.size))
        clear hb4 ck
        have ck := HCK.out w4 B4.out
        go_wp2_with fail
        refine (HK2.out _).mono ?_
        rintro e w5 ⟨rfl, hb5⟩
        have B5 := Lib.hid (B4.out.trans (hb5.mono B4.out.size))
        clear hb5 ck
        go_wp2_with fail
        go_roundw
        case rel => exact ⟨k + 1, T + u, U + z, by omega, by go_num, rfl, rfl, HN1, HN2, by omega, by omega, by omega, by omega, B5⟩
        case measure => simp [intOf]; omega
      · obtain rfl : k = xs.length := by omega
        have hT2 : T ≤ 48 := by omega
        have hU2 : U ≤ 48 := by omega
        have HE1 : Hid (T = l * (xs[0].size : Int)) := Lib.hid (by rw [HT.out, HT1.out])
        have HE2 : Hid (U = d * (xs[0].size : Int)) := Lib.hid (by rw [HU.out, HT2.out])
        have HCA := Lib.hid (fun W hb => HC0.out W hb)
        clear hlt HT HU HST1 HST2 HCB HT1 HT2 hT1 hU1 HCL HC0 HSK
        generalize xs[0] = s0 at *
        have hw1 : IntKind.i64.wrap (l * (s0.size : Int)) = l * (s0.size : Int) := by rw [← HE1.out]; exact IntWalk.i64_in _ (by omega)
        have hw2 : IntKind.i64.wrap (d * (s0.size : Int)) = d * (s0.size : Int) := by rw [← HE2.out]; exact IntWalk.i64_in _ (by omega)
        have hq1 : (T == l * (s0.size : Int)) = true := beq_iff_eq.2 HE1.out
        have hq2 : (U == d * (s0.size : Int)) = true := beq_iff_eq.2 HE2.out
        have QB := Lib.hid (Q3.out.trans (BB.out.mono Q3.out.size))
        have XB := Lib.hid (X3.out.below (BB.out))
        go_wp2_with fail
        refine (HEX.out wr (I3.out.below BB.out)).mono ?_
        cases hx : exchOk xs 0 ((xs.length : Int) - 1) with
        | false =>
          rintro e w6 ⟨v2, rfl, ho2, hb6⟩
          have B6 := Lib.hid (BB.out.trans (hb6.mono BB.out.size))
          have X6 := Lib.hid (XB.out.below hb6)
          have Q6 := Lib.hid (QB.out.trans (hb6.mono QB.out.size))
          clear hb6 ho2 HXC hx
          have c0 := X6.out.c0
          have c1 := X6.out.c1
          have cA := HCA.out _ B6.out
          go_wp2_with fail
          go_quiet (first | (go_at_call 20; exact Calls.quiet_of_same ((aliveR_any _).mono fun _ _ ⟨h, g⟩ => ⟨h, g.symm⟩)))
          go_wp2_with fail
          go_ret
          exact ⟨rfl, below_drewN Q6.out _⟩
        | true =>
          have HYS := Lib.hid (exch_short hx)
          have HYC := Lib.hid (HXC.out hx)
          rintro e w6 ⟨v2, rfl, ho2, hb6⟩
          generalize exch xs 0 ((xs.length : Int) - 1) = ys at *
          obtain ⟨a2, c2, rfl, hc21, hc22, hI2⟩ := drawnR_form ho2
          have B6 := Lib.hid ((BB.out.trans (hb6.mono BB.out.size)).drew)
          have X6 := Lib.hid ((XB.out.below hb6).below (Below.refl _ _).drew)
          have Q6 := Lib.hid ((QB.out.trans (hb6.mono QB.out.size)).drew)
          have Y6 := Lib.hid (hI2.below (Below.refl _ _).drew)
          have HCY : Hid (∀ W, IsStrs W (.slice a2 ys.length c2) ys → Calls Try.prog 28 #[.slice a2 ys.length c2, .agg #[.int .i64 l, .int .i64 d]] W fun e w' => e = .returned (.bool true) ∧ Below W.heap.size W w') := by
            refine Lib.hid (fun W hI => (implCoverOk_any (.slice a2 ys.length c2) ys HYS.out l d HL.out HDD.out W hI).mono ?_)
            rintro e w' ⟨he, hb'⟩
            exact ⟨by rw [he, HYC.out], hb'⟩
          clear hb6 ho2 hI2 HXC hx
          go_wp2_with fail
          go_region_held3 (fun w' => w'.cell? ⟨nb, 0, none⟩ = some (.int .i64 l) ∧ w'.cell? ⟨nb, 1, none⟩ = some (.int .i64 d) ∧ w'.cell? ⟨g, off, none⟩ = some (.string s0))
            (first | (with_reducible exact ⟨X6.out.c0, X6.out.c1, HCA.out _ B6.out⟩) | (with_reducible exact ⟨X7.out.c0, X7.out.c1, HCA.out _ B7.out⟩))
            (first | (go_at_call 28; with_reducible refine (HCY.out _ Y6.out).mono ?_; rintro e w7 ⟨rfl, hb7⟩; have B7 := Lib.hid (B6.out.trans (hb7.mono B6.out.size)); have X7 := Lib.hid (X6.out.below hb7); have Q7 := Lib.hid (Q6.out.trans (hb7.mono Q6.out.size)); clear hb7) | (go_at_call 20; refine (aliveR_any _).mono ?_; rintro e w' ⟨rfl, rfl⟩))
          all_goals
            go_wp2_with fail
            go_ret
            exact ⟨rfl, Q7.out⟩
end Go.Proofs.Ytlbblfbiiceofaa
