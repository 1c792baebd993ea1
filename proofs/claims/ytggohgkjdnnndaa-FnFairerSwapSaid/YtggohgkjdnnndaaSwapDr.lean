/- What the laws of chapter 11 draw. No condition. -/
import Derived.Test.YtggohgkjdnnndaaRostDraw2
import Derived.Test.YtggohgkjdnnndaaSwapS
import Derived.Test.YtggohgkjdnnndaaAppOwn
namespace Go.Proofs.Ytggohgkjdnnndaa
open Go.RowKit

theorem results_tmp4D {fn : Func} {t u v x : Tmp} (h : fn.results = #[.tmp t, .tmp u, .tmp v, .tmp x]) (tmps : Array Value) (P : Program) (w : World) :
    (results fn tmps).run P w = .ok (.tuple #[tmps.getD t undef, tmps.getD u undef, tmps.getD v undef, tmps.getD x undef]) w := by
  simp [results, h]
theorem owns_apartD {w1 w2 : World} {base b n : Nat} {e : TypeId} {v : Value} {xs : List Value} (h : w1.ownsRow base e 1 v n xs) (hg : w1.grownBy w2 (some b)) (hb : ∀ g, v.ownBlock = some g → g ≠ b) : w2.ownsRow base e 1 v n xs := by
  refine ⟨h.1, h.2.imp id ?_⟩
  rintro ⟨g, cap, cur, rfl, h1, h2, h3⟩
  exact ⟨g, cap, cur, rfl, h1, (hg.block g (World.ownsRow.lt h g rfl).2 (fun e => hb g rfl (Option.some.inj e))).trans h2, h3⟩
theorem swap_small {xs : List ByteArray} (h : SmallR xs) {d a b : Int} (hok : swapOk xs d a b = true) : SmallR (swapd xs d a b) := by
  obtain ⟨h1, h2, h3, h4, h5⟩ := swapOk_iff.1 hok
  obtain ⟨r1, r2, r3⟩ := swap_roster hok
  refine ⟨by rw [r3]; exact h.1, fun s hs => ?_⟩
  rw [((rosterOk_iff.1 r1).2.2.2 s hs).1, r2]
  have h0 : 0 < xs.length := by omega
  rw [daysOf_get h0]
  exact h.2 _ (List.getElem_mem h0)

/-- a drawn roster, a day and two places -/
def SwGot (w : World) (e : Ending) (w' : World) : Prop := ∃ (xs : List ByteArray) (v : Value) (d f t : Int), e = .returned (.tuple #[v, .int .i64 d, .int .i64 f, .int .i64 t]) ∧ SmallR xs ∧ -1 ≤ d ∧ d ≤ 7 ∧ 0 ≤ f ∧ f ≤ 7 ∧ 0 ≤ t ∧ t ≤ 7 ∧ w'.ownsRow w.heap.size 9 1 v xs.length (xs.map Value.string) ∧ Below w.heap.size w w'

set_option maxHeartbeats 1600000 in
theorem drawSwapAt_any (a : Option Addr) (len cap : Nat) (zs : List Int) (w : World) (h : IsRow .u8 w a len cap zs) :
    Calls Try.prog 13 #[.slice a len cap] w (SwGot w) := by
  have HO := Lib.hid (l20Open_any a len cap zs _ h)
  clear h
  go_enter Try.func13, Try.ntmps13
  go_wp2_with fail
  refine HO.out.mono ?_
  clear HO
  rintro e w1 ⟨a1, len1, cap1, rfl, hR, hb1⟩
  have B1 := Lib.hid hb1
  have HRL := Lib.hid hR.hR
  clear hb1
  go_wp2_with fail
  refine (l20Roster_any _ _ a1 len1 cap1 0 12 w1 hR (by omega) (by omega) (by omega)).mono ?_
  rintro e w2 ⟨xs, v, rfl, hs, ho, k', hk1, hk2, hR2, hK2⟩
  obtain ⟨av, cv, rfl, hc1, hc2, -⟩ := drawnR_form ho
  have O2 := Lib.hid ho
  have K2 := Lib.hid hK2
  have hl5 := hs.1
  have hmax : max (xs.length : Int) 1 = ((max xs.length 1 : Nat) : Int) := by omega
  have HM : Hid (1 ≤ max xs.length 1 ∧ max xs.length 1 ≤ 5) := by
    have : 1 ≤ max xs.length 1 ∧ max xs.length 1 ≤ 5 := by omega
    exact Lib.hid this
  clear ho hK2 hR
  go_wp2_with fail
  refine (pick_any _ _ a1 len1 cap1 k' 7 w2 hR2 (by omega) (by omega) (by omega)).mono ?_
  rintro e w3 ⟨p, rfl, hp0, hp1, hR3, hK3⟩
  have hp8 := hp1 (by omega)
  have O3 := Lib.hid (owns_keepsR O2.out hK3 HRL.out)
  have K3 := Lib.hid (K2.out.trans hK3)
  clear hp1 hK3 hR2
  go_wp2_with fail
  refine (pick_any _ _ a1 len1 cap1 (k' + 1) 30 w3 hR3 (by omega) (by omega) (by omega)).mono ?_
  rintro e w4 ⟨q, rfl, hq0, hq1, hR4, hK4⟩
  have hq30 := hq1 (by omega)
  have O4 := Lib.hid (owns_keepsR O3.out hK4 HRL.out)
  have K4 := Lib.hid (K3.out.trans hK4)
  have hqd : q.tdiv 29 = q / 29 := Int.tdiv_eq_ediv_of_nonneg hq0
  clear hq1 hK4 hR3
  go_wp2_with fail
  refine (pick_any _ _ a1 len1 cap1 (k' + 1 + 1) _ w4 hR4 (by omega) (by omega) (by omega)).mono ?_
  rintro e w5 ⟨r, rfl, hr0, hr1, hR5, hK5⟩
  have hr5 := hr1 (by omega)
  have O5 := Lib.hid (owns_keepsR O4.out hK5 HRL.out)
  have K5 := Lib.hid (K4.out.trans hK5)
  clear hr1 hK5 hR4
  go_wp2_with fail
  refine (pick_any _ _ a1 len1 cap1 (k' + 1 + 1 + 1) ((xs.length : Int) + 1) w5 hR5 (by omega) (by omega) (by omega)).mono ?_
  rintro e w6 ⟨z, rfl, hz0, hz1, hR6, hK6⟩
  have hz6 := hz1 (by omega)
  have O6 := Lib.hid (owns_keepsR O5.out hK6 HRL.out)
  have K6 := Lib.hid (K5.out.trans hK6)
  clear hz1 hK6 hR5 hR6
  have HW := Lib.hid (ownsRow_base (B := w.heap.size) O6.out (fun k e => Nat.le_trans B1.out.size (World.ownsRow.lt O6.out k e).1))
  have HQ := Lib.hid (B1.out.trans (K6.out.below (Nat.le_refl _) B1.out.size))
  have hrm : r ≤ 5 := by have := HM.out; omega
  go_wp2_with fail
  (try simp only [Exit.inBlock, Exit.then])
  refine bodyPost_ret (results_tmp4D rfl _ _ _) rfl ?_
  exact ⟨xs, _, p - q / 29, r, z, rfl, hs, by omega, by omega, by omega, by omega, by omega, by omega, HW.out, HQ.out⟩

/-- strings are put behind an empty row of one's own -/
theorem wpList_append_strs {w : World} {ops : Array Oper} {rest : List Oper} {o : Oper} {a : Act} {Q : Exit → Act → World → Prop} (hgd : o.guard = none) (s x : Operand)
    (ho : o.op = .call { callee := .builtin .append, args := #[s, x], argTypes := #[23, 23] })
    (base g : Nat) (hs : a.eval s = .slice (some ⟨g, 0, none⟩) 0 0) (hown : w.ownsRow base 9 1 (.slice (some ⟨g, 0, none⟩) 0 0) 0 [])
    (xs : List ByteArray) (p : Option Addr) (c : Nat) (hx : a.eval x = .slice p xs.length c) (src : IsStrs w (.slice p xs.length c) xs) (hm2 : xs.length ≤ 1000) (hbase : base ≤ w.heap.size)
    (h : ∀ g' c' w', w'.ownsRow base 9 1 (.slice (some ⟨g', 0, none⟩) xs.length c') xs.length (xs.map Value.string) → w.grownBy w' (some g) → wpList Try.prog ops Q rest (a.put o.dst (.slice (some ⟨g', 0, none⟩) xs.length c')) w') :
    wpList Try.prog ops Q (o :: rest) a w := by
  obtain ⟨i0, hi0, hz0, hz1, hz2⟩ := info_parts infoStrC
  by_cases hz : xs.length = 0
  · obtain rfl : xs = [] := List.eq_nil_of_length_eq_zero hz
    exact wpList_append_zero hgd s x 23 ho base 9 i0 1 Try.underlying23 hi0 _ 0 _ hs hown p c hx (h g 0 w hown (grown_row (Below.refl _ _) _))
  · obtain ⟨g1, o1, rfl, hg1, hd1⟩ := src.at (by omega)
    refine wpList_append_lies w hgd s x 23 ho base 9 i0 (.string ⟨#[]⟩) 1 16 Try.underlying23 hi0 hz0 hz1 hz2 rfl (by decide) _ 0 [] hs hown ⟨g1, o1, none⟩ xs.length c (xs.map Value.string) hx (by rw [List.length_map, Nat.mul_one]) (fun j u hj => ?_)
      (fun u hu => by obtain ⟨y, _, rfl⟩ := List.mem_map.1 hu; rfl) (by omega) (by unfold maxLen; omega) (by omega) hbase w.heap.size rfl ?_
    · have hjl : j < xs.length := by
        have := (List.getElem?_eq_some_iff.1 hj).1
        simpa using this
      rw [Addr.add_lit, hd1 j hjl, ← hj]
      simp [hjl]
    · intro g' c' w' hown' hgrow hat hlt
      rw [Nat.zero_add, List.nil_append] at hown'
      rw [Nat.zero_add]
      exact h g' c' w' hown' hgrow

/-- what drawing two rosters leaves -/
def SwpDrawn (R : Nat) (w : World) (e : Ending) (w' : World) : Prop :=
  ∃ (xs ys : List ByteArray) (u v : Value), e = .returned (.tuple #[u, v]) ∧ SmallR xs ∧ SmallR ys ∧ w'.ownsRow w.heap.size 9 1 u xs.length (xs.map Value.string) ∧ w'.ownsRow w.heap.size 9 1 v ys.length (ys.map Value.string) ∧ KeepsBut R w w'
theorem KeepsBut.grownD {R : Nat} {w0 w w' : World} {b : Nat} (h : KeepsBut R w0 w) (hg : w.grownBy w' (some b)) (hb : w0.heap.size ≤ b) : KeepsBut R w0 w' :=
  ⟨hg.os.trans h.os, hg.tape.trans h.tape, hg.output.trans h.output, Nat.le_trans h.size hg.size, fun k hk hr => (hg.block k (Nat.lt_of_lt_of_le hk h.size) (by simp; omega)).trans (h.block k hk hr)⟩
/-- two rosters, drawn, and the reader -/
structure TwoAt (B R : Nat) (a : Option Addr) (len cap k : Nat) (w0 : World) (u v : Value) (xs ys : List ByteArray) (w : World) : Prop where
  rd : RdAt B R a len cap k w
  keep : KeepsBut R w0 w
  x : w.ownsRow w0.heap.size 9 1 u xs.length (xs.map Value.string)
  y : w.ownsRow w0.heap.size 9 1 v ys.length (ys.map Value.string)
  sx : SmallR xs
  sy : SmallR ys
  hR : R < w0.heap.size
theorem TwoAt.picked {B R : Nat} {a : Option Addr} {len cap k k' : Nat} {w0 w w' : World} {u v : Value} {xs ys : List ByteArray} (h : TwoAt B R a len cap k w0 u v xs ys w) (hr : RdAt B R a len cap k' w') (hk : KeepsBut R w w') : TwoAt B R a len cap k' w0 u v xs ys w' :=
  ⟨hr, h.keep.trans hk, owns_keepsR h.x hk h.hR, owns_keepsR h.y hk h.hR, h.sx, h.sy, h.hR⟩
theorem TwoAt.below {B R : Nat} {a : Option Addr} {len cap k : Nat} {w0 w w' : World} {u v : Value} {xs ys : List ByteArray} (h : TwoAt B R a len cap k w0 u v xs ys w) (hb : Below w.heap.size w w') : TwoAt B R a len cap k w0 u v xs ys w' :=
  h.picked (h.rd.keeps hb) (KeepsBut.of_below hb)
theorem TwoAt.new {B R : Nat} {a : Option Addr} {len cap k : Nat} {w0 w w' : World} {u v z : Value} {xs ys zs : List ByteArray} (h : TwoAt B R a len cap k w0 u v xs ys w) (hb : Below w.heap.size w w') (ho : w'.ownsRow w.heap.size 9 1 z zs.length (zs.map Value.string)) (hs : SmallR zs) : TwoAt B R a len cap k w0 u z xs zs w' :=
  have h1 := h.below hb
  ⟨h1.rd, h1.keep, h1.x, ownsRow_base ho (fun j e => Nat.le_trans h.keep.size (World.ownsRow.lt ho j e).1), h1.sx, hs, h.hR⟩

set_option maxHeartbeats 6400000 in
theorem l20Swapped_any (B R : Nat) (a : Option Addr) (len cap k : Nat) (w : World) (H : RdAt B R a len cap k w) (hk : k ≤ 800000) :
    Calls Try.prog 62 #[.pointer (some ⟨R, 0, none⟩)] w (SwpDrawn R w) := by
  have HRR := Lib.hid H.hR
  have HC := Lib.hid (l20Roster_any B R a len cap k 14 w H (by omega) (by omega) (by omega))
  clear H
  go_enter Try.func62, Try.ntmps62
  go_wp2_with fail
  refine HC.out.mono ?_
  clear HC
  rintro e w1 ⟨xs, u, rfl, hs, ho, k1, hk1, hk2, hR1, hK1⟩
  obtain ⟨au, cu, rfl, hc1, hc2, hI⟩ := drawnR_form ho
  have X1 := Lib.hid ho
  have K1 := Lib.hid hK1
  have R1 := Lib.hid hR1
  have HS := Lib.hid hs
  have hl5 := hs.1
  have HI1 := Lib.hid hI
  clear ho hK1 hR1 hs hI
  go_wp2_with (at_builtin; refine wpList_append_strs rfl _ _ rfl w.heap.size w1.heap.size rfl (World.ownsRow_lit (base := w.heap.size) w1 #[] 0 K1.out.size (Nat.zero_le _) rfl) xs au cu rfl (HI1.out.below ((Below.refl _ _).alloc (Nat.le_refl _) _)) (by omega) (Nat.le_trans K1.out.size (by simp)) ?_; intro g3 c3 w2 hown hgrow; have O2 : Hid (TwoAt B R a len cap k1 w (.slice au xs.length cu) (.slice (some ⟨g3, 0, none⟩) xs.length c3) xs xs w2) := Lib.hid ⟨(R1.out.keeps ((Below.refl _ _).alloc (Nat.le_refl _) (.cells #[] 9))).grown hgrow (fun j e => by cases e; exact Nat.lt_of_lt_of_le HRR.out K1.out.size), (K1.out.alloc (.cells #[] 9)).grownD hgrow K1.out.size, owns_apartD (owns_belowS X1.out ((Below.refl _ _).alloc (Nat.le_refl _) (.cells #[] 9))) hgrow (fun q e => Nat.ne_of_lt (World.ownsRow.lt X1.out q e).2), hown, HS.out, HS.out, HRR.out⟩; clear hown hgrow)
  refine (pick_any B R a len cap k1 6 _ O2.out.rd (by omega) (by omega) (by omega)).mono ?_
  rintro e w3 ⟨v3, rfl, h30, h31, hR3, hK3⟩
  have h31' := h31 (by omega)
  have O3 := Lib.hid (O2.out.picked hR3 hK3)
  clear hR3 hK3 h31 O2 X1 K1 R1 HI1
  go_wp2_with fail
  go_loopw [5, 6, 7, 8] (fun yv kv _ _ wr => ∃ (ys : List ByteArray) (ay : Option Addr) (cy : Nat) (kk : Int) (q : Nat), yv = .slice ay ys.length cy ∧ kv = .int .i64 kk ∧ 0 ≤ kk ∧ kk ≤ 5 ∧ (q : Int) + 3 * kk ≤ k + 60 ∧ Hid (TwoAt B R a len cap q w (.slice au xs.length cu) (.slice ay ys.length cy) xs ys wr)) (fun _ kv _ _ _ => (intOf kv).toNat)
  case atStart => exact ⟨xs, some ⟨g3, 0, none⟩, c3, v3, k1 + 1, rfl, rfl, h30, by omega, by omega, O3⟩
  case round =>
    clear O3
    obtain ⟨ys, ay, cy, kk, q, rfl, rfl, hk0, hk5, hq, HO⟩ := hrel
    have hy5 := HO.out.sy.1
    have HYS := Lib.hid (HO.out.sy.short)
    have HIY := Lib.hid (IsStrs.of_owns HO.out.y)
    obtain ⟨wo, rfl⟩ : ∃ wo : World, wo = wr := ⟨_, rfl⟩
    by_cases hkk : 0 < kk
    · cases hr : rosterOk ys with
      | false =>
        have HR := Lib.hid (fun W hI => specRosterOk_any (.slice ay ys.length cy) ys HYS.out W hI)
        rw [hr] at HR
        clear hr
        go_wp2_with fail
        refine (HR.out _ HIY.out).mono ?_
        rintro e w4 ⟨rfl, hb4⟩
        have O4 := Lib.hid (HO.out.below hb4)
        clear hb4 HO
        go_wp2_with fail
        refine (odd_any B R a len cap q 9 _ O4.out.rd (by omega) (by omega) (by omega)).mono ?_
        rintro e w5 ⟨b, rfl, hR5, hK5⟩
        have O5 := Lib.hid (O4.out.picked hR5 hK5)
        clear hR5 hK5 O4
        cases b with
        | false =>
          go_wp2_with fail
          go_ret2
          exact ⟨xs, ys, _, _, rfl, O5.out.sx, O5.out.sy, O5.out.x, O5.out.y, O5.out.keep⟩
        | true =>
          go_wp2_with fail
          refine (l20Roster_any B R a len cap (q + 1) 9 _ O5.out.rd (by omega) (by omega) (by omega)).mono ?_
          rintro e w6 ⟨zs, z, rfl, hs6, ho6, q6, -, -, hR6, hK6⟩
          have O6 := Lib.hid (O5.out.picked hR6 hK6)
          have HZ6 := Lib.hid (ownsRow_base ho6 (B := w.heap.size) (fun j e => Nat.le_trans O5.out.keep.size (World.ownsRow.lt ho6 j e).1))
          clear ho6 hR6 hK6 O5
          go_wp2_with fail
          go_ret2
          exact ⟨xs, zs, _, _, rfl, O6.out.sx, hs6, O6.out.x, HZ6.out, O6.out.keep⟩
      | true =>
        have HR := Lib.hid (fun W hI => specRosterOk_any (.slice ay ys.length cy) ys HYS.out W hI)
        rw [hr] at HR
        have h10 := (rosterOk_iff.1 hr).1
        have k1 : 0 < ys.length := h10
        obtain ⟨gy, oy, rfl, hgy, hdy⟩ := HIY.out.at k1
        have e0 := hdy 0 k1
        have hs10 : ys[0].size ≤ 10 := HO.out.sy.2 _ (List.getElem_mem k1)
        clear hr hdy
        generalize ys[0] = s0 at *
        go_wp2_with fail
        refine (HR.out _ HIY.out).mono ?_
        rintro e w4 ⟨rfl, hb4⟩
        have c0 := (hb4.cell (p := ⟨gy, oy, none⟩) hgy).trans e0
        have O4 := Lib.hid (HO.out.below hb4)
        clear hb4 HO e0 hgy
        go_wp2_with fail
        clear c0
        refine (pick_any B R a len cap q ((s0.size : Int) + 1) _ O4.out.rd (by omega) (by omega) (by omega)).mono ?_
        rintro e w5 ⟨p1, rfl, hp0, hp1, hR5, hK5⟩
        have O5 := Lib.hid (O4.out.picked hR5 hK5)
        have hp1' := hp1 (by omega)
        clear hR5 hK5 O4 hp1
        go_wp2_with fail
        refine (pick_any B R a len cap (q + 1) (ys.length : Int) _ O5.out.rd (by omega) (by omega) (by omega)).mono ?_
        rintro e w6 ⟨p2, rfl, hp20, hp21, hR6, hK6⟩
        have O6 := Lib.hid (O5.out.picked hR6 hK6)
        have hp2' := hp21 (by omega)
        clear hR6 hK6 O5 hp21
        go_wp2_with fail
        refine (pick_any B R a len cap (q + 1 + 1) (ys.length : Int) _ O6.out.rd (by omega) (by omega) (by omega)).mono ?_
        rintro e w7 ⟨p3, rfl, hp30, hp31, hR7, hK7⟩
        have O7 := Lib.hid (O6.out.picked hR7 hK7)
        have hp3' := hp31 (by omega)
        clear hR7 hK7 O6 hp31
        have HSW := Lib.hid (specSwap_any (.slice (some ⟨gy, oy, none⟩) ys.length cy) ys HYS.out p1 p2 p3 w7 (IsStrs.of_owns O7.out.y))
        cases hok : swapOk ys p1 p2 p3 with
        | false =>
          rw [hok, swapd_no hok] at HSW
          clear hok
          go_wp2_with fail
          refine HSW.out.mono ?_
          rintro e w8 ⟨z, rfl, -, hb8⟩
          have O8 := Lib.hid (O7.out.below hb8)
          clear hb8 O7
          go_wp2_with fail
          go_roundw
          case rel => exact ⟨ys, some ⟨gy, oy, none⟩, cy, kk - 1, q + 1 + 1 + 1, rfl, by first | rfl | go_num, by omega, by omega, by omega, O8⟩
          case measure => simp [intOf]; omega
        | true =>
          have HSM := Lib.hid (swap_small O7.out.sy hok)
          rw [hok] at HSW
          clear hok
          generalize swapd ys p1 p2 p3 = zs at *
          go_wp2_with fail
          refine HSW.out.mono ?_
          rintro e w8 ⟨z, rfl, ho8, hb8⟩
          obtain ⟨az, cz, rfl, -, -, -⟩ := drawnR_form ho8
          have O8 := Lib.hid (O7.out.new hb8 ho8 HSM.out)
          clear hb8 ho8 O7
          go_wp2_with fail
          go_roundw
          case rel => exact ⟨zs, az, cz, kk - 1, q + 1 + 1 + 1, rfl, by first | rfl | go_num, by omega, by omega, by omega, O8⟩
          case measure => simp [intOf]; omega
    · go_wp2_with fail
      refine (odd_any B R a len cap q 9 _ HO.out.rd (by omega) (by omega) (by omega)).mono ?_
      rintro e w5 ⟨b, rfl, hR5, hK5⟩
      have O5 := Lib.hid (HO.out.picked hR5 hK5)
      clear hR5 hK5 HO
      cases b with
      | false =>
        go_wp2_with fail
        go_ret2
        exact ⟨xs, ys, _, _, rfl, O5.out.sx, O5.out.sy, O5.out.x, O5.out.y, O5.out.keep⟩
      | true =>
        go_wp2_with fail
        refine (l20Roster_any B R a len cap (q + 1) 9 _ O5.out.rd (by omega) (by omega) (by omega)).mono ?_
        rintro e w6 ⟨zs, z, rfl, hs6, ho6, q6, -, -, hR6, hK6⟩
        have O6 := Lib.hid (O5.out.picked hR6 hK6)
        have HZ6 := Lib.hid (ownsRow_base ho6 (B := w.heap.size) (fun j e => Nat.le_trans O5.out.keep.size (World.ownsRow.lt ho6 j e).1))
        clear ho6 hR6 hK6 O5
        go_wp2_with fail
        go_ret2
        exact ⟨xs, zs, _, _, rfl, O6.out.sx, hs6, O6.out.x, HZ6.out, O6.out.keep⟩

/-- two drawn rosters -/
def SwpGot (w : World) (e : Ending) (w' : World) : Prop := ∃ (xs ys : List ByteArray) (u v : Value), e = .returned (.tuple #[u, v]) ∧ SmallR xs ∧ SmallR ys ∧ w'.ownsRow w.heap.size 9 1 u xs.length (xs.map Value.string) ∧ w'.ownsRow w.heap.size 9 1 v ys.length (ys.map Value.string) ∧ Below w.heap.size w w'

set_option maxHeartbeats 1600000 in
theorem drawSwapsBetween_any (a : Option Addr) (len cap : Nat) (zs : List Int) (w : World) (h : IsRow .u8 w a len cap zs) :
    Calls Try.prog 22 #[.slice a len cap] w (SwpGot w) := by
  have HO := Lib.hid (l20Open_any a len cap zs _ h)
  clear h
  go_enter Try.func22, Try.ntmps22
  go_wp2_with fail
  refine HO.out.mono ?_
  clear HO
  rintro e w1 ⟨a1, len1, cap1, rfl, hR, hb1⟩
  have B1 := Lib.hid hb1
  clear hb1
  go_wp2_with fail
  refine (l20Swapped_any _ _ a1 len1 cap1 0 w1 hR (by omega)).mono ?_
  rintro e w2 ⟨xs, ys, u, v, rfl, hs, ht, ho, hp, hK⟩
  have HQ := Lib.hid (B1.out.trans (hK.below (Nat.le_refl _) B1.out.size))
  have HX := Lib.hid (ownsRow_base ho (B := w.heap.size) (fun k e => Nat.le_trans B1.out.size (World.ownsRow.lt ho k e).1))
  have HY := Lib.hid (ownsRow_base hp (B := w.heap.size) (fun k e => Nat.le_trans B1.out.size (World.ownsRow.lt hp k e).1))
  clear ho hp hK hR
  go_wp2_with fail
  go_ret2
  exact ⟨xs, ys, _, _, rfl, hs, ht, HX.out, HY.out, HQ.out⟩

set_option maxHeartbeats 1600000 in
theorem drawChangesOf_any (a : Option Addr) (len cap : Nat) (zs : List Int) (w : World) (h : IsRow .u8 w a len cap zs) :
    Calls Try.prog 25 #[.slice a len cap] w (SwpGot w) := by
  have HO := Lib.hid (l20Open_any a len cap zs _ h)
  clear h
  go_enter Try.func25, Try.ntmps25
  go_wp2_with fail
  refine HO.out.mono ?_
  clear HO
  rintro e w1 ⟨a1, len1, cap1, rfl, hR, hb1⟩
  have B1 := Lib.hid hb1
  clear hb1
  go_wp2_with fail
  refine (l20Swapped_any _ _ a1 len1 cap1 0 w1 hR (by omega)).mono ?_
  rintro e w2 ⟨xs, ys, u, v, rfl, hs, ht, ho, hp, hK⟩
  have HQ := Lib.hid (B1.out.trans (hK.below (Nat.le_refl _) B1.out.size))
  have HX := Lib.hid (ownsRow_base ho (B := w.heap.size) (fun k e => Nat.le_trans B1.out.size (World.ownsRow.lt ho k e).1))
  have HY := Lib.hid (ownsRow_base hp (B := w.heap.size) (fun k e => Nat.le_trans B1.out.size (World.ownsRow.lt hp k e).1))
  clear ho hp hK hR
  go_wp2_with fail
  go_ret2
  exact ⟨xs, ys, _, _, rfl, hs, ht, HX.out, HY.out, HQ.out⟩

/-- a drawn roster and a letter -/
def LetGotR (w : World) (e : Ending) (w' : World) : Prop := ∃ (xs : List ByteArray) (v : Value) (t : ByteArray), e = .returned (.tuple #[v, .string t]) ∧ SmallR xs ∧ t.size ≤ 23 ∧ w'.ownsRow w.heap.size 9 1 v xs.length (xs.map Value.string) ∧ Below w.heap.size w w'

set_option maxHeartbeats 1600000 in
theorem drawLoadsOf_any (a : Option Addr) (len cap : Nat) (zs : List Int) (w : World) (h : IsRow .u8 w a len cap zs) :
    Calls Try.prog 27 #[.slice a len cap] w (LetGotR w) := by
  have HO := Lib.hid (l20Open_any a len cap zs _ h)
  clear h
  go_enter Try.func27, Try.ntmps27
  go_wp2_with fail
  refine HO.out.mono ?_
  clear HO
  rintro e w1 ⟨a1, len1, cap1, rfl, hR, hb1⟩
  have B1 := Lib.hid hb1
  have HRL := Lib.hid hR.hR
  clear hb1
  go_wp2_with fail
  refine (l20Roster_any _ _ a1 len1 cap1 0 12 w1 hR (by omega) (by omega) (by omega)).mono ?_
  rintro e w2 ⟨xs, v, rfl, hs, ho, k', hk1, hk2, hR2, hK2⟩
  have O2 := Lib.hid ho
  have K2 := Lib.hid hK2
  clear ho hK2 hR
  go_wp2_with fail
  refine (l20Letter_any _ _ a1 len1 cap1 k' 12 w2 hR2 (by omega) (by omega) (by omega)).mono ?_
  rintro e w3 ⟨t, rfl, ht, k'', -, -, hR3, hK3⟩
  have O3 := Lib.hid (owns_keepsR O2.out hK3 HRL.out)
  have K3 := Lib.hid (K2.out.trans hK3)
  clear hK3 hR2 hR3
  have HW := Lib.hid (ownsRow_base (B := w.heap.size) O3.out (fun k e => Nat.le_trans B1.out.size (World.ownsRow.lt O3.out k e).1))
  have HQ := Lib.hid (B1.out.trans (K3.out.below (Nat.le_refl _) B1.out.size))
  go_wp2_with fail
  go_ret2
  exact ⟨xs, _, t, rfl, hs, ht, HW.out, HQ.out⟩

set_option maxHeartbeats 1600000 in
theorem drawFairerSwap_any (a : Option Addr) (len cap : Nat) (zs : List Int) (w : World) (h : IsRow .u8 w a len cap zs) :
    Calls Try.prog 31 #[.slice a len cap] w (LetGotR w) := by
  have HO := Lib.hid (l20Open_any a len cap zs _ h)
  clear h
  go_enter Try.func31, Try.ntmps31
  go_wp2_with fail
  refine HO.out.mono ?_
  clear HO
  rintro e w1 ⟨a1, len1, cap1, rfl, hR, hb1⟩
  have B1 := Lib.hid hb1
  have HRL := Lib.hid hR.hR
  clear hb1
  go_wp2_with fail
  refine (l20Roster_any _ _ a1 len1 cap1 0 12 w1 hR (by omega) (by omega) (by omega)).mono ?_
  rintro e w2 ⟨xs, v, rfl, hs, ho, k', hk1, hk2, hR2, hK2⟩
  have O2 := Lib.hid ho
  have K2 := Lib.hid hK2
  clear ho hK2 hR
  go_wp2_with fail
  refine (l20Letter_any _ _ a1 len1 cap1 k' 12 w2 hR2 (by omega) (by omega) (by omega)).mono ?_
  rintro e w3 ⟨t, rfl, ht, k'', -, -, hR3, hK3⟩
  have O3 := Lib.hid (owns_keepsR O2.out hK3 HRL.out)
  have K3 := Lib.hid (K2.out.trans hK3)
  clear hK3 hR2 hR3
  have HW := Lib.hid (ownsRow_base (B := w.heap.size) O3.out (fun k e => Nat.le_trans B1.out.size (World.ownsRow.lt O3.out k e).1))
  have HQ := Lib.hid (B1.out.trans (K3.out.below (Nat.le_refl _) B1.out.size))
  go_wp2_with fail
  go_ret2
  exact ⟨xs, _, t, rfl, hs, ht, HW.out, HQ.out⟩
end Go.Proofs.Ytggohgkjdnnndaa
