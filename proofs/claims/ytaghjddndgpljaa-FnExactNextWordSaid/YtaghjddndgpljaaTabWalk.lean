/- impl's words by their places, over a table: (wordCounts).takenBefore, (wordCounts).wordAt. No condition. -/
import Derived.Test.YtaghjddndgpljaaImplCounts
namespace Go.Proofs.Ytaghjddndgpljaa
open Go.RowKit

theorem M.rank_cons (m : M) (s : Int) (word : ByteArray) (k : Nat) (h : k < word.size) :
    m.rank s (word.data.toList.drop k) = m.waysTo (word.size - 1 - k) s (letterOf (word[k].toNat : Int)).toNat + m.rank (m.nx s (letterOf (word[k].toNat : Int))) (word.data.toList.drop (k + 1)) := by
  have hl : k < word.data.toList.length := by rw [len_data]; exact h
  rw [List.drop_eq_getElem_cons hl, M.rank, List.length_drop, len_data]
  have e : word.data.toList[k] = word[k] := rfl
  rw [e, show word.size - (k + 1) = word.size - 1 - k by omega]
theorem ret_intZ {a b : Int} (h : a = b) : Ending.returned (.int .i64 a) = .returned (.int .i64 b) := by rw [h]

set_option maxHeartbeats 3200000 in
theorem implRank_any (m : M) (N : Nat) (word : ByteArray) (nv ev tv : Value) (w : World) (hi : IsInts w nv m.next) (ht : IsTab w tv m N) (hm : m.ok = true) (hw : wordOk word = true) (hN : word.size ≤ N) (hN2 : N ≤ 10) :
    Calls Try.prog 98 #[.agg #[.int .i64 m.st, nv, ev, tv], .string word] w fun e w' => e = .returned (.int .i64 (m.rank 0 word.data.toList)) ∧ Below w.heap.size w w' := by
  have X0 := Lib.hid (CtBox.new (ev := ev) 94 hi ht)
  have q0 : Hid (Below w.heap.size w (w.alloc (.cells #[.int .i64 m.st, nv, ev, tv] 94))) := Lib.hid ((Below.refl _ _).alloc (Nat.le_refl _) _)
  have HK := Lib.hid hm
  have HW := Lib.hid hw
  have hrk := m.rank_bd 0 word.data.toList (wordOk_all hw)
  have htk := m.took_bd 0 word.data.toList
  have hwb := m.ways_bd word.data.toList.length 0 (by rw [len_data]; omega)
  have HBD := Lib.hid (show 0 ≤ m.rank 0 word.data.toList ∧ m.rank 0 word.data.toList ≤ 59049 by omega)
  have h10 : word.size ≤ 10 := by omega
  have HN := Lib.hid hN
  have HN2 := Lib.hid hN2
  clear hi ht hm hw hrk htk hwb hN hN2
  go_enter Try.func98, Try.ntmps98
  go_upto_region 1 with fail
  generalize (w.alloc (.cells #[.int .i64 m.st, nv, ev, tv] 94)) = W0 at *
  generalize hR : w.heap.size = R at *
  have HR := Lib.hid hR
  clear hR
  go_wp2_with fail
  go_loopw [5, 6, 12] (fun sv bv i wr => ∃ (k : Nat) (B : Int), k ≤ word.size ∧ i = .int .i64 (k : Int) ∧ sv = .int .i64 (m.goes 0 (word.data.toList.take k)) ∧ bv = .int .i64 B ∧ 0 ≤ B ∧ B + m.rank (m.goes 0 (word.data.toList.take k)) (word.data.toList.drop k) = m.rank 0 word.data.toList ∧ CtBox R m N nv ev tv wr ∧ Below R w wr) (fun _ _ i _ => word.size - (intOf i).toNat)
  case atStart => exact ⟨0, 0, Nat.zero_le _, rfl, rfl, rfl, Int.le_refl _, by rw [Int.zero_add]; rfl, X0.out, q0.out⟩
  case round =>
    obtain ⟨k, B, hkk, rfl, rfl, rfl, hB0, hBR, hX, hQ⟩ := hrel
    have X1 := Lib.hid hX
    have Q1 := Lib.hid hQ
    have HBR := Lib.hid hBR
    clear hX hQ hBR X0
    by_cases hlt : k < word.size
    · have HSTEP := Lib.hid (M.goes_snoc m 0 word k hlt)
      have hbd := goes_step_le (s := 0) HK.out HW.out (by omega) (by have := M.ok_shape HK.out; omega) k
      have hL := wordOk_at HW.out k hlt
      have hlb := letter_bd hL
      have HC := Lib.hid (idxLetter_any word[k] hL)
      have HRC := Lib.hid (m.rank_cons (m.goes 0 (word.data.toList.take k)) word k hlt)
      have hrk2 := m.rank_bd (m.nx (m.goes 0 (word.data.toList.take k)) (letterOf (word[k].toNat : Int))) (word.data.toList.drop (k + 1)) (by
        have h := wordOk_all HW.out
        simp only [allL, List.all_eq_true] at h ⊢
        exact fun x hx => h x (List.mem_of_mem_drop hx))
      have HRK := Lib.hid hrk2.1
      clear hL hrk2
      generalize hlv : letterOf (word[k].toNat : Int) = lv at *
      have HLV := Lib.hid hlv
      obtain ⟨lt, rfl⟩ := Int.eq_ofNat_of_zero_le hlb.1
      rw [Int.toNat_natCast] at HRC
      generalize hpv : m.goes 0 (word.data.toList.take k) = p at *
      clear hlv hpv
      go_wp2_with (go_at_call 123; refine (HC.out _).mono ?_; rintro e w7 ⟨rfl, rfl⟩)
      go_loopw [6, 20] (fun bv i wr => ∃ (l : Nat) (B2 : Int), l ≤ lt ∧ i = .int .i64 (l : Int) ∧ bv = .int .i64 B2 ∧ B2 = B + m.waysTo (word.size - 1 - k) p l ∧ CtBox R m N nv ev tv wr ∧ Below R w wr) (fun _ i _ => lt - (intOf i).toNat)
      case atStart => exact ⟨0, B, Nat.zero_le _, rfl, rfl, by rw [M.waysTo_zero]; omega, X1.out, Q1.out⟩
      case round =>
        obtain ⟨l, B2, hll, rfl, rfl, hB2, hX, hQ⟩ := hrel
        have X2 := Lib.hid hX
        have Q2 := Lib.hid hQ
        have HB2 := Lib.hid hB2
        clear hX hQ
        by_cases hltl : l < lt
        · have hltI : (l : Int) < (lt : Int) := by omega
          have c0 := X2.out.c0
          have c1 := X2.out.c1
          have c2 := X2.out.c2
          have c3 := X2.out.c3
          have HCALL := Lib.hid (implWaysBy_any m N (word.size - 1 - k) p ((word.size : Int) - (k : Int)) (l : Int) nv ev tv wr X2.out.ints X2.out.tab HK.out hbd.1 hbd.2 (by omega) (by omega) (by omega) (by have := HN.out; omega) HN2.out)
          have hq1 : IntKind.i64.wrap ((word.size : Int) - (k : Int)) = (word.size : Int) - (k : Int) := IntWalk.i64_in _ (by omega)
          have hw1 := m.waysTo_bd (word.size - 1 - k) p l (by omega) (by omega)
          have hw2 := m.ways_bd (word.size - 1 - k) (m.nx p (l : Int)) (by omega)
          have HST := Lib.hid (m.waysTo_succ (word.size - 1 - k) p l)
          have hBm : B ≤ 59049 := by
            have h1 := HBD.out.2
            have h2 := HBR.out
            have h3 := HRC.out
            have h4 := HRK.out
            have h5 := (m.waysTo_bd (word.size - 1 - k) p lt (by omega) (by omega)).1
            omega
          have hsum : IntKind.i64.wrap (B2 + m.ways (word.size - 1 - k) (m.nx p (l : Int))) = B2 + m.ways (word.size - 1 - k) (m.nx p (l : Int)) := IntWalk.i64_in _ (by omega)
          clear hw1 hw2 hB2 hBm
          generalize m.ways (word.size - 1 - k) (m.nx p (l : Int)) = x at *
          go_wp2_with fail
          refine HCALL.out.mono ?_
          rintro e w5 ⟨rfl, hb5⟩
          have X3 := Lib.hid (X2.out.below hb5)
          have Q3 := Lib.hid (Q2.out.trans (hb5.mono (by rw [← HR.out]; exact Q2.out.size)))
          clear c0 c1 c2 c3 hb5
          go_wp2_with fail
          go_roundw
          case rel => exact ⟨l + 1, B2 + x, by omega, by go_num, rfl, by rw [HST.out, HB2.out, Int.add_assoc], X3.out, Q3.out⟩
          case measure => simp [intOf]; omega
        · obtain rfl : l = lt := by omega
          have c0 := X2.out.c0
          have c1 := X2.out.c1
          have c2 := X2.out.c2
          have HCALL := Lib.hid (implNextOf_any m p (l : Int) nv ev wr X2.out.ints HK.out hbd.1 hbd.2 hlb.1 hlb.2)
          have HW0 := Lib.hid (m.waysTo_bd (word.size - 1 - k) p l (by omega) (by omega)).1
          clear hB2
          go_wp2_with fail
          refine HCALL.out.mono ?_
          rintro e w5 ⟨rfl, hb5⟩
          have X3 := Lib.hid (X2.out.below hb5)
          have Q3 := Lib.hid (Q2.out.trans (hb5.mono (by rw [← HR.out]; exact Q2.out.size)))
          clear c0 c1 c2 hb5
          go_wp2_with fail
          go_roundw
          case rel => exact ⟨k + 1, B2, by omega, by go_num, by rw [HSTEP.out], rfl, by have := HB2.out; have := HW0.out; omega, by rw [HSTEP.out, HB2.out, ← HBR.out, HRC.out, Int.add_assoc], X3.out, Q3.out⟩
          case measure => simp [intOf]; omega
    · obtain rfl : k = word.size := by omega
      have HE : Hid (m.rank 0 word.data.toList = B) := Lib.hid (by
        rw [← HBR.out, List.drop_of_length_le (by rw [len_data]; exact Nat.le_refl _)]
        rw [M.rank, Int.add_zero])
      go_wp2_with fail
      go_ret
      exact ⟨ret_intZ HE.out.symm, by rw [HR.out]; exact Q1.out⟩

theorem infoU8W : (Try.prog.info? 5).map (fun i => (i.zero, i.size, i.bytes)) = some (some (.int .u8 0), 1, 1) := by kernel_rfl
/-- the bytes of a row -/
def bv (p : List UInt8) : List Value := p.map fun b => .int .u8 (b.toNat : Int)
theorem bv_more (p : List UInt8) (b : UInt8) : bv (p ++ [b]) = bv p ++ [.int .u8 (b.toNat : Int)] := by simp [bv]
theorem bv_at (p : List UInt8) (j : Nat) (h : j < p.length) : (bv p)[j]? = some (.int .u8 (p[j].toNat : Int)) := by simp [bv, h]
/-- a row of bytes as a string -/
theorem row_convert {W : World} {v : Value} {p : List UInt8} (h : W.ownsRow 0 5 1 v p.length (bv p)) : (convert 22 9 v).run Try.prog W = .ok (.string ⟨p.toArray⟩) W := by
  rcases h.2 with ⟨rfl, hn⟩ | ⟨g, cap, cur, rfl, _⟩
  · obtain rfl : p = [] := List.eq_nil_of_length_eq_zero hn
    kernel_rfl
  · refine run_convert_bytes_back (P := Try.prog) W 22 9 5 ⟨g, 0, none⟩ cap p Try.underlying22 Try.underlying5 Try.underlying9 (fun j hj => ?_)
    have hc := World.ownsRow.cellAt h j (by omega)
    rw [bv_at p j hj] at hc
    rw [add_off, Nat.zero_add]; exact hc
/-- wordAt's answer -/
def wordZ (m : M) (r : Nat) (a : Int) : ByteArray × Bool := if 0 ≤ a ∧ a < m.ways r 0 then (⟨(m.wordOn r 0 a).toArray⟩, true) else (⟨#[]⟩, false)
/-- a letter is tried, and what is left of the place -/
structure LetAt (m : M) (j : Nat) (s a : Int) (l : Nat) (li a2 : Int) : Prop where
  e1 : li = (l : Int)
  e2 : a2 = a - m.waysTo j s l
  e3 : 0 ≤ a2
theorem ret_sb {a b : ByteArray × Bool} (h : a = b) : Ending.returned (.tuple #[.string a.1, .bool a.2]) = .returned (.tuple #[.string b.1, .bool b.2]) := by rw [h]
theorem wordZ_no {m : M} {r : Nat} {a : Int} (h : ¬ (0 ≤ a ∧ a < m.ways r 0)) : wordZ m r a = (⟨#[]⟩, false) := if_neg h
theorem wordZ_yes {m : M} {r : Nat} {a : Int} (h : 0 ≤ a ∧ a < m.ways r 0) : wordZ m r a = (⟨(m.wordOn r 0 a).toArray⟩, true) := if_pos h

set_option maxHeartbeats 6400000 in
theorem implWordAtC_any (m : M) (N r : Nat) (at0 : Int) (nv ev tv : Value) (w : World) (hi : IsInts w nv m.next) (ht : IsTab w tv m N) (hm : m.ok = true) (hr : r ≤ N) (hN : N ≤ 10) :
    Calls Try.prog 95 #[.agg #[.int .i64 m.st, nv, ev, tv], .int .i64 (r : Int), .int .i64 at0] w
      fun e w' => e = .returned (.tuple #[.string (wordZ m r at0).1, .bool (wordZ m r at0).2]) ∧ Below w.heap.size w w' := by
  have X0 := Lib.hid (CtBox.new (ev := ev) 94 hi ht)
  have q0 : Hid (Below w.heap.size w (w.alloc (.cells #[.int .i64 m.st, nv, ev, tv] 94))) := Lib.hid ((Below.refl _ _).alloc (Nat.le_refl _) _)
  obtain ⟨u0, hu, hz0, hz1, hz2⟩ := info_parts infoU8W
  have HU := Lib.hid (And.intro hu (And.intro hz0 (And.intro hz1 hz2)))
  clear hu hz0 hz1 hz2
  have HK := Lib.hid hm
  have hsh := M.ok_shape hm
  have HWY := Lib.hid (fun W a => implWays_any m N r 0 nv ev tv W a (M.ok_good hm) (by omega) (by omega) hr)
  have hwb := m.ways_bd r 0 (by omega)
  have h10 : r ≤ 10 := by omega
  have HR0 := Lib.hid hr
  have HN := Lib.hid hN
  clear hi ht hm hsh hr hN
  by_cases hneg : at0 < 0
  · have HIF := Lib.hid (wordZ_no (m := m) (r := r) (a := at0) (fun h => by omega))
    clear hwb
    go_enter Try.func95, Try.ntmps95
    go_wp2_with fail
    go_ret2
    exact ⟨(ret_sb HIF.out).symm, q0.out⟩
  · have hneg2 : ¬ at0 < 0 := hneg
    have c0 := X0.out.c0
    have c1 := X0.out.c1
    have c2 := X0.out.c2
    have c3 := X0.out.c3
    go_enter Try.func95, Try.ntmps95
    go_upto_region 1 with fail
    generalize (w.alloc (.cells #[.int .i64 m.st, nv, ev, tv] 94)) = W0 at *
    generalize hR : w.heap.size = R at *
    have HR := Lib.hid hR
    clear hR
    go_wp2_with fail
    refine (HWY.out _ X0.out.tab).mono ?_
    rintro e w1 ⟨rfl, hb1⟩
    have X1 := Lib.hid (X0.out.below hb1)
    have Q1 := Lib.hid (q0.out.trans (hb1.mono (by rw [← HR.out]; exact q0.out.size)))
    clear c0 c1 c2 c3 hb1 X0
    by_cases hge : m.ways r 0 ≤ at0
    · have HIF := Lib.hid (wordZ_no (m := m) (r := r) (a := at0) (fun h => by omega))
      generalize m.ways r 0 = y at *
      go_wp2_with fail
      go_ret2
      exact ⟨(ret_sb HIF.out).symm, by rw [HR.out]; exact Q1.out⟩
    · have HIF := Lib.hid (wordZ_yes (m := m) (r := r) (a := at0) ⟨by omega, by omega⟩)
      have HLT : Hid (0 ≤ at0 ∧ at0 < m.ways r 0) := Lib.hid ⟨by omega, by omega⟩
      have hlt9 : at0 < 59049 := by omega
      have O1 := Lib.hid ((Own.nil w1).idle 5)
      have HST0 := Lib.hid (show (0 : Int) < m.st by have := M.ok_shape HK.out; omega)
      clear hwb
      have HW1 := Lib.hid hlt9
      generalize hy : m.ways r 0 = y at *
      have HY := Lib.hid hy
      clear hy
      go_wp2_with fail
      go_loopw [2, 8, 9, 10] (fun av wv sv i wr => ∃ (k : Nat) (a s : Int) (p : List UInt8) (left : Int), k ≤ r ∧ left = (k : Int) ∧ i = .int .i64 left ∧ av = .int .i64 a ∧ sv = .int .i64 s ∧ 0 ≤ a ∧ a < m.ways k s ∧ -1 ≤ s ∧ s < m.st ∧ p ++ m.wordOn k s a = m.wordOn r 0 at0 ∧ p.length + k = r ∧ Own w1 [rowT 5 1 wv p.length (bv p)] wr) (fun _ _ _ i _ => (intOf i).toNat)
      case atStart => exact ⟨r, at0, 0, [], (r : Int), Nat.le_refl _, rfl, rfl, rfl, rfl, HLT.out.1, by have h := HLT.out.2; rw [← HY.out] at h; exact h, by omega, HST0.out, rfl, Nat.zero_add _, O1.out⟩
      case round =>
        obtain ⟨k, a, s, p, left, hk, hleft, rfl, rfl, rfl, ha0, ha1, hs0, hs1, hp, hpl, hO⟩ := hrel
        obtain ⟨wa, wc, rfl⟩ := ownsRow_slice (hO.row 0 (by simp) rfl)
        have O2 := Lib.hid hO
        have HP := Lib.hid hp
        have HPL := Lib.hid hpl
        have hpl10 : p.length ≤ 10 := by omega
        clear hO hp hpl
        have HLEFT := Lib.hid hleft
        by_cases hpos : ¬ 0 < left
        · obtain rfl : k = 0 := by omega
          clear hleft
          have HE : Hid (m.wordOn r 0 at0 = p) := Lib.hid (by rw [← HP.out, M.wordOn, List.append_nil])
          have hcv := row_convert (O2.out.row 0 (by simp) rfl)
          clear ha1
          go_wp2_with fail
          go_ret2
          have HE2 : wordZ m r at0 = (⟨p.toArray⟩, true) := by rw [HIF.out, HE.out]
          exact ⟨(ret_sb HE2).symm, by rw [HR.out]; exact Q1.out.trans (O2.out.keep.mono (by rw [← HR.out]; exact Q1.out.size))⟩
        · obtain ⟨j, rfl⟩ : ∃ j, k = j + 1 := ⟨k - 1, by omega⟩
          have hpos2 : 0 < left := by omega
          have hl11 : left ≤ 10 := by omega
          clear hpos hleft
          have HWS := Lib.hid (m.ways_succ j s)
          rw [HWS.out] at ha1
          have hwt := m.waysTo_bd j s 3 (by omega) (by omega)
          have HA1 := Lib.hid ha1
          have ha9 : a ≤ 177147 := by omega
          clear ha1 hwt
          go_wp2_with fail
          go_loopw [2, 11] (fun av i wr => ∃ (l : Nat) (li a2 : Int), l < 3 ∧ i = .int .i64 li ∧ av = .int .i64 a2 ∧ LetAt m j s a l li a2 ∧ Own w1 [rowT 5 1 (.slice wa p.length wc) p.length (bv p)] wr) (fun _ i _ => 3 - (intOf i).toNat)
          case atStart => exact ⟨0, 0, a, by omega, rfl, rfl, ⟨rfl, by rw [M.waysTo_zero]; omega, ha0⟩, O2.out⟩
          case round =>
            obtain ⟨l, li, a2, hl, rfl, rfl, ⟨hli, ha2, ha20⟩, hO⟩ := hrel
            have O3 := Lib.hid hO
            have X2 := Lib.hid (X1.out.below O3.out.keep)
            have c0 := X2.out.c0
            have c1 := X2.out.c1
            have c2 := X2.out.c2
            have c3 := X2.out.c3
            have HCALL := Lib.hid (fun W a b => implWaysBy_any m N j s left li nv ev tv W a b HK.out hs0 hs1 (by omega) (by omega) (by have := HLEFT.out; omega) (by have := HR0.out; omega) HN.out)
            have HNEXT := Lib.hid (fun W a => implNextOf_any m s li nv ev W a HK.out hs0 hs1 (by omega) (by omega))
            have HST := Lib.hid (m.waysTo_succ j s l)
            rw [← hli] at HST
            have hwb2 := m.ways_bd j (m.nx s li) (by omega)
            have HA2 := Lib.hid ha2
            have HLI := Lib.hid hli
            have hwl := m.waysTo_bd j s l (by omega) (by omega)
            have ha29 : a2 ≤ 177147 := by omega
            have hq3 : IntKind.i64.wrap (li + 1) = li + 1 := IntWalk.i64_in _ (by omega)
            have hq4 : IntKind.i64.wrap (left - 1) = left - 1 := IntWalk.i64_in _ (by omega)
            have hli0 : 0 ≤ li := by omega
            have hli2 : li ≤ 2 := by omega
            clear hO ha2 hwl hli
            go_wp2_with fail
            refine (HCALL.out _ X2.out.ints X2.out.tab).mono ?_
            rintro e w5 ⟨rfl, hb5⟩
            have X3 := Lib.hid (X2.out.below hb5)
            have O4 := Lib.hid (O3.out.below hb5)
            clear c0 c1 c2 c3 hb5
            have c0 := X3.out.c0
            have c1 := X3.out.c1
            have c2 := X3.out.c2
            have c3 := X3.out.c3
            by_cases hge : m.ways j (m.nx s li) ≤ a2
            · have hl2 : l < 2 := by
                by_cases h : l < 2
                · exact h
                · obtain rfl : l = 2 := by omega
                  have h1 := HA1.out
                  have h2 : m.waysTo j s 3 = m.waysTo j s 2 + m.ways j (m.nx s li) := HST.out
                  have h3 := HA2.out
                  omega
              have hq : IntKind.i64.wrap (a2 - m.ways j (m.nx s li)) = a2 - m.ways j (m.nx s li) := IntWalk.i64_in _ (by omega)
              generalize m.ways j (m.nx s li) = x at *
              go_wp2_with fail
              refine (HCALL.out _ X3.out.ints X3.out.tab).mono ?_
              rintro e w6 ⟨rfl, hb6⟩
              have O5 := Lib.hid (O4.out.below hb6)
              clear c0 c1 c2 c3 hb6
              go_wp2_with fail
              go_roundw
              case rel => exact ⟨l + 1, li + 1, a2 - x, by omega, by first | rfl | rw [hq3], by first | rfl | rw [hq], ⟨by rw [HLI.out]; omega, by rw [HST.out, HA2.out]; omega, by omega⟩, O5.out⟩
              case measure => simp [intOf]; omega
            · have HSTEP := Lib.hid (m.wordOn_step j s a l hl (by have := HA2.out; omega) (by have h1 := HST.out; have h2 := HA2.out; omega))
              rw [← HLI.out] at HSTEP
              have HNB := Lib.hid (M.nx_bd HK.out s li hs1 (by omega) (by omega))
              have HLT2 : Hid (a - m.waysTo j s l = a2 ∧ 0 ≤ a2 ∧ a2 < m.ways j (m.nx s li)) := Lib.hid ⟨HA2.out.symm, ha20, by omega⟩
              have hcase : li = 0 ∨ li = 1 ∨ li = 2 := by omega
              generalize hx : m.ways j (m.nx s li) = x at *
              have HX := Lib.hid hx
              clear hx
              rcases hcase with rfl | rfl | rfl
              · have hl0 : l = 0 := by have := HLI.out; omega
                have HBT : Hid (byteOf l = 114) := Lib.hid (by rw [hl0]; rfl)
                clear hl0
                go_wp2_with (at_builtin; refine wpList_append_lies _ rfl _ _ 22 rfl 0 5 u0 (.int .u8 0) 1 1 Try.underlying22 HU.out.1 HU.out.2.1 HU.out.2.2.1 HU.out.2.2.2 rfl (by decide) (.slice wa p.length wc) p.length (bv p) rfl ((O4.out.row 0 (by simp) rfl).alloc _) ⟨w5.heap.size, 0, none⟩ 1 1 [.int .u8 114] rfl rfl (cellW _ _ _) (by simp [Value.oneCell']) (by omega) (by unfold maxLen; omega) (by omega) (Nat.zero_le _) _ rfl ?_; intro g9 cp w6 hown hgrow hat hlt3; have O5 := Lib.hid (O4.out.push (i := 0) (by simp) rfl hgrow hown hat); have X6 := Lib.hid (X1.out.below O5.out.keep); clear hown hgrow hat hlt3 c0 c1 c2 c3; have c0 := X6.out.c0; have c1 := X6.out.c1; have c2 := X6.out.c2)
                refine (HNEXT.out _ X6.out.ints).mono ?_
                rintro e w7 ⟨rfl, hb7⟩
                have O7 := Lib.hid (O5.out.below hb7)
                clear c0 c1 c2 hb7
                go_wp2_with fail
                go_roundw
                case rel => exact ⟨j, a2, m.nx s 0, p ++ [114], left - 1, by omega, by have := HLEFT.out; omega, by first | rfl | rw [hq4], rfl, rfl, HLT2.out.2.1, by rw [HX.out]; exact HLT2.out.2.2, HNB.out.1, HNB.out.2, by rw [List.append_assoc, ← HP.out, HSTEP.out, HBT.out, HLT2.out.1]; rfl, by rw [List.length_append, ← HPL.out, List.length_singleton]; omega, by rw [List.length_append, bv_more]; exact O7.out⟩
                case measure => simp [intOf]; omega
              · have hl0 : l = 1 := by have := HLI.out; omega
                have HBT : Hid (byteOf l = 100) := Lib.hid (by rw [hl0]; rfl)
                clear hl0
                go_wp2_with (at_builtin; refine wpList_append_lies _ rfl _ _ 22 rfl 0 5 u0 (.int .u8 0) 1 1 Try.underlying22 HU.out.1 HU.out.2.1 HU.out.2.2.1 HU.out.2.2.2 rfl (by decide) (.slice wa p.length wc) p.length (bv p) rfl ((O4.out.row 0 (by simp) rfl).alloc _) ⟨w5.heap.size, 0, none⟩ 1 1 [.int .u8 100] rfl rfl (cellW _ _ _) (by simp [Value.oneCell']) (by omega) (by unfold maxLen; omega) (by omega) (Nat.zero_le _) _ rfl ?_; intro g9 cp w6 hown hgrow hat hlt3; have O5 := Lib.hid (O4.out.push (i := 0) (by simp) rfl hgrow hown hat); have X6 := Lib.hid (X1.out.below O5.out.keep); clear hown hgrow hat hlt3 c0 c1 c2 c3; have c0 := X6.out.c0; have c1 := X6.out.c1; have c2 := X6.out.c2)
                refine (HNEXT.out _ X6.out.ints).mono ?_
                rintro e w7 ⟨rfl, hb7⟩
                have O7 := Lib.hid (O5.out.below hb7)
                clear c0 c1 c2 hb7
                go_wp2_with fail
                go_roundw
                case rel => exact ⟨j, a2, m.nx s 1, p ++ [100], left - 1, by omega, by have := HLEFT.out; omega, by first | rfl | rw [hq4], rfl, rfl, HLT2.out.2.1, by rw [HX.out]; exact HLT2.out.2.2, HNB.out.1, HNB.out.2, by rw [List.append_assoc, ← HP.out, HSTEP.out, HBT.out, HLT2.out.1]; rfl, by rw [List.length_append, ← HPL.out, List.length_singleton]; omega, by rw [List.length_append, bv_more]; exact O7.out⟩
                case measure => simp [intOf]; omega
              · have hl0 : l = 2 := by have := HLI.out; omega
                have HBT : Hid (byteOf l = 110) := Lib.hid (by rw [hl0]; rfl)
                clear hl0
                go_wp2_with (at_builtin; refine wpList_append_lies _ rfl _ _ 22 rfl 0 5 u0 (.int .u8 0) 1 1 Try.underlying22 HU.out.1 HU.out.2.1 HU.out.2.2.1 HU.out.2.2.2 rfl (by decide) (.slice wa p.length wc) p.length (bv p) rfl ((O4.out.row 0 (by simp) rfl).alloc _) ⟨w5.heap.size, 0, none⟩ 1 1 [.int .u8 110] rfl rfl (cellW _ _ _) (by simp [Value.oneCell']) (by omega) (by unfold maxLen; omega) (by omega) (Nat.zero_le _) _ rfl ?_; intro g9 cp w6 hown hgrow hat hlt3; have O5 := Lib.hid (O4.out.push (i := 0) (by simp) rfl hgrow hown hat); have X6 := Lib.hid (X1.out.below O5.out.keep); clear hown hgrow hat hlt3 c0 c1 c2 c3; have c0 := X6.out.c0; have c1 := X6.out.c1; have c2 := X6.out.c2)
                refine (HNEXT.out _ X6.out.ints).mono ?_
                rintro e w7 ⟨rfl, hb7⟩
                have O7 := Lib.hid (O5.out.below hb7)
                clear c0 c1 c2 hb7
                go_wp2_with fail
                go_roundw
                case rel => exact ⟨j, a2, m.nx s 2, p ++ [110], left - 1, by omega, by have := HLEFT.out; omega, by first | rfl | rw [hq4], rfl, rfl, HLT2.out.2.1, by rw [HX.out]; exact HLT2.out.2.2, HNB.out.1, HNB.out.2, by rw [List.append_assoc, ← HP.out, HSTEP.out, HBT.out, HLT2.out.1]; rfl, by rw [List.length_append, ← HPL.out, List.length_singleton]; omega, by rw [List.length_append, bv_more]; exact O7.out⟩
                case measure => simp [intOf]; omega
end Go.Proofs.Ytaghjddndgpljaa
