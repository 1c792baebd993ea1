/- The walk of FnFairerSwap: true at every code. Written by mklawswapf.py. No condition. -/
import Derived.Test.YtggohgkjdnnndaaSwapDr
import Derived.Test.YtggohgkjdnnndaaSwapFS
import Derived.Test.YtggohgkjdnnndaaLoadFairI
import Derived.Test.YtggohgkjdnnndaaLawRost
namespace Go.Proofs.Ytggohgkjdnnndaa
open Go.RowKit

theorem intsF {w : World} {v : Value} {xs : List Int} (h : IsInts w v xs) : ∃ a c, v = .slice a xs.length c := by
  obtain ⟨a, c, rfl, -⟩ := h
  exact ⟨a, c, rfl⟩
theorem intsAtF {w : World} {v : Value} {xs : List Int} (h : IsInts w v xs) (h0 : 0 < xs.length) : ∃ g off c : Nat, v = .slice (some ⟨g, off, none⟩) xs.length c ∧ g < w.heap.size ∧ ∀ k (h : k < xs.length), w.cell? ⟨g, off + k, none⟩ = some (.int .i64 xs[k]) := by
  obtain ⟨a, c, rfl, -, -, h3⟩ := h
  obtain ⟨g, off, rfl, hg, hc⟩ := h3.resolve_left (fun e => by rw [e] at h0; exact absurd h0 (Nat.lt_irrefl _))
  exact ⟨g, off, c, rfl, hg, hc⟩
theorem short_smallF {xs : List ByteArray} (h : rosterOk xs = true) : Short xs := fun s hs => by
  have h1 := (rosterOk_iff.1 h).2.2.2 s hs
  have h2 := (rosterOk_iff.1 h).2.2.1
  unfold maxLen; omega
theorem fsP_facts {xs : List ByteArray} {t : ByteArray} {d a b : Nat} (ha : a < xs.length) (hb : b < xs.length) (h : fsP xs t d a b = true) :
    (byteAt xs[a] d == byteAt t 0) = true ∧ (byteAt xs[b] d == byteAt t 0) = false ∧ countOf xs[b] t + 2 ≤ countOf xs[a] t ∧ a ≠ b := by
  simp only [fsP, faP, Bool.and_eq_true, decide_eq_true_eq, dayStr_at _ _ _ ha, dayStr_at _ _ _ hb] at h
  obtain ⟨⟨h1, h2⟩, h3⟩ := h
  have e1 : (loadRow xs t).getD a 0 = countOf xs[a] t := by simp [loadRow, List.getD, ha]
  have e2 : (loadRow xs t).getD b 0 = countOf xs[b] t := by simp [loadRow, List.getD, hb]
  rw [e1, e2] at h3
  have h2' : (byteAt xs[b] d == byteAt t 0) = false := by
    rw [bne, Bool.not_eq_true'] at h2; exact h2
  refine ⟨h1, h2', h3, fun e => ?_⟩
  subst e
  rw [h1] at h2'; cases h2'

set_option maxHeartbeats 6400000 in
set_option maxRecDepth 20000 in
theorem lawFairerSwap_walk {w : World} (a : Option Addr) (len cap : Nat) (zs : List Int) (h : IsRow .u8 w a len cap zs) :
    Calls Try.prog 7 #[.slice a len cap] w fun e w' => e = .returned (.bool true) ∧ Below w.heap.size w w' := by
  have HD := Lib.hid (drawFairerSwap_any a len cap zs w h)
  have hl := rowR_len h
  clear h
  by_cases hbig : 1048576 < len
  · go_enter Try.func7, Try.ntmps7
    go_wp2_with fail
    go_ret
    exact ⟨rfl, Below.refl _ _⟩
  go_enter Try.func7, Try.ntmps7
  go_wp2_with fail
  refine HD.out.mono ?_
  clear HD
  rintro e w1 ⟨xs, v, t, rfl, hs, ht23, ho, hb⟩
  obtain ⟨b, c, rfl, hc1, hc2, hI⟩ := drawnR_form ho
  have HSX := Lib.hid hs.short
  have I1 := Lib.hid hI
  have Q1 := Lib.hid hb
  have HTM := Lib.hid (show t.size ≤ maxLen by unfold maxLen; omega)
  clear hI ho hb hs
  have HIM := Lib.hid (fun W hI => implFairer_any (.slice b xs.length c) xs HSX.out t HTM.out W hI)
  have HSP := Lib.hid (fun W hI => specFairer_any (.slice b xs.length c) xs HSX.out t W hI)
  have HLO := Lib.hid (fun W hI => implLoads_any (.slice b xs.length c) xs HSX.out t HTM.out W hI)
  go_wp2_with fail
  refine (HIM.out _ I1.out).mono ?_
  rintro e w2 ⟨⟨r, hr, rfl⟩, hb2⟩
  have HR := Lib.hid hr
  have I2 := Lib.hid (I1.out.below hb2)
  have Q2 := Lib.hid (Q1.out.trans (hb2.mono Q1.out.size))
  clear hb2 hr
  rcases r with _ | ⟨rd, ra, rb⟩
  · simp only [fsV]
    cases hok : (rosterOk xs && letterOk t) with
    | false =>
      rw [show loadsFor xs t = [] from by simp [loadsFor, hok]] at HLO
      clear hok
      go_wp2_with fail
      refine (HSP.out _ I2.out).mono ?_
      rintro e w3 ⟨⟨q, hq, rfl⟩, hb3⟩
      obtain rfl := hq.one HR.out
      have I3 := Lib.hid (I2.out.below hb3)
      have Q3 := Lib.hid (Q2.out.trans (hb3.mono Q2.out.size))
      clear hb3 hq
      simp only [fsV]
      go_wp2_with fail
      refine (HLO.out _ I3.out).mono ?_
      rintro e w4 ⟨vl, rfl, ho4, hb4⟩
      have L4 := Lib.hid (IsInts.of_owns ho4)
      obtain ⟨a4, c4, rfl⟩ := intsF (IsInts.of_owns ho4)
      have I4 := Lib.hid (I3.out.below hb4)
      have Q4 := Lib.hid (Q3.out.trans (hb4.mono Q3.out.size))
      clear ho4 hb4
      have hl0 : ((0 : Int) == (xs.length : Int)) = true ∨ ((0 : Int) == (xs.length : Int)) = false := by cases ((0 : Int) == (xs.length : Int)) <;> simp
      go_wp2_with fail
      go_loopw [14, 15] (fun nv iv wr => nv = .bool false ∧ iv = .int .i64 0 ∧ wr = w4) (fun _ _ _ => 0)
      case atStart => exact ⟨rfl, rfl, rfl⟩
      case round =>
        obtain ⟨rfl, rfl, rfl⟩ := hrel
        rcases hl0 with hl0 | hl0
        · go_wp2_with (go_at_call 17; refine (aliveR_any _).mono ?_; rintro e w' ⟨rfl, rfl⟩)
          go_ret
          exact ⟨rfl, Q4.out⟩
        · go_wp2_with (go_at_call 17; refine (aliveR_any _).mono ?_; rintro e w' ⟨rfl, rfl⟩)
          go_ret
          exact ⟨rfl, Q4.out⟩
    | true =>
      obtain ⟨hrr, hll⟩ : rosterOk xs = true ∧ letterOk t = true := by simpa using hok
      have HRR := Lib.hid hrr
      have HLL := Lib.hid hll
      rw [loadsFor_yes hrr hll] at HLO
      have HDE := Lib.hid (fsD_yes hrr hll)
      have h10 := (rosterOk_iff.1 hrr).1
      have h14 := (rosterOk_iff.1 hrr).2.1
      have h12 := (rosterOk_iff.1 hrr).2.2.1
      have hsz : t.size = 1 := by
        simp only [letterOk, Bool.and_eq_true, decide_eq_true_eq] at hll
        exact hll.1
      have ht0 : (0 : Int) < (t.size : Int) := by omega
      have ht0n : 0 < t.size := by omega
      have HLB := Lib.hid (loadRow_bd hrr hll)
      have HLN := Lib.hid (loadRow_length xs t)
      have HRW := Lib.hid (fun k (hk : k < xs.length) => (roster_row hrr k hk).1)
      have HPP := Lib.hid (fun d a b ha hb hda hdb hla hlb => fsP_at (xs := xs) (t := t) ht0n d a b ha hb hda hdb hla hlb)
      have k1 : 0 < xs.length := h10
      have hs0 := daysOf_get k1
      clear hok hrr hll hsz
      go_wp2_with fail
      refine (HSP.out _ I2.out).mono ?_
      rintro e w3 ⟨⟨q, hq, rfl⟩, hb3⟩
      obtain rfl := hq.one HR.out
      have I3 := Lib.hid (I2.out.below hb3)
      have Q3 := Lib.hid (Q2.out.trans (hb3.mono Q2.out.size))
      clear hb3 hq
      simp only [fsV]
      go_wp2_with fail
      refine (HLO.out _ I3.out).mono ?_
      rintro e w4 ⟨vl, rfl, ho4, hb4⟩
      have L4 := Lib.hid (IsInts.of_owns ho4)
      obtain ⟨gl, ol, cl, rfl, hgl, hcl⟩ := intsAtF (IsInts.of_owns ho4) (by rw [HLN.out]; exact k1)
      have HCL := Lib.hid hcl
      have HGL := Lib.hid hgl
      clear hgl hcl
      have I4 := Lib.hid (I3.out.below hb4)
      have Q4 := Lib.hid (Q3.out.trans (hb4.mono Q3.out.size))
      clear ho4 hb4
      generalize hLg : loadRow xs t = L at *
      have HLG := Lib.hid hLg
      clear hLg
      have hlen := HLN.out
      have hle : ((L.length : Int) == (xs.length : Int)) = true := by rw [beq_iff_eq]; omega
      have hl0 : (0 : Int) < (L.length : Int) := by omega
      have HLE := Lib.hid hlen
      clear hlen
      obtain ⟨g, o, rfl, hg, hd⟩ := I4.out.at k1
      have HDC := Lib.hid hd
      have HG := Lib.hid hg
      have e0 := hd 0 k1
      have h012 : xs[0].size ≤ 12 := by omega
      have HS0 := Lib.hid hs0
      clear hg hd hs0 h12
      have HX0 := Lib.hid e0
      clear e0
      generalize xs[0] = s0 at *
      go_wp2_with fail
      go_loopw [14, 15] (fun nv iv wr => ∃ (k : Nat) (n : Bool), k ≤ s0.size ∧ iv = .int .i64 (k : Int) ∧ nv = .bool n ∧ Hid (n = false → ∀ d a b, d < k → a < xs.length → b < xs.length → fsP xs t d a b = false) ∧ Hid (n = true → ∃ d a b, d < fsD xs t ∧ a < xs.length ∧ b < xs.length ∧ fsP xs t d a b = true) ∧ Hid (Below w4.heap.size w4 wr)) (fun _ iv _ => s0.size - (intOf iv).toNat)
      case atStart => exact ⟨0, false, Nat.zero_le _, rfl, rfl, Lib.hid (fun _ d a b hd => absurd hd (Nat.not_lt_zero d)), Lib.hid (fun h => by cases h), Lib.hid (Below.refl _ _)⟩
      case round =>
        obtain ⟨k, n, hk, rfl, rfl, HK, HT, HB⟩ := hrel
        have c0 := (HB.out.cell (p := ⟨g, o, none⟩) HG.out).trans HX0.out
        by_cases hlt : k < s0.size
        · have hki : (k : Int) < (s0.size : Int) := by omega
          have hkD : k < fsD xs t := by rw [HDE.out, HS0.out]; exact hlt
          go_wp2_with fail
          clear c0
          go_loopw [14, 16] (fun nv av wq => ∃ (p : Nat) (n : Bool), p ≤ xs.length ∧ av = .int .i64 (p : Int) ∧ nv = .bool n ∧ Hid (n = false → (∀ d a b, d < k → a < xs.length → b < xs.length → fsP xs t d a b = false) ∧ ∀ a b, a < p → b < xs.length → fsP xs t k a b = false) ∧ Hid (n = true → ∃ d a b, d < fsD xs t ∧ a < xs.length ∧ b < xs.length ∧ fsP xs t d a b = true) ∧ Hid (Below w4.heap.size w4 wq)) (fun _ av _ => xs.length - (intOf av).toNat)
          case atStart => exact ⟨0, n, Nat.zero_le _, rfl, rfl, Lib.hid (fun h => ⟨HK.out h, fun a b ha => absurd ha (Nat.not_lt_zero a)⟩), HT, HB⟩
          case round =>
            obtain ⟨p, n, hp, rfl, rfl, HP, HT, HQ⟩ := hrel
            by_cases hpl : p < xs.length
            · have hpi : (p : Int) < (xs.length : Int) := by omega
              have hpl2 : p < L.length := by have := HLE.out; omega
              have hpli : (p : Int) < (L.length : Int) := by omega
              go_wp2_with fail
              go_loopw [14, 17] (fun nv bv wz => ∃ (q : Nat) (n : Bool), q ≤ xs.length ∧ bv = .int .i64 (q : Int) ∧ nv = .bool n ∧ Hid (n = false → ((∀ d a b, d < k → a < xs.length → b < xs.length → fsP xs t d a b = false) ∧ ∀ a b, a < p → b < xs.length → fsP xs t k a b = false) ∧ ∀ b, b < q → fsP xs t k p b = false) ∧ Hid (n = true → ∃ d a b, d < fsD xs t ∧ a < xs.length ∧ b < xs.length ∧ fsP xs t d a b = true) ∧ Hid (Below w4.heap.size w4 wz)) (fun _ bv _ => xs.length - (intOf bv).toNat)
              case atStart => exact ⟨0, n, Nat.zero_le _, rfl, rfl, Lib.hid (fun h => ⟨HP.out h, fun b hb => absurd hb (Nat.not_lt_zero b)⟩), HT, HQ⟩
              case round =>
                obtain ⟨q, n, hq, rfl, rfl, HJ, HT, HZ⟩ := hrel
                by_cases hql : q < xs.length
                · have hqi : (q : Int) < (xs.length : Int) := by omega
                  have hql2 : q < L.length := by have := HLE.out; omega
                  have hqli : (q : Int) < (L.length : Int) := by omega
                  cases n with
                  | true =>
                    have HT2 := Lib.hid (HT.out rfl)
                    clear HT HJ
                    go_wp2_with fail
                    go_quiet (fail)
                    go_wp2_with fail
                    go_roundw
                    case rel => exact ⟨q + 1, true, by omega, by go_num, rfl, Lib.hid (fun h => by cases h), Lib.hid (fun _ => HT2.out), Lib.hid (below_drewN HZ.out _)⟩
                    case measure => simp [intOf]; omega
                  | false =>
                    have ha := HRW.out p hpl
                    have hb := HRW.out q hql
                    have hda : k < xs[p].size := by have := HS0.out; omega
                    have hdb : k < xs[q].size := by have := HS0.out; omega
                    have hdai : (k : Int) < (xs[p].size : Int) := by omega
                    have hdbi : (k : Int) < (xs[q].size : Int) := by omega
                    have x1 := (HZ.out.cell (p := ⟨g, o + p, none⟩) HG.out).trans (HDC.out p hpl)
                    have x2 := (HZ.out.cell (p := ⟨g, o + q, none⟩) HG.out).trans (HDC.out q hql)
                    have x3 := (HZ.out.cell (p := ⟨gl, ol + p, none⟩) HGL.out).trans (HCL.out p hpl2)
                    have x4 := (HZ.out.cell (p := ⟨gl, ol + q, none⟩) HGL.out).trans (HCL.out q hql2)
                    have b1 := HLB.out _ (List.getElem_mem hpl2)
                    have b2 := HLB.out _ (List.getElem_mem hql2)
                    have HPQ := Lib.hid (HPP.out k p q hpl hql hda hdb hpl2 hql2)
                    have HJ2 := Lib.hid (HJ.out rfl)
                    clear ha hb
                    generalize L[p] = x at *
                    generalize L[q] = y at *
                    generalize xs[p] = sa at *
                    generalize xs[q] = sb at *
                    cases hA : ((sa[k].toNat : Int) == (t[0].toNat : Int)) with
                    | false =>
                      have HN : Hid (∀ b, b < q + 1 → fsP xs t k p b = false) := by
                        have : ∀ b, b < q + 1 → fsP xs t k p b = false := fun b hb => by
                          by_cases e : b = q
                          · rw [e, HPQ.out, hA]; rfl
                          · exact HJ2.out.2 b (by omega)
                        exact Lib.hid this
                      go_wp2_with fail
                      go_quiet (fail)
                      go_wp2_with fail
                      go_roundw
                      case rel => exact ⟨q + 1, false, by omega, by go_num, rfl, Lib.hid (fun _ => ⟨HJ2.out.1, HN.out⟩), Lib.hid (fun h => by cases h), Lib.hid (below_drewN HZ.out _)⟩
                      case measure => simp [intOf]; omega
                    | true =>
                      cases hB : ((sb[k].toNat : Int) != (t[0].toNat : Int)) with
                      | false =>
                        have HN : Hid (∀ b, b < q + 1 → fsP xs t k p b = false) := by
                          have : ∀ b, b < q + 1 → fsP xs t k p b = false := fun b hb => by
                            by_cases e : b = q
                            · rw [e, HPQ.out, hB]; simp
                            · exact HJ2.out.2 b (by omega)
                          exact Lib.hid this
                        go_wp2_with fail
                        go_quiet (fail)
                        go_wp2_with fail
                        go_roundw
                        case rel => exact ⟨q + 1, false, by omega, by go_num, rfl, Lib.hid (fun _ => ⟨HJ2.out.1, HN.out⟩), Lib.hid (fun h => by cases h), Lib.hid (below_drewN HZ.out _)⟩
                        case measure => simp [intOf]; omega
                      | true =>
                        by_cases hG : y + 2 ≤ x
                        · have HF : Hid (fsP xs t k p q = true) := Lib.hid (by rw [HPQ.out, hA, hB, decide_eq_true hG]; rfl)
                          have hGd : decide (y + 2 ≤ x) = true := decide_eq_true hG
                          go_wp2_with fail
                          go_quiet (fail)
                          go_wp2_with fail
                          go_roundw
                          case rel => exact ⟨q + 1, true, by omega, by go_num, rfl, Lib.hid (fun h => by cases h), Lib.hid (fun _ => ⟨k, p, q, hkD, hpl, hql, HF.out⟩), Lib.hid (below_drewN HZ.out _)⟩
                          case measure => simp [intOf]; omega
                        · have HN : Hid (∀ b, b < q + 1 → fsP xs t k p b = false) := by
                            have : ∀ b, b < q + 1 → fsP xs t k p b = false := fun b hb => by
                              by_cases e : b = q
                              · rw [e, HPQ.out, decide_eq_false hG]; simp
                              · exact HJ2.out.2 b (by omega)
                            exact Lib.hid this
                          have hGd : decide (y + 2 ≤ x) = false := decide_eq_false hG
                          go_wp2_with fail
                          go_quiet (fail)
                          go_wp2_with fail
                          go_roundw
                          case rel => exact ⟨q + 1, false, by omega, by go_num, rfl, Lib.hid (fun _ => ⟨HJ2.out.1, HN.out⟩), Lib.hid (fun h => by cases h), Lib.hid (below_drewN HZ.out _)⟩
                          case measure => simp [intOf]; omega
                · obtain rfl : q = xs.length := by omega
                  have HN : Hid (n = false → (∀ d a b, d < k → a < xs.length → b < xs.length → fsP xs t d a b = false) ∧ ∀ a b, a < p + 1 → b < xs.length → fsP xs t k a b = false) := by
                    have : n = false → (∀ d a b, d < k → a < xs.length → b < xs.length → fsP xs t d a b = false) ∧ ∀ a b, a < p + 1 → b < xs.length → fsP xs t k a b = false := fun h => ⟨(HJ.out h).1.1, fun a b ha hb => by
                      by_cases e : a = p
                      · rw [e]; exact (HJ.out h).2 b hb
                      · exact (HJ.out h).1.2 a b (by omega) hb⟩
                    exact Lib.hid this
                  go_wp2_with fail
                  go_roundw
                  case rel => exact ⟨p + 1, n, by omega, by go_num, rfl, HN, HT, HZ⟩
                  case measure => simp [intOf]; omega
            · obtain rfl : p = xs.length := by omega
              have HN : Hid (n = false → ∀ d a b, d < k + 1 → a < xs.length → b < xs.length → fsP xs t d a b = false) := by
                have : n = false → ∀ d a b, d < k + 1 → a < xs.length → b < xs.length → fsP xs t d a b = false := fun h d a b hd ha hb => by
                  by_cases e : d = k
                  · rw [e]; exact (HP.out h).2 a b ha hb
                  · exact (HP.out h).1 d a b (by omega) ha hb
                exact Lib.hid this
              go_wp2_with fail
              go_roundw
              case rel => exact ⟨k + 1, n, by omega, by go_num, rfl, HN, HT, HQ⟩
              case measure => simp [intOf]; omega
        · obtain rfl : k = s0.size := by omega
          cases n with
          | true =>
            exfalso
            obtain ⟨d, a, b, h1, h2, h3, h4⟩ := HT.out rfl
            rw [HR.out d a b h1 h2 h3] at h4; cases h4
          | false =>
            go_wp2_with (go_at_call 17; refine (aliveR_any _).mono ?_; rintro e w' ⟨rfl, rfl⟩)
            go_ret
            exact ⟨rfl, Q4.out.trans (HB.out.mono Q4.out.size)⟩
  · simp only [fsV]
    cases hok : (rosterOk xs && letterOk t) with
    | false =>
      exfalso
      have h1 := HR.out.1
      rw [fsD, hok] at h1
      exact absurd h1 (Nat.not_lt_zero _)
    | true =>
      obtain ⟨hrr, hll⟩ : rosterOk xs = true ∧ letterOk t = true := by simpa using hok
      have HRR := Lib.hid hrr
      have HLL := Lib.hid hll
      rw [loadsFor_yes hrr hll] at HLO
      have HDE := Lib.hid (fsD_yes hrr hll)
      have h10 := (rosterOk_iff.1 hrr).1
      have h14 := (rosterOk_iff.1 hrr).2.1
      have h12 := (rosterOk_iff.1 hrr).2.2.1
      have hsz : t.size = 1 := by
        simp only [letterOk, Bool.and_eq_true, decide_eq_true_eq] at hll
        exact hll.1
      have ht0 : (0 : Int) < (t.size : Int) := by omega
      have ht0n : 0 < t.size := by omega
      have HLB := Lib.hid (loadRow_bd hrr hll)
      have HLN := Lib.hid (loadRow_length xs t)
      have HRW := Lib.hid (fun k (hk : k < xs.length) => (roster_row hrr k hk).1)
      have HPP := Lib.hid (fun d a b ha hb hda hdb hla hlb => fsP_at (xs := xs) (t := t) ht0n d a b ha hb hda hdb hla hlb)
      have k1 : 0 < xs.length := h10
      have hs0 := daysOf_get k1
      clear hok hrr hll hsz
      have HFS := Lib.hid (fun (d a b : Nat) (hd : d < daysOf xs) (ha : a < xs.length) (hb : b < xs.length) (h : fsP xs t d a b = true) => fair_swap HRR.out hd ha hb (fsP_facts ha hb h).2.2.2 HLL.out (fsP_facts ha hb h).1 (fsP_facts ha hb h).2.1 (fsP_facts ha hb h).2.2.1)
      go_wp2_with fail
      refine (HSP.out _ I2.out).mono ?_
      rintro e w3 ⟨⟨q, hq, rfl⟩, hb3⟩
      obtain rfl := hq.one HR.out
      have I3 := Lib.hid (I2.out.below hb3)
      have Q3 := Lib.hid (Q2.out.trans (hb3.mono Q2.out.size))
      clear hb3 hq
      simp only [fsV]
      go_wp2_with fail
      refine (HLO.out _ I3.out).mono ?_
      rintro e w4 ⟨vl, rfl, ho4, hb4⟩
      have L4 := Lib.hid (IsInts.of_owns ho4)
      obtain ⟨gl, ol, cl, rfl, hgl, hcl⟩ := intsAtF (IsInts.of_owns ho4) (by rw [HLN.out]; exact k1)
      have HCL := Lib.hid hcl
      have HGL := Lib.hid hgl
      clear hgl hcl
      have I4 := Lib.hid (I3.out.below hb4)
      have Q4 := Lib.hid (Q3.out.trans (hb4.mono Q3.out.size))
      clear ho4 hb4
      generalize hLg : loadRow xs t = L at *
      have HLG := Lib.hid hLg
      clear hLg
      have hlen := HLN.out
      have hle : ((L.length : Int) == (xs.length : Int)) = true := by rw [beq_iff_eq]; omega
      have hl0 : (0 : Int) < (L.length : Int) := by omega
      have HLE := Lib.hid hlen
      clear hlen
      obtain ⟨g, o, rfl, hg, hd⟩ := I4.out.at k1
      have HDC := Lib.hid hd
      have HG := Lib.hid hg
      have e0 := hd 0 k1
      have h012 : xs[0].size ≤ 12 := by omega
      have HS0 := Lib.hid hs0
      clear hg hd hs0 h12
      have HX0 := Lib.hid e0
      clear e0
      generalize xs[0] = s0 at *
      go_wp2_with fail
      go_loopw [14, 15] (fun nv iv wr => ∃ (k : Nat) (n : Bool), k ≤ s0.size ∧ iv = .int .i64 (k : Int) ∧ nv = .bool n ∧ Hid (n = false → ∀ d a b, d < k → a < xs.length → b < xs.length → fsP xs t d a b = false) ∧ Hid (n = true → ∃ d a b, d < fsD xs t ∧ a < xs.length ∧ b < xs.length ∧ fsP xs t d a b = true) ∧ Hid (Below w4.heap.size w4 wr)) (fun _ iv _ => s0.size - (intOf iv).toNat)
      case atStart => exact ⟨0, false, Nat.zero_le _, rfl, rfl, Lib.hid (fun _ d a b hd => absurd hd (Nat.not_lt_zero d)), Lib.hid (fun h => by cases h), Lib.hid (Below.refl _ _)⟩
      case round =>
        obtain ⟨k, n, hk, rfl, rfl, HK, HT, HB⟩ := hrel
        have c0 := (HB.out.cell (p := ⟨g, o, none⟩) HG.out).trans HX0.out
        by_cases hlt : k < s0.size
        · have hki : (k : Int) < (s0.size : Int) := by omega
          have hkD : k < fsD xs t := by rw [HDE.out, HS0.out]; exact hlt
          go_wp2_with fail
          clear c0
          go_loopw [14, 16] (fun nv av wq => ∃ (p : Nat) (n : Bool), p ≤ xs.length ∧ av = .int .i64 (p : Int) ∧ nv = .bool n ∧ Hid (n = false → (∀ d a b, d < k → a < xs.length → b < xs.length → fsP xs t d a b = false) ∧ ∀ a b, a < p → b < xs.length → fsP xs t k a b = false) ∧ Hid (n = true → ∃ d a b, d < fsD xs t ∧ a < xs.length ∧ b < xs.length ∧ fsP xs t d a b = true) ∧ Hid (Below w4.heap.size w4 wq)) (fun _ av _ => xs.length - (intOf av).toNat)
          case atStart => exact ⟨0, n, Nat.zero_le _, rfl, rfl, Lib.hid (fun h => ⟨HK.out h, fun a b ha => absurd ha (Nat.not_lt_zero a)⟩), HT, HB⟩
          case round =>
            obtain ⟨p, n, hp, rfl, rfl, HP, HT, HQ⟩ := hrel
            by_cases hpl : p < xs.length
            · have hpi : (p : Int) < (xs.length : Int) := by omega
              have hpl2 : p < L.length := by have := HLE.out; omega
              have hpli : (p : Int) < (L.length : Int) := by omega
              go_wp2_with fail
              go_loopw [14, 17] (fun nv bv wz => ∃ (q : Nat) (n : Bool), q ≤ xs.length ∧ bv = .int .i64 (q : Int) ∧ nv = .bool n ∧ Hid (n = false → ((∀ d a b, d < k → a < xs.length → b < xs.length → fsP xs t d a b = false) ∧ ∀ a b, a < p → b < xs.length → fsP xs t k a b = false) ∧ ∀ b, b < q → fsP xs t k p b = false) ∧ Hid (n = true → ∃ d a b, d < fsD xs t ∧ a < xs.length ∧ b < xs.length ∧ fsP xs t d a b = true) ∧ Hid (Below w4.heap.size w4 wz)) (fun _ bv _ => xs.length - (intOf bv).toNat)
              case atStart => exact ⟨0, n, Nat.zero_le _, rfl, rfl, Lib.hid (fun h => ⟨HP.out h, fun b hb => absurd hb (Nat.not_lt_zero b)⟩), HT, HQ⟩
              case round =>
                obtain ⟨q, n, hq, rfl, rfl, HJ, HT, HZ⟩ := hrel
                by_cases hql : q < xs.length
                · have hqi : (q : Int) < (xs.length : Int) := by omega
                  have hql2 : q < L.length := by have := HLE.out; omega
                  have hqli : (q : Int) < (L.length : Int) := by omega
                  cases n with
                  | true =>
                    have HT2 := Lib.hid (HT.out rfl)
                    clear HT HJ
                    go_wp2_with fail
                    go_quiet (fail)
                    go_wp2_with fail
                    go_roundw
                    case rel => exact ⟨q + 1, true, by omega, by go_num, rfl, Lib.hid (fun h => by cases h), Lib.hid (fun _ => HT2.out), Lib.hid (below_drewN HZ.out _)⟩
                    case measure => simp [intOf]; omega
                  | false =>
                    have ha := HRW.out p hpl
                    have hb := HRW.out q hql
                    have hda : k < xs[p].size := by have := HS0.out; omega
                    have hdb : k < xs[q].size := by have := HS0.out; omega
                    have hdai : (k : Int) < (xs[p].size : Int) := by omega
                    have hdbi : (k : Int) < (xs[q].size : Int) := by omega
                    have x1 := (HZ.out.cell (p := ⟨g, o + p, none⟩) HG.out).trans (HDC.out p hpl)
                    have x2 := (HZ.out.cell (p := ⟨g, o + q, none⟩) HG.out).trans (HDC.out q hql)
                    have x3 := (HZ.out.cell (p := ⟨gl, ol + p, none⟩) HGL.out).trans (HCL.out p hpl2)
                    have x4 := (HZ.out.cell (p := ⟨gl, ol + q, none⟩) HGL.out).trans (HCL.out q hql2)
                    have b1 := HLB.out _ (List.getElem_mem hpl2)
                    have b2 := HLB.out _ (List.getElem_mem hql2)
                    have HPQ := Lib.hid (HPP.out k p q hpl hql hda hdb hpl2 hql2)
                    have HJ2 := Lib.hid (HJ.out rfl)
                    clear ha hb
                    generalize L[p] = x at *
                    generalize L[q] = y at *
                    generalize xs[p] = sa at *
                    generalize xs[q] = sb at *
                    cases hA : ((sa[k].toNat : Int) == (t[0].toNat : Int)) with
                    | false =>
                      have HN : Hid (∀ b, b < q + 1 → fsP xs t k p b = false) := by
                        have : ∀ b, b < q + 1 → fsP xs t k p b = false := fun b hb => by
                          by_cases e : b = q
                          · rw [e, HPQ.out, hA]; rfl
                          · exact HJ2.out.2 b (by omega)
                        exact Lib.hid this
                      go_wp2_with fail
                      go_quiet (fail)
                      go_wp2_with fail
                      go_roundw
                      case rel => exact ⟨q + 1, false, by omega, by go_num, rfl, Lib.hid (fun _ => ⟨HJ2.out.1, HN.out⟩), Lib.hid (fun h => by cases h), Lib.hid (below_drewN HZ.out _)⟩
                      case measure => simp [intOf]; omega
                    | true =>
                      cases hB : ((sb[k].toNat : Int) != (t[0].toNat : Int)) with
                      | false =>
                        have HN : Hid (∀ b, b < q + 1 → fsP xs t k p b = false) := by
                          have : ∀ b, b < q + 1 → fsP xs t k p b = false := fun b hb => by
                            by_cases e : b = q
                            · rw [e, HPQ.out, hB]; simp
                            · exact HJ2.out.2 b (by omega)
                          exact Lib.hid this
                        go_wp2_with fail
                        go_quiet (fail)
                        go_wp2_with fail
                        go_roundw
                        case rel => exact ⟨q + 1, false, by omega, by go_num, rfl, Lib.hid (fun _ => ⟨HJ2.out.1, HN.out⟩), Lib.hid (fun h => by cases h), Lib.hid (below_drewN HZ.out _)⟩
                        case measure => simp [intOf]; omega
                      | true =>
                        by_cases hG : y + 2 ≤ x
                        · have HF : Hid (fsP xs t k p q = true) := Lib.hid (by rw [HPQ.out, hA, hB, decide_eq_true hG]; rfl)
                          have hGd : decide (y + 2 ≤ x) = true := decide_eq_true hG
                          go_wp2_with fail
                          go_quiet (fail)
                          go_wp2_with fail
                          go_roundw
                          case rel => exact ⟨q + 1, true, by omega, by go_num, rfl, Lib.hid (fun h => by cases h), Lib.hid (fun _ => ⟨k, p, q, hkD, hpl, hql, HF.out⟩), Lib.hid (below_drewN HZ.out _)⟩
                          case measure => simp [intOf]; omega
                        · have HN : Hid (∀ b, b < q + 1 → fsP xs t k p b = false) := by
                            have : ∀ b, b < q + 1 → fsP xs t k p b = false := fun b hb => by
                              by_cases e : b = q
                              · rw [e, HPQ.out, decide_eq_false hG]; simp
                              · exact HJ2.out.2 b (by omega)
                            exact Lib.hid this
                          have hGd : decide (y + 2 ≤ x) = false := decide_eq_false hG
                          go_wp2_with fail
                          go_quiet (fail)
                          go_wp2_with fail
                          go_roundw
                          case rel => exact ⟨q + 1, false, by omega, by go_num, rfl, Lib.hid (fun _ => ⟨HJ2.out.1, HN.out⟩), Lib.hid (fun h => by cases h), Lib.hid (below_drewN HZ.out _)⟩
                          case measure => simp [intOf]; omega
                · obtain rfl : q = xs.length := by omega
                  have HN : Hid (n = false → (∀ d a b, d < k → a < xs.length → b < xs.length → fsP xs t d a b = false) ∧ ∀ a b, a < p + 1 → b < xs.length → fsP xs t k a b = false) := by
                    have : n = false → (∀ d a b, d < k → a < xs.length → b < xs.length → fsP xs t d a b = false) ∧ ∀ a b, a < p + 1 → b < xs.length → fsP xs t k a b = false := fun h => ⟨(HJ.out h).1.1, fun a b ha hb => by
                      by_cases e : a = p
                      · rw [e]; exact (HJ.out h).2 b hb
                      · exact (HJ.out h).1.2 a b (by omega) hb⟩
                    exact Lib.hid this
                  go_wp2_with fail
                  go_roundw
                  case rel => exact ⟨p + 1, n, by omega, by go_num, rfl, HN, HT, HZ⟩
                  case measure => simp [intOf]; omega
            · obtain rfl : p = xs.length := by omega
              have HN : Hid (n = false → ∀ d a b, d < k + 1 → a < xs.length → b < xs.length → fsP xs t d a b = false) := by
                have : n = false → ∀ d a b, d < k + 1 → a < xs.length → b < xs.length → fsP xs t d a b = false := fun h d a b hd ha hb => by
                  by_cases e : d = k
                  · rw [e]; exact (HP.out h).2 a b ha hb
                  · exact (HP.out h).1 d a b (by omega) ha hb
                exact Lib.hid this
              go_wp2_with fail
              go_roundw
              case rel => exact ⟨k + 1, n, by omega, by go_num, rfl, HN, HT, HQ⟩
              case measure => simp [intOf]; omega
        · obtain rfl : k = s0.size := by omega
          cases n with
          | false =>
            exfalso
            obtain ⟨g0, g1, g2, g3, -⟩ := HR.out
            rw [HDE.out, HS0.out] at g0
            have := HK.out rfl rd ra rb g0 g1 g2
            rw [this] at g3; cases g3
          | true =>
            clear HK HT
            have HSW := Lib.hid (fun W hI => implSwap_any (.slice (some ⟨g, o, none⟩) xs.length c) xs HSX.out (rd : Int) (ra : Int) (rb : Int) W hI)
            obtain ⟨g0, g1, g2, g3, -⟩ := HR.out
            rw [HDE.out] at g0
            have hne := (fsP_facts g1 g2 g3).2.2.2
            have hok : swapOk xs (rd : Int) (ra : Int) (rb : Int) = true := swapOk_iff.2 ⟨HRR.out, ⟨by omega, by omega⟩, by omega, ⟨by omega, by omega⟩, ⟨by omega, by omega⟩⟩
            have hfs := HFS.out rd ra rb g0 g1 g2 g3
            have hro := (swapTo_roster (d := rd) (a := ra) (b := rb) HRR.out g0 g1 g2).1
            rw [hok, swapd_yes hok] at HSW
            clear g0 g1 g2 g3 hne hok
            generalize swapTo xs rd ra rb = zs at *
            have HZS := Lib.hid (short_smallF hro)
            have hyz := loadsFor_yes hro HLL.out
            have HF1 := Lib.hid hfs.1
            have HF2 := Lib.hid hfs.2
            clear hro hfs
            generalize loadRow zs t = Lz at *
            go_wp2_with fail
            clear c0
            refine (HSW.out _ (I4.out.below HB.out)).mono ?_
            rintro e w5 ⟨z, rfl, ho5, hb5⟩
            obtain ⟨a5, c5, rfl, -, -, hI5⟩ := drawnR_form ho5
            have B5 := Lib.hid (HB.out.trans (hb5.mono HB.out.size))
            have HL5 := Lib.hid (implLoads_any (.slice a5 zs.length c5) zs HZS.out t HTM.out w5 hI5)
            rw [hyz] at HL5
            clear ho5 hb5 hI5 hyz
            go_wp2_with fail
            refine HL5.out.mono ?_
            rintro e w6 ⟨v6, rfl, ho6, hb6⟩
            have Z6 := Lib.hid (IsInts.of_owns ho6)
            obtain ⟨a6, c6, rfl⟩ := intsF (IsInts.of_owns ho6)
            have B6 := Lib.hid (B5.out.trans (hb6.mono B5.out.size))
            clear ho6 hb6
            have L6 := Lib.hid (L4.out.below B6.out)
            go_wp2_with fail
            refine (implFairerOk_any _ _ Lz L _ Z6.out L6.out).mono ?_
            rintro e w7 ⟨rfl, hb7⟩
            rw [HF1.out]
            have B7 := Lib.hid (B6.out.trans (hb7.mono B6.out.size))
            have Z7 := Lib.hid (Z6.out.below hb7)
            clear hb7
            go_wp2_with fail
            refine (implFairerOk_any _ _ L Lz _ (L4.out.below B7.out) Z7.out).mono ?_
            rintro e w8 ⟨rfl, hb8⟩
            rw [HF2.out]
            have B8 := Lib.hid (B7.out.trans (hb8.mono B7.out.size))
            clear hb8
            go_wp2_with fail
            go_ret
            exact ⟨rfl, Q4.out.trans (B8.out.mono Q4.out.size)⟩
end Go.Proofs.Ytggohgkjdnnndaa
