/- FairerSwap of the model: what it returns, for every argument. No condition. -/
import Derived.Test.YtggohgkjdnnndaaSwapFI
namespace Go.Proofs.Ytggohgkjdnnndaa
open Go.RowKit

theorem fsP_at {xs : List ByteArray} {t : ByteArray} (ht : 0 < t.size) (d a b : Nat) (ha : a < xs.length) (hb : b < xs.length) (hda : d < xs[a].size) (hdb : d < xs[b].size) (hla : a < (loadRow xs t).length) (hlb : b < (loadRow xs t).length) :
    fsP xs t d a b = (((xs[a][d].toNat : Int) == (t[0].toNat : Int)) && ((xs[b][d].toNat : Int) != (t[0].toNat : Int)) && decide ((loadRow xs t)[b] + 2 ≤ (loadRow xs t)[a])) := by
  have e1 : (loadRow xs t).getD a 0 = (loadRow xs t)[a] := by simp [List.getD, hla]
  have e2 : (loadRow xs t).getD b 0 = (loadRow xs t)[b] := by simp [List.getD, hlb]
  have e3 : ((xs[b][d].toNat : Int) != (t[0].toNat : Int)) = (xs[b][d] != t[0]) := by rw [bne, bne, u8_beq]
  rw [fsP, faP, e1, e2, u8_beq, e3, dayStr_at _ _ _ ha, dayStr_at _ _ _ hb, byteAt_eq t 0 ht, byteAt_eq xs[a] d hda, byteAt_eq xs[b] d hdb]

set_option maxHeartbeats 6400000 in
set_option maxRecDepth 20000 in
theorem specFairer_any (v : Value) (xs : List ByteArray) (hx : Short xs) (t : ByteArray) (w : World) (h : IsStrs w v xs) :
    Calls Try.prog 33 #[v, .string t] w (FairP xs t w) := by
  have HLO := Lib.hid (specLoads_any v xs hx t w h)
  have HI := Lib.hid h
  obtain ⟨a, c, rfl, hc1, hm1⟩ := h.form
  cases hok : (rosterOk xs && letterOk t) with
  | false =>
    have HN : Hid (∀ w', Below w.heap.size w w' → FairP xs t w (.returned (.tuple #[.int .i64 (-1), .int .i64 (-1), .int .i64 (-1), .bool false])) w') := Lib.hid (fun w' hb => FairP.no hok hb)
    rw [show loadsFor xs t = [] from by simp [loadsFor, hok]] at HLO
    clear h hx hok
    go_enter Try.func33, Try.ntmps33
    go_wp2_with fail
    refine HLO.out.mono ?_
    rintro e w1 ⟨vl, rfl, ho, hb1⟩
    obtain ⟨al, cl, rfl⟩ : ∃ a c, vl = .slice a 0 c := by obtain ⟨a, cap, rfl, -⟩ := IsInts.of_owns ho; exact ⟨a, cap, rfl⟩
    have B1 := Lib.hid hb1
    clear ho hb1
    go_wp2_with fail
    go_loopw [9] (fun iv wr => iv = .int .i64 0 ∧ wr = w1) (fun _ _ => 0)
    case atStart => exact ⟨rfl, rfl⟩
    case round =>
      obtain ⟨rfl, rfl⟩ := hrel
      go_wp2_with fail
      (try simp only [Exit.inBlock, Exit.then])
      refine bodyPost_ret (results_tmp4 rfl _ _ _) rfl ?_
      exact HN.out _ B1.out
  | true =>
    obtain ⟨hr, hl⟩ : rosterOk xs = true ∧ letterOk t = true := by simpa using hok
    rw [loadsFor_yes hr hl] at HLO
    have HDE := Lib.hid (fsD_yes hr hl)
    have h10 := (rosterOk_iff.1 hr).1
    have h14 := (rosterOk_iff.1 hr).2.1
    have h12 := (rosterOk_iff.1 hr).2.2.1
    have hsz : t.size = 1 := by
      simp only [letterOk, Bool.and_eq_true, decide_eq_true_eq] at hl
      exact hl.1
    have ht0 : (0 : Int) < (t.size : Int) := by omega
    have ht0n : 0 < t.size := by omega
    have HLB := Lib.hid (loadRow_bd hr hl)
    have HLL := Lib.hid (loadRow_length xs t)
    have HRW := Lib.hid (fun k (hk : k < xs.length) => (roster_row hr k hk).1)
    have HPP := Lib.hid (fun d a b ha hb hda hdb hla hlb => fsP_at (xs := xs) (t := t) ht0n d a b ha hb hda hdb hla hlb)
    have k1 : 0 < xs.length := h10
    obtain ⟨g, o, rfl, hg, hd⟩ := h.at k1
    have HDC := Lib.hid hd
    have HG := Lib.hid hg
    have hs0 := daysOf_get (xs := xs) k1
    have e0 := hd 0 k1
    have HS0 := Lib.hid hs0
    have h012 : xs[0].size ≤ 12 := by omega
    clear h hx hr hl hg hd hs0 h12 hsz hok
    generalize xs[0] = s0 at *
    have E0 := Lib.hid e0
    clear e0
    go_enter Try.func33, Try.ntmps33
    go_wp2_with fail
    refine HLO.out.mono ?_
    rintro e w1 ⟨vl, rfl, ho, hb1⟩
    have B1 := Lib.hid hb1
    have hI1 := IsInts.of_owns ho
    clear ho hb1
    generalize hLL : loadRow xs t = L at *
    obtain ⟨al, cl, rfl, hcap, hmx, hor⟩ := hI1
    have hlen : L.length = xs.length := HLL.out
    obtain ⟨gl, ol, rfl, hgl, hcl⟩ := hor.resolve_left (fun e => by rw [e] at hlen; simp at hlen; omega)
    have HCL := Lib.hid hcl
    have HGL := Lib.hid hgl
    unfold maxLen at hmx
    have HLE := Lib.hid hlen
    have hl0 : (0 : Int) < (L.length : Int) := by omega
    have HLT := Lib.hid hLL
    clear hor hcl hgl hlen hLL
    go_wp2_with fail
    go_loopw [9] (fun iv wr => ∃ (k : Nat), k ≤ s0.size ∧ iv = .int .i64 (k : Int) ∧ Hid (∀ d a b, d < k → a < xs.length → b < xs.length → fsP xs t d a b = false) ∧ Hid (Below w1.heap.size w1 wr)) (fun iv _ => s0.size - (intOf iv).toNat)
    case atStart => exact ⟨0, Nat.zero_le _, rfl, Lib.hid (fun d a b hd => absurd hd (Nat.not_lt_zero d)), Lib.hid (Below.refl _ _)⟩
    case round =>
      obtain ⟨k, hk, rfl, HK, HB⟩ := hrel
      have c0 := ((B1.out.trans (HB.out.mono B1.out.size)).cell (p := ⟨g, o, none⟩) HG.out).trans E0.out
      by_cases hlt : k < s0.size
      · have hki : (k : Int) < (s0.size : Int) := by omega
        go_wp2_with fail
        clear c0
        go_loopw [10] (fun av wq => ∃ (p : Nat), p ≤ xs.length ∧ av = .int .i64 (p : Int) ∧ Hid (∀ a b, a < p → b < xs.length → fsP xs t k a b = false) ∧ Hid (Below w1.heap.size w1 wq)) (fun av _ => xs.length - (intOf av).toNat)
        case atStart => exact ⟨0, Nat.zero_le _, rfl, Lib.hid (fun a b ha => absurd ha (Nat.not_lt_zero a)), HB⟩
        case round =>
          obtain ⟨p, hp, rfl, HP, HQ⟩ := hrel
          by_cases hpl : p < xs.length
          · have hpi : (p : Int) < (xs.length : Int) := by omega
            have hpl2 : p < L.length := by have := HLE.out; omega
            have hpli : (p : Int) < (L.length : Int) := by omega
            go_wp2_with fail
            go_loopw [11] (fun bv wz => ∃ (q : Nat), q ≤ xs.length ∧ bv = .int .i64 (q : Int) ∧ Hid (∀ b, b < q → fsP xs t k p b = false) ∧ Hid (Below w1.heap.size w1 wz)) (fun bv _ => xs.length - (intOf bv).toNat)
            case atStart => exact ⟨0, Nat.zero_le _, rfl, Lib.hid (fun b hb => absurd hb (Nat.not_lt_zero b)), HQ⟩
            case round =>
              obtain ⟨q, hq, rfl, HJ, HZ⟩ := hrel
              by_cases hql : q < xs.length
              · have hqi : (q : Int) < (xs.length : Int) := by omega
                have hql2 : q < L.length := by have := HLE.out; omega
                have hqli : (q : Int) < (L.length : Int) := by omega
                have ha := HRW.out p hpl
                have hb := HRW.out q hql
                have hda : k < xs[p].size := by have := HS0.out; omega
                have hdb : k < xs[q].size := by have := HS0.out; omega
                have hdai : (k : Int) < (xs[p].size : Int) := by omega
                have hdbi : (k : Int) < (xs[q].size : Int) := by omega
                have x1 := ((B1.out.trans (HZ.out.mono B1.out.size)).cell (p := ⟨g, o + p, none⟩) HG.out).trans (HDC.out p hpl)
                have x2 := ((B1.out.trans (HZ.out.mono B1.out.size)).cell (p := ⟨g, o + q, none⟩) HG.out).trans (HDC.out q hql)
                have x3 := (HZ.out.cell (p := ⟨gl, ol + p, none⟩) HGL.out).trans (HCL.out p hpl2)
                have x4 := (HZ.out.cell (p := ⟨gl, ol + q, none⟩) HGL.out).trans (HCL.out q hql2)
                have b1 := HLB.out _ (List.getElem_mem hpl2)
                have b2 := HLB.out _ (List.getElem_mem hql2)
                have HPQ := Lib.hid (HPP.out k p q hpl hql hda hdb hpl2 hql2)
                clear ha hb
                generalize L[p] = x at *
                generalize L[q] = y at *
                generalize xs[p] = sa at *
                generalize xs[q] = sb at *
                cases hA : ((sa[k].toNat : Int) == (t[0].toNat : Int)) with
                | false =>
                  have HN : Hid (∀ b, b < q + 1 → fsP xs t k p b = false) := by
                    have : ∀ b, b < q + 1 → fsP xs t k p b = false := fun b hb => by
                      by_cases e : b = q
                      · rw [e, HPQ.out, hA]; rfl
                      · exact HJ.out b (by omega)
                    exact Lib.hid this
                  go_wp2_with fail
                  go_quiet (fail)
                  go_wp2_with fail
                  go_roundw
                  case rel => exact ⟨q + 1, by omega, by go_num, HN, Lib.hid (below_drewN HZ.out _)⟩
                  case measure => simp [intOf]; omega
                | true =>
                  cases hB : ((sb[k].toNat : Int) != (t[0].toNat : Int)) with
                  | false =>
                    have HN : Hid (∀ b, b < q + 1 → fsP xs t k p b = false) := by
                      have : ∀ b, b < q + 1 → fsP xs t k p b = false := fun b hb => by
                        by_cases e : b = q
                        · rw [e, HPQ.out, hB]; simp
                        · exact HJ.out b (by omega)
                      exact Lib.hid this
                    go_wp2_with fail
                    go_quiet (fail)
                    go_wp2_with fail
                    go_roundw
                    case rel => exact ⟨q + 1, by omega, by go_num, HN, Lib.hid (below_drewN HZ.out _)⟩
                    case measure => simp [intOf]; omega
                  | true =>
                    by_cases hG : y + 2 ≤ x
                    · have HF : Hid (IsF3 (fsP xs t) (fsD xs t) xs.length (some (k, p, q))) := by
                        have : IsF3 (fsP xs t) (fsD xs t) xs.length (some (k, p, q)) := by
                          refine ⟨by rw [HDE.out, HS0.out]; exact hlt, hpl, hql, by rw [HPQ.out, hA, hB, decide_eq_true hG]; rfl, fun d' a' b' hd ha hb hor => ?_⟩
                          rcases hor with h5 | ⟨rfl, h5 | ⟨rfl, h5⟩⟩
                          · exact HK.out d' a' b' h5 ha hb
                          · exact HP.out a' b' h5 hb
                          · exact HJ.out b' h5
                        exact Lib.hid this
                      have hGd : decide (y + 2 ≤ x) = true := decide_eq_true hG
                      go_wp2_with fail
                      go_quiet (fail)
                      go_wp2_with fail
                      (try simp only [Exit.inBlock, Exit.then])
                      refine bodyPost_ret (results_tmp4 rfl _ _ _) rfl ?_
                      exact ⟨⟨_, HF.out, rfl⟩, B1.out.trans ((below_drewN HZ.out _).mono B1.out.size)⟩
                    · have HN : Hid (∀ b, b < q + 1 → fsP xs t k p b = false) := by
                        have : ∀ b, b < q + 1 → fsP xs t k p b = false := fun b hb => by
                          by_cases e : b = q
                          · rw [e, HPQ.out, decide_eq_false hG]; simp
                          · exact HJ.out b (by omega)
                        exact Lib.hid this
                      have hGd : decide (y + 2 ≤ x) = false := decide_eq_false hG
                      go_wp2_with fail
                      go_quiet (fail)
                      go_wp2_with fail
                      go_roundw
                      case rel => exact ⟨q + 1, by omega, by go_num, HN, Lib.hid (below_drewN HZ.out _)⟩
                      case measure => simp [intOf]; omega
              · obtain rfl : q = xs.length := by omega
                have HN : Hid (∀ a b, a < p + 1 → b < xs.length → fsP xs t k a b = false) := by
                  have : ∀ a b, a < p + 1 → b < xs.length → fsP xs t k a b = false := fun a b ha hb => by
                    by_cases e : a = p
                    · rw [e]; exact HJ.out b hb
                    · exact HP.out a b (by omega) hb
                  exact Lib.hid this
                go_wp2_with fail
                go_roundw
                case rel => exact ⟨p + 1, by omega, by go_num, HN, HZ⟩
                case measure => simp [intOf]; omega
          · obtain rfl : p = xs.length := by omega
            have HN : Hid (∀ d a b, d < k + 1 → a < xs.length → b < xs.length → fsP xs t d a b = false) := by
              have : ∀ d a b, d < k + 1 → a < xs.length → b < xs.length → fsP xs t d a b = false := fun d a b hd ha hb => by
                by_cases e : d = k
                · rw [e]; exact HP.out a b ha hb
                · exact HK.out d a b (by omega) ha hb
              exact Lib.hid this
            go_wp2_with fail
            go_roundw
            case rel => exact ⟨k + 1, by omega, by go_num, HN, HQ⟩
            case measure => simp [intOf]; omega
      · obtain rfl : k = s0.size := by omega
        have HN : Hid (IsF3 (fsP xs t) (fsD xs t) xs.length none) := by
          have : IsF3 (fsP xs t) (fsD xs t) xs.length none := fun d a b hd ha hb => HK.out d a b (by rw [HDE.out, HS0.out] at hd; exact hd) ha hb
          exact Lib.hid this
        go_wp2_with fail
        (try simp only [Exit.inBlock, Exit.then])
        refine bodyPost_ret (results_tmp4 rfl _ _ _) rfl ?_
        exact ⟨⟨_, HN.out, rfl⟩, B1.out.trans (HB.out.mono B1.out.size)⟩
end Go.Proofs.Ytggohgkjdnnndaa
