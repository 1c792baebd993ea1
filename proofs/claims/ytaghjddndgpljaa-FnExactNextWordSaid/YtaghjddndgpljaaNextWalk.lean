/- The model's NextWord. No condition. -/
import Derived.Test.YtaghjddndgpljaaNextSpec
namespace Go.Proofs.Ytaghjddndgpljaa
open Go.RowKit

def strLen : Value → Nat
  | .string s => s.size
  | _ => 0

set_option maxHeartbeats 6400000 in
theorem specNextWord_any (m : M) (word : ByteArray) (nv ev : Value) (w : World) (h1 : IsInts w nv m.next) (h2 : IsBools w ev m.ends) (hst : (Lit.int .i64 m.st).wf = true) (hs : word.size ≤ maxLen) :
    Calls Try.prog 43 #[.agg #[.int .i64 m.st, nv, ev], .string word] w fun e w' => e = .returned (.tuple #[.string (nextWordZ m word).1, .bool (nextWordZ m word).2]) ∧ Below w.heap.size w w' := by
  have MB := Lib.hid (MachBox.new (st := m.st) 26 h1 h2)
  have q0 := Lib.hid ((Below.refl w.heap.size w).alloc (Nat.le_refl _) (.cells #[.int .i64 m.st, nv, ev] 26))
  have HOK := Lib.hid (fun W a b => specMachineOk_any m nv ev W a b hst)
  have HWO := Lib.hid (fun W => specWordOk_any word W hs)
  have HST := Lib.hid hst
  have y0 := MB.out.c0
  have y1 := MB.out.c1
  have y2 := MB.out.c2
  clear h1 h2 hst
  go_enter Try.func43, Try.ntmps43
  go_upto_region 1 with fail
  generalize (w.alloc (.cells #[.int .i64 m.st, nv, ev] 26)) = W0 at *
  generalize hR : w.heap.size = R at *
  have HR := Lib.hid hR
  clear hR
  go_wp2_with fail
  refine (HOK.out _ MB.out.ints MB.out.bools).mono ?_
  rintro e w1 ⟨rfl, hb1⟩
  have M1 := Lib.hid (MB.out.below hb1)
  have q1 := Lib.hid (q0.out.trans (hb1.mono (by rw [← HR.out]; exact q0.out.size)))
  clear y0 y1 y2 hb1
  cases hk : m.ok with
  | false =>
    have HZ := Lib.hid (nextWordZ_no (m := m) (word := word) (by rw [nextOkB, hk]; rfl))
    go_wp2_with fail
    go_ret2
    exact ⟨(ret_sb HZ.out).symm, by rw [HR.out]; exact q1.out⟩
  | true =>
    have HK := Lib.hid hk
    go_wp2_with fail
    refine (HWO.out _).mono ?_
    rintro e w2 ⟨rfl, rfl⟩
    cases hw : wordOk word with
    | false =>
      have HZ := Lib.hid (nextWordZ_no (m := m) (word := word) (by rw [nextOkB, hw]; simp))
      go_wp2_with fail
      go_ret2
      exact ⟨(ret_sb HZ.out).symm, by rw [HR.out]; exact q1.out⟩
    | true =>
      have HW := Lib.hid hw
      have h14 := wordOk_size hw
      by_cases h10 : 10 < word.size
      · have h10I : (10 : Int) < (word.size : Int) := by omega
        have HZ := Lib.hid (nextWordZ_no (m := m) (word := word) (by rw [nextOkB, countedB, decide_eq_false (show ¬ (word.size : Int) ≤ 10 by omega), Bool.and_false, Bool.and_false]))
        clear hk hw
        go_wp2_with fail
        go_ret2
        exact ⟨(ret_sb HZ.out).symm, by rw [HR.out]; exact q1.out⟩
      · have h10I : ¬ ((10 : Int) < (word.size : Int)) := by omega
        have hcB : countedB (word.size : Int) = true := by rw [countedB, decide_eq_true (show (word.size : Int) ≤ 10 by omega), decide_eq_true (show (0 : Int) ≤ (word.size : Int) by omega)]; rfl
        have HC := Lib.hid hcB
        have HZ := Lib.hid (nextWordZ_up (m := m) (word := word) (by rw [nextOkB, hk, hw, hcB]; rfl))
        have hq0 : IntKind.i64.wrap ((word.size : Int) - 1) = (word.size : Int) - 1 := IntWalk.i64_in _ (by omega)
        -- what LettersAfter answers for a beginning
        have HLA : Hid (∀ (out : ByteArray) (W : World), wordOk out = true → out.size < word.size → IsInts W nv m.next → IsBools W ev m.ends → Calls Try.prog 41 #[.agg #[.int .i64 m.st, nv, ev], .string out, .int .i64 (word.size : Int)] W fun e w' => e = .returned (.string (textL (m.letters (word.size - 1 - out.size) (m.goes 0 out.data.toList)))) ∧ Below W.heap.size W w') := Lib.hid (fun out W ho hl a b => by
          have h := specLettersAfter_any m out (word.size : Int) nv ev W a b HST.out (by have := wordOk_size ho; unfold maxLen; omega)
          rwa [lettersAfter_yes (laOk_iff.2 ⟨HK.out, ho, HC.out, by omega⟩)] at h)
        clear hk hw hcB hs
        go_wp2_with fail
        go_loopw [6] (fun i wr => ∃ (q : Nat) (ki : Int), q ≤ word.size ∧ ki = (q : Int) - 1 ∧ i = .int .i64 ki ∧ m.nextUp (m.goes 0 (word.data.toList.take q)) (word.data.toList.drop q) = none ∧ MachBox R m.st nv m.next ev m.ends wr ∧ Below R w wr) (fun i _ => (intOf i + 1).toNat)
        case atStart => exact ⟨word.size, (word.size : Int) - 1, Nat.le_refl _, rfl, rfl, by rw [List.drop_of_length_le (by rw [len_data]; exact Nat.le_refl _)]; rfl, M1.out, q1.out⟩
        case round =>
          obtain ⟨q, ki, hq, hki, rfl, hnone, hM, hQ⟩ := hrel
          have MM := Lib.hid hM
          have QQ := Lib.hid hQ
          have HKI := Lib.hid hki
          have HNONE := Lib.hid hnone
          clear hM hQ hnone M1 q1
          by_cases hneg : ki < 0
          · obtain rfl : q = 0 := by omega
            have HE : Hid (nextWordZ m word = (⟨#[]⟩, false)) := Lib.hid (by
              have h : m.nextUp 0 word.data.toList = none := HNONE.out
              rw [HZ.out, h]; rfl)
            clear hki
            go_wp2_with fail
            go_ret2
            exact ⟨(ret_sb HE.out).symm, by rw [HR.out]; exact QQ.out⟩
          · obtain ⟨t, rfl⟩ : ∃ t, q = t + 1 := ⟨q - 1, by omega⟩
            have htl : t < word.size := by omega
            have hkt : ki = (t : Int) := by omega
            have HKT := Lib.hid hkt
            have hki0 : 0 ≤ ki := by omega
            have hkis : ki < (word.size : Int) := by omega
            have hkin : ki.toNat < word.size := by omega
            have hki9 : ki ≤ 9 := by omega
            have hsl := fun W => slice_pre word t (by omega) ki hkt W
            have HPO := Lib.hid (pre_ok t (by omega) HW.out)
            have HPS := Lib.hid (pre_size word t (by omega))
            have hq6 : IntKind.i64.wrap (ki - 1) = ki - 1 := IntWalk.i64_in _ (by omega)
            have HLT := Lib.hid (fun W a b => HLA.out (word.extract 0 t) W HPO.out (by rw [HPS.out]; exact htl) a b)
            rw [HPS.out, pre_list] at HLT
            have c0 := MM.out.c0
            have c1 := MM.out.c1
            have c2 := MM.out.c2
            have HGO := Lib.hid (fun l h => nextUp_at (l := l) htl HNONE.out h)
            have HNO := Lib.hid (fun h => nextUp_not htl HNONE.out h)
            have hL := wordOk_at HW.out t htl
            have hlb := letter_bd hL
            have hwk : ∀ hh, word[ki.toNat]'hh = word[t] := fun hh => by congr 1; omega
            have HFS := Lib.hid (fun l hl hx => FirstOn.start (m := m) (l := l) htl HW.out hl hx)
            have HUP := Lib.hid (fun c hc j h h1 h2 => M.letters_up (m := m) (k := word.size - 1 - t) (s := m.goes 0 (word.data.toList.take t)) (c := c) (j := j) hc h h1 h2)
            have HUN := Lib.hid (fun c hc h1 => M.letters_up_no (m := m) (k := word.size - 1 - t) (s := m.goes 0 (word.data.toList.take t)) (c := c) hc h1)
            have HLM := Lib.hid (fun j h => letters_mem (m := m) (k := word.size - 1 - t) (s := m.goes 0 (word.data.toList.take t)) (j := j) h)
            have HLL := Lib.hid (fun x h => M.letters_lt (m := m) (k := word.size - 1 - t) (s := m.goes 0 (word.data.toList.take t)) x h)
            have hL3 := m.letters_len (word.size - 1 - t) (m.goes 0 (word.data.toList.take t))
            have HRST : Hid (∀ out : ByteArray, wordOk out = true → out.size ≤ 14) := Lib.hid (fun out h => wordOk_size h)
            clear hki hkt hL
            generalize m.letters (word.size - 1 - t) (m.goes 0 (word.data.toList.take t)) = Lt at *
            generalize hc : (letterOf (word[t].toNat : Int)) = cl at *
            obtain ⟨c, rfl⟩ := Int.eq_ofNat_of_zero_le hlb.1
            have HCL := Lib.hid hc
            have hc3 : c < 3 := by omega
            clear hc
            go_wp2_with fail
            have MMd := Lib.hid (MM.out.below (Below.refl _ _).drew)
            go_region_with (go_at_call 41; refine (HLT.out _ MMd.out.ints MMd.out.bools).mono ?_; rintro e w5 ⟨rfl, hb5⟩)
            all_goals
              have M5 := Lib.hid (MMd.out.below hb5)
              have q5 := Lib.hid (QQ.out.drew.trans (hb5.mono (by rw [← HR.out]; exact QQ.out.size)))
              have hsz := textL_size Lt
              clear c0 c1 c2 hb5
              go_wp2
              go_loopw [8] (fun i wr => ∃ j : Nat, j ≤ Lt.length ∧ i = .int .i64 (j : Int) ∧ (∀ i (g : i < Lt.length), i < j → Lt[i] ≤ c) ∧ MachBox R m.st nv m.next ev m.ends wr ∧ Below R w wr) (fun i _ => Lt.length - (intOf i).toNat)
              case atStart => exact ⟨0, Nat.zero_le _, rfl, fun i _ h => absurd h (Nat.not_lt_zero i), M5.out, q5.out⟩
              case round =>
                obtain ⟨j, hj, rfl, hprev, hM, hQ⟩ := hrel
                have M6 := Lib.hid hM
                have q6 := Lib.hid hQ
                have HPREV := Lib.hid hprev
                clear hM hQ hprev
                by_cases hlt : j < Lt.length
                · have hltI : (j : Int) < (Lt.length : Int) := by omega
                  have hx3 := HLL.out Lt[j] (List.getElem_mem hlt)
                  have hjs : j < (textL Lt).size := by omega
                  have hlj : letterOf ((textL Lt)[j].toNat : Int) = (Lt[j] : Int) := by rw [textL_at Lt j hlt hjs, letter_byteOf _ hx3]
                  have hcl := HCL.out
                  have HONE := Lib.hid (textL_one Lt j hlt)
                  have HWJ := Lib.hid (HLM.out j hlt)
                  have HUPJ := Lib.hid (fun h => HUP.out c hc3 j hlt (fun i g hi => HPREV.out i g hi) h)
                  have hsl2 := fun W => slice_one (textL Lt) j hjs W
                  rw [HONE.out] at hsl2
                  have hxe : ∀ i (g : i < Lt.length), i < j + 1 → i < j ∨ Lt[i] = Lt[j] := fun i g h => by
                    by_cases e : i = j
                    · subst e; exact .inr rfl
                    · exact .inl (by omega)
                  have HXE := Lib.hid hxe
                  have hwr : IntKind.i64.wrap ((j : Int) + 1) = (j : Int) + 1 := IntWalk.i64_in _ (by omega)
                  clear hxe
                  generalize Lt[j] = x at *
                  generalize textL Lt = TL at *
                  by_cases hle : x ≤ c
                  · have hleI : (x : Int) ≤ (c : Int) := by omega
                    clear hsl hsl2
                    go_wp2_with fail
                    go_quiet ((go_at_call 97; exact Calls.quiet_of_same ((l1Letter_any _ _).mono fun _ _ ⟨h, g⟩ => ⟨h, g.symm⟩)))
                    go_wp2
                    go_roundw
                    case rel => exact ⟨j + 1, by omega, by go_num, fun i g hi => by
                      rcases HXE.out i g hi with h | h
                      · exact HPREV.out i g h
                      · rw [h]; exact hle, M6.out.below (below_drewN (Below.refl _ _) _), below_drewN q6.out _⟩
                    case measure => simp [intOf]; omega
                  · have hleI : ¬ ((x : Int) ≤ (c : Int)) := by omega
                    have HT := Lib.hid (HGO.out x (HUPJ.out (by omega)))
                    have HF := Lib.hid (HFS.out x hx3 HWJ.out)
                    generalize (word.data.toList.take t ++ byteOf x :: m.wordOn (word.size - 1 - t) (m.nx (m.goes 0 (word.data.toList.take t)) (x : Int)) 0) = T at *
                    have HZT : Hid (nextWordZ m word = (⟨T.toArray⟩, true)) := Lib.hid (by rw [HZ.out, HT.out]; rfl)
                    have hps := HPS.out
                    have hls : (letS x).size = 1 := rfl
                    have hcat : ¬ (9223372036854775807 < t + 1) := by omega
                    go_wp2_with fail
                    go_quiet ((go_at_call 97; exact Calls.quiet_of_same ((l1Letter_any _ _).mono fun _ _ ⟨h, g⟩ => ⟨h, g.symm⟩)))
                    go_wp2_with fail
                    go_quiet (fail)
                    have M8 := Lib.hid (fun a b => M6.out.below (below_drewN (below_drewN (Below.refl _ _) a) b))
                    have q8 := Lib.hid (fun a b => below_drewN (below_drewN q6.out a) b)
                    clear hsl hsl2 hwk
                    go_wp2
                    clear hlj hcl
                    go_loopw [9] (fun ov wr => ∃ out : ByteArray, ov = .string out ∧ FirstOn m word.size T out ∧ MachBox R m.st nv m.next ev m.ends wr ∧ Below R w wr) (fun ov _ => word.size - strLen ov)
                    case atStart => exact ⟨_, rfl, HF.out, M8.out _ _, q8.out _ _⟩
                    case round =>
                      obtain ⟨out, rfl, hF, hM, hQ⟩ := hrel
                      have HF9 := Lib.hid hF
                      have M9 := Lib.hid hM
                      have q9 := Lib.hid hQ
                      have ho14 := HRST.out out hF.ok
                      clear hM hQ
                      by_cases hlo : out.size < word.size
                      · have hloI : (out.size : Int) < (word.size : Int) := by omega
                        obtain ⟨x2, r2, hL2, hF2⟩ := hF.next hlo (by omega)
                        have HF2 := Lib.hid hF2
                        have HCALL := Lib.hid (fun W a b => HLA.out out W HF9.out.ok hlo a b)
                        rw [hL2] at HCALL
                        have hsz2 := textL_size (x2 :: r2)
                        have hsl3 := fun W => slice_pre (textL (x2 :: r2)) 1 (by rw [hsz2, List.length_cons]; omega) 1 rfl W
                        rw [textL_head] at hsl3
                        have hls2 : (letS x2).size = 1 := rfl
                        have hcat2 : ¬ (9223372036854775807 < out.size + 1) := by omega
                        have hszm : (out ++ letS x2).size = out.size + 1 := by rw [ByteArray.size_append, hls2]
                        have c0 := M9.out.c0
                        have c1 := M9.out.c1
                        have c2 := M9.out.c2
                        clear hL2 hF2 hF hsz2
                        generalize textL (x2 :: r2) = TL2 at *
                        go_wp2_with fail
                        refine (HCALL.out _ M9.out.ints M9.out.bools).mono ?_
                        rintro e w9 ⟨rfl, hb9⟩
                        have M10 := Lib.hid (M9.out.below hb9)
                        have q10 := Lib.hid (q9.out.trans (hb9.mono (by rw [← HR.out]; exact q9.out.size)))
                        clear c0 c1 c2 hb9
                        go_wp2_with fail
                        go_roundw
                        case rel => exact ⟨out ++ letS x2, rfl, HF2.out, M10.out, q10.out⟩
                        case measure => simp [strLen, hszm]; omega
                      · have HE : Hid (nextWordZ m word = (out, true)) := Lib.hid (by rw [HZT.out, hF.done (by have := hF.sz; omega)])
                        have hloI : ¬ ((out.size : Int) < (word.size : Int)) := by omega
                        clear hF
                        go_wp2_with fail
                        go_ret2
                        exact ⟨(ret_sb HE.out).symm, by rw [HR.out]; exact q9.out⟩
                · obtain rfl : j = Lt.length := by omega
                  have HNN := Lib.hid (HNO.out (HUN.out c hc3 (fun i g => HPREV.out i g g)))
                  generalize textL Lt = TL at *
                  clear hsl hwk
                  go_wp2_with fail
                  go_roundw
                  case rel => exact ⟨t, ki - 1, by omega, by have := HKT.out; omega, by first | rfl | rw [hq6], HNN.out, M6.out, q6.out⟩
                  case measure => simp [intOf]; omega
end Go.Proofs.Ytaghjddndgpljaa
