/- The model's LettersAfter and NextWord. No condition. -/
import Derived.Test.YtaghjddndgpljaaNextImpl
namespace Go.Proofs.Ytaghjddndgpljaa
open Go.RowKit

theorem slice_pre (s : ByteArray) (k : Nat) (h : k ≤ s.size) (ki : Int) (hk : ki = (k : Int)) (w : World) :
    (Instr.slice 9 (.string s) none (some (.int .i64 ki)) none).run Try.prog w = .ok (.string (s.extract 0 k)) w := by
  subst hk
  have h := run_slice_string_h (P := Try.prog) (w := w) (t := 9) (s := s) Try.underlying9 .i64 (k : Int) (by omega) (by omega)
  rwa [Int.toNat_natCast] at h
theorem pre_list (s : ByteArray) (k : Nat) : (s.extract 0 k).data.toList = s.data.toList.take k := by
  rw [ByteArray.data_extract, Array.toList_extract, List.extract_eq_take_drop, List.drop_zero, Nat.sub_zero]
theorem pre_size (s : ByteArray) (k : Nat) (h : k ≤ s.size) : (s.extract 0 k).size = k := by
  have e := len_data (s.extract 0 k)
  rw [pre_list, List.length_take, len_data] at e
  omega
theorem pre_ok {s : ByteArray} (k : Nat) (h : k ≤ s.size) (hw : wordOk s = true) : wordOk (s.extract 0 k) = true := by
  have h14 := wordOk_size hw
  have ha := wordOk_all hw
  simp only [wordOk, Bool.and_eq_true, decide_eq_true_eq]
  rw [pre_list, pre_size s k h]
  exact ⟨allL_take ha k, by omega⟩

set_option maxHeartbeats 3200000 in
theorem specLettersAfter_any (m : M) (word : ByteArray) (n : Int) (nv ev : Value) (w : World) (h1 : IsInts w nv m.next) (h2 : IsBools w ev m.ends) (hst : (Lit.int .i64 m.st).wf = true) (hs : word.size ≤ maxLen) :
    Calls Try.prog 41 #[.agg #[.int .i64 m.st, nv, ev], .string word, .int .i64 n] w fun e w' => e = .returned (.string (lettersAfter m word n)) ∧ Below w.heap.size w w' := by
  obtain ⟨an, nn, cn, rfl⟩ := h1.slice
  obtain ⟨ae, ne, ce, rfl⟩ := h2.slice
  have MB := Lib.hid (MachBox.new (st := m.st) 26 h1 h2)
  have q0 := Lib.hid ((Below.refl w.heap.size w).alloc (Nat.le_refl _) (.cells #[.int .i64 m.st, .slice an nn cn, .slice ae ne ce] 26))
  have HSA := Lib.hid (fun W a b => specStateAfter_any m word (.slice an nn cn) (.slice ae ne ce) W a b hst hs)
  have HCO := Lib.hid (fun W => l1In_any n 0 10 W)
  rw [countedB_eq] at HCO
  have HAB := Lib.hid (M.after_bd m word)
  have HNO : Hid (m.after word < 0 → lettersAfter m word n = ⟨#[]⟩) := Lib.hid (fun h => by
    cases hl : laOk m word n with
    | false => exact lettersAfter_no hl
    | true =>
      obtain ⟨a, b, c, d⟩ := laOk_iff.1 hl
      rw [lettersAfter, if_pos hl, M.letters_neg]
      · rfl
      · rw [← M.after_yes a b]; exact h)
  have y0 := MB.out.c0
  have y1 := MB.out.c1
  have y2 := MB.out.c2
  clear h1 h2
  go_enter Try.func41, Try.ntmps41
  go_upto_region 1 with fail
  generalize (w.alloc (.cells #[.int .i64 m.st, .slice an nn cn, .slice ae ne ce] 26)) = W0 at *
  generalize hR : w.heap.size = R at *
  have HR := Lib.hid hR
  clear hR
  have HPE : Hid (m.after word = m.after word) := Lib.hid rfl
  generalize hp : m.after word = p at *
  have HP := Lib.hid hp
  clear hp
  go_wp2_with fail
  refine (HSA.out _ MB.out.ints MB.out.bools).mono ?_
  rintro e w1 ⟨rfl, hb1⟩
  have M1 := Lib.hid (MB.out.below hb1)
  have q1 := Lib.hid (q0.out.trans (hb1.mono (by rw [← HR.out]; exact q0.out.size)))
  clear y0 y1 y2 hb1 HPE
  by_cases hneg : p < 0
  · have HZ := Lib.hid (HNO.out hneg)
    go_wp2_with fail
    go_ret
    exact ⟨ret_str HZ.out.symm, by rw [HR.out]; exact q1.out⟩
  · obtain ⟨hkk, hww, hps⟩ := HAB.out (by omega)
    have HK := Lib.hid hkk
    have HW := Lib.hid hww
    have HPG : Hid (m.goes 0 word.data.toList = p) := Lib.hid (by rw [← HP.out, M.after_yes hkk hww])
    have h14 := wordOk_size hww
    clear hkk hww HNO HAB
    go_wp2_with fail
    refine (HCO.out _).mono ?_
    rintro e w2 ⟨rfl, rfl⟩
    cases hc : countedB n with
    | false =>
      have HZ := Lib.hid (lettersAfter_no (m := m) (word := word) (n := n) (by rw [laOk, hc]; simp))
      go_wp2_with fail
      go_ret
      exact ⟨ret_str HZ.out.symm, by rw [HR.out]; exact q1.out⟩
    | true =>
      obtain ⟨r, rfl, hr⟩ := countedB_nat hc
      have HC := Lib.hid hc
      clear hc HCO
      have HEND : Hid (¬ word.size < r → lettersAfter m word (r : Int) = textL (m.lettersTo (r - 1 - word.size) p 0)) := Lib.hid (fun h => lettersAfter_no (by rw [laOk, decide_eq_false (show ¬ (word.size : Int) < (r : Int) by omega), Bool.and_false]))
      have HEND2 : Hid (word.size < r → lettersAfter m word (r : Int) = textL (m.lettersTo (r - 1 - word.size) p 3)) := Lib.hid (fun h => by rw [lettersAfter_yes (laOk_iff.2 ⟨HK.out, HW.out, HC.out, by omega⟩), HPG.out]; rfl)
      have hsh := M.ok_shape HK.out
      obtain ⟨g, off, rfl, rfl, hc1', hc2', hg0, hcc0⟩ := ints_cells M1.out.ints (by omega)
      unfold maxLen at hc2'
      have hxl : m.next.length ≤ 144 := by omega
      have HSH := Lib.hid hsh
      clear hcc0 hg0 hsh
      go_wp2_with fail
      go_loopw [7, 9] (fun sv i wr => ∃ l : Nat, l ≤ 3 ∧ i = .int .i64 (l : Int) ∧ sv = .string (textL (m.lettersTo (r - 1 - word.size) p l)) ∧ (m.lettersTo (r - 1 - word.size) p l).length ≤ l ∧ (¬ word.size < r → l = 0) ∧ MachBox R m.st (.slice (some ⟨g, off, none⟩) m.next.length cn) m.next (.slice ae ne ce) m.ends wr ∧ Below R w wr) (fun _ i _ => 3 - (intOf i).toNat)
      case atStart => exact ⟨0, by omega, rfl, rfl, Nat.le_refl _, fun _ => rfl, M1.out, q1.out⟩
      case round =>
        obtain ⟨l, hl, rfl, rfl, hll, hlz, hX, hQ⟩ := hrel
        have X6 := Lib.hid hX
        have q6 := Lib.hid hQ
        clear hX hQ
        by_cases hszr : word.size < r
        · by_cases hl3 : l < 3
          · have c0 := X6.out.c0
            have c1 := X6.out.c1
            have c2 := X6.out.c2
            have hl3I : (l : Int) < 3 := by omega
            have hszI : (word.size : Int) < (r : Int) := by omega
            obtain ⟨g', off', he', -, -, -, hg, hcc⟩ := ints_cells X6.out.ints (by have := HSH.out; omega)
            simp only [Option.some.injEq, Addr.mk.injEq, and_true] at he'
            obtain ⟨rfl, rfl⟩ := he'
            obtain ⟨ix, hx1, hx2, hx3⟩ := M.nx_at HK.out p (l : Int) (by omega) hps (by omega) (by omega)
            have hcell := hcc ix hx2
            have hnb := M.nx_bd HK.out p (l : Int) hps (by omega) (by omega)
            have hst48 : m.st ≤ 48 := HSH.out.2.1
            have hq1 : IntKind.i64.wrap (3 * p) = 3 * p := IntWalk.i64_in _ (by omega)
            have hq2 : IntKind.i64.wrap (3 * p + (l : Int)) = 3 * p + (l : Int) := IntWalk.i64_in _ (by omega)
            have hq3 : 3 * p + (l : Int) = (ix : Int) := hx1.symm
            have hq6 : IntKind.i64.wrap (ix : Int) = (ix : Int) := IntWalk.i64_in _ (by omega)
            have hq4 : IntKind.i64.wrap ((r : Int) - 1) = (r : Int) - 1 := IntWalk.i64_in _ (by omega)
            have hq5 : IntKind.i64.wrap ((r : Int) - 1 - (word.size : Int)) = ((r - 1 - word.size : Nat) : Int) := by rw [IntWalk.i64_in _ (by omega)]; omega
            have hk9 : r - 1 - word.size ≤ 9 := by omega
            rw [← hx3] at hcell
            have HMANY : Hid (∀ W, IsInts W (.slice (some ⟨g, off, none⟩) m.next.length cn) m.next → IsBools W (.slice ae ne ce) m.ends → 0 ≤ m.nx p (l : Int) → Calls Try.prog 91 #[.agg #[.int .i64 m.st, .slice (some ⟨g, off, none⟩) m.next.length cn, .slice ae ne ce], .int .i64 (m.nx p (l : Int)), .int .i64 ((r - 1 - word.size : Nat) : Int)] W fun e w' => e = .returned (.int .i64 (m.ways (r - 1 - word.size) (m.nx p (l : Int)))) ∧ Below W.heap.size W w') := Lib.hid (fun W a b h0 =>
              l6Many_any m (m.nx p (l : Int)) (r - 1 - word.size) _ _ W a b (M.ok_good HK.out) h0 hnb.2 (by omega))
            clear hcc hx1 hx3 hnb
            have HST : Hid (m.lettersTo (r - 1 - word.size) p (l + 1) = if 0 < m.ways (r - 1 - word.size) (m.nx p (l : Int)) then m.lettersTo (r - 1 - word.size) p l ++ [l] else m.lettersTo (r - 1 - word.size) p l) := Lib.hid rfl
            have hsz := textL_size (m.lettersTo (r - 1 - word.size) p l)
            have hcat : ¬ (9223372036854775807 < (textL (m.lettersTo (r - 1 - word.size) p l)).size + 1) := by omega
            have hsl := fun W => rdnW_at l hl3 (l : Int) rfl W
            have hls : (letS l).size = 1 := rfl
            have hwr : IntKind.i64.wrap ((l : Int) + 1) = (l : Int) + 1 := IntWalk.i64_in _ (by omega)
            generalize hkr : r - 1 - word.size = kr at *
            generalize hq : m.lettersTo kr p l = q at *
            clear hq hsz hkr
            have HZZ : Hid (∀ y, y < 0 → m.ways kr y = 0) := Lib.hid (fun y h => m.ways_lt kr y h)
            generalize m.nx p (l : Int) = y at *
            by_cases hy0 : y < 0
            · have HS2 : Hid (m.lettersTo kr p (l + 1) = q) := Lib.hid (HST.out.trans (if_neg (by rw [HZZ.out y hy0]; omega)))
              clear hsl
              go_wp2_with fail
              go_roundw
              case rel => exact ⟨l + 1, by omega, by go_num, by rw [HS2.out], by rw [HS2.out]; omega, fun h => absurd hszr h, X6.out, q6.out⟩
              case measure => simp [intOf]; omega
            · have hyp : 0 ≤ y := by omega
              go_wp2_with fail
              refine (HMANY.out _ X6.out.ints X6.out.bools hyp).mono ?_
              rintro e w7 ⟨rfl, hb7⟩
              have X7 := Lib.hid (X6.out.below hb7)
              have q7 := Lib.hid (q6.out.trans (hb7.mono (by rw [← HR.out]; exact q6.out.size)))
              clear c0 c1 c2 hb7
              generalize m.ways kr y = x at *
              by_cases hx : 0 < x
              · have HS2 : Hid (m.lettersTo kr p (l + 1) = q ++ [l]) := Lib.hid (HST.out.trans (if_pos hx))
                go_wp2_with fail
                go_roundw
                case rel => exact ⟨l + 1, by omega, by go_num, by rw [HS2.out, textL_more], by rw [HS2.out, List.length_append, List.length_singleton]; omega, fun h => absurd hszr h, X7.out, q7.out⟩
                case measure => simp [intOf]; omega
              · have HS2 : Hid (m.lettersTo kr p (l + 1) = q) := Lib.hid (HST.out.trans (if_neg hx))
                clear hsl
                go_wp2_with fail
                go_roundw
                case rel => exact ⟨l + 1, by omega, by go_num, by rw [HS2.out], by rw [HS2.out]; omega, fun h => absurd hszr h, X7.out, q7.out⟩
                case measure => simp [intOf]; omega
          · obtain rfl : l = 3 := by omega
            have HE := Lib.hid (HEND2.out hszr)
            generalize textL (m.lettersTo (r - 1 - word.size) p 3) = q at *
            go_wp2_with fail
            go_ret
            exact ⟨ret_str HE.out.symm, by rw [HR.out]; exact q6.out⟩
        · obtain rfl : l = 0 := hlz hszr
          have HE := Lib.hid (HEND.out hszr)
          have hszI : ¬ ((word.size : Int) < (r : Int)) := by omega
          generalize textL (m.lettersTo (r - 1 - word.size) p 0) = q at *
          go_wp2_with fail
          go_ret
          exact ⟨ret_str HE.out.symm, by rw [HR.out]; exact q6.out⟩

theorem letter_byteOf : ∀ l, l < 3 → letterOf ((byteOf l).toNat : Int) = (l : Int)
  | 0, _ => by decide
  | 1, _ => by decide
  | 2, _ => by decide
theorem textL_one (l : List Nat) (j : Nat) (h : j < l.length) : (textL l).extract j (j + 1) = letS l[j] := by
  apply bytes_ext
  rw [ByteArray.data_extract, Array.toList_extract, List.extract_eq_take_drop, textL_list, show j + 1 - j = 1 by omega, List.drop_eq_getElem_cons (by rw [List.length_map]; exact h)]
  simp [letS]
theorem textL_head (x : Nat) (l : List Nat) : (textL (x :: l)).extract 0 1 = letS x := by
  have := textL_one (x :: l) 0 (by simp)
  simpa using this
theorem bytes_eta (s : ByteArray) : (⟨s.data.toList.toArray⟩ : ByteArray) = s := bytes_ext (by simp)
/-- the next word, when the letter behind the first ones is found -/
theorem nextUp_at {m : M} {word : ByteArray} {t l : Nat} (ht : t < word.size) (hn : m.nextUp (m.goes 0 (word.data.toList.take (t + 1))) (word.data.toList.drop (t + 1)) = none)
    (hu : m.upFrom (word.size - 1 - t) (m.goes 0 (word.data.toList.take t)) ((letterOf (word[t].toNat : Int)).toNat + 1) = some l) :
    m.nextUp 0 word.data.toList = some (word.data.toList.take t ++ byteOf l :: m.wordOn (word.size - 1 - t) (m.nx (m.goes 0 (word.data.toList.take t)) (l : Int)) 0) := by
  have hl : t < word.data.toList.length := by rw [len_data]; exact ht
  have h := M.nextUp_pre (m := m) (s := 0) (u := word.data.toList.take t) (v := word.data.toList.drop t) (x := byteOf l :: m.wordOn (word.size - 1 - t) (m.nx (m.goes 0 (word.data.toList.take t)) (l : Int)) 0) (by
    have hg := m.goes_snoc 0 word t ht
    rw [List.drop_eq_getElem_cons hl, M.nextUp, List.length_drop, len_data, show word.size - (t + 1) = word.size - 1 - t by omega]
    have e : word.data.toList[t] = word[t] := rfl
    rw [e, ← hg, hn]
    simp only
    rw [hu])
  rw [List.take_append_drop] at h; exact h
theorem nextUp_not {m : M} {word : ByteArray} {t : Nat} (ht : t < word.size) (hn : m.nextUp (m.goes 0 (word.data.toList.take (t + 1))) (word.data.toList.drop (t + 1)) = none)
    (hu : m.upFrom (word.size - 1 - t) (m.goes 0 (word.data.toList.take t)) ((letterOf (word[t].toNat : Int)).toNat + 1) = none) :
    m.nextUp (m.goes 0 (word.data.toList.take t)) (word.data.toList.drop t) = none := by
  have hl : t < word.data.toList.length := by rw [len_data]; exact ht
  have hg := m.goes_snoc 0 word t ht
  rw [List.drop_eq_getElem_cons hl, M.nextUp, List.length_drop, len_data, show word.size - (t + 1) = word.size - 1 - t by omega]
  have e : word.data.toList[t] = word[t] := rfl
  rw [e, ← hg, hn]
  simp only
  rw [hu]
/-- a word that is gone on with the first letters -/
structure FirstOn (m : M) (n : Nat) (target : List UInt8) (out : ByteArray) : Prop where
  sz : out.size ≤ n
  ok : wordOk out = true
  on : out.data.toList ++ m.wordOn (n - out.size) (m.goes 0 out.data.toList) 0 = target
  pos : 0 < m.ways (n - out.size) (m.goes 0 out.data.toList)
theorem FirstOn.next {m : M} {n : Nat} {target : List UInt8} {out : ByteArray} (h : FirstOn m n target out) (hlt : out.size < n) (hn : n ≤ 10) :
    ∃ x r, m.letters (n - 1 - out.size) (m.goes 0 out.data.toList) = x :: r ∧ FirstOn m n target (out ++ letS x) := by
  have hp := h.pos
  have ho := h.on
  obtain ⟨k, hk⟩ : ∃ k, n - out.size = k + 1 := ⟨n - out.size - 1, by omega⟩
  rw [hk] at hp ho
  obtain ⟨r, h1, h2, h3, h4⟩ := M.letters_first hp
  have hk2 : n - 1 - out.size = k := by omega
  have hs : (letS (m.pick k (m.goes 0 out.data.toList) 0)).size = 1 := rfl
  refine ⟨_, r, by rw [hk2]; exact h1, ?_, ?_, ?_, ?_⟩
  · rw [ByteArray.size_append, hs]; omega
  · exact wordOk_more h.ok (by omega) _ h4
  · rw [ByteArray.size_append, hs, show n - (out.size + 1) = k by omega, goes_more m out _ h4, letS_app, List.append_assoc, ← ho, h2]; rfl
  · rw [ByteArray.size_append, hs, show n - (out.size + 1) = k by omega, goes_more m out _ h4]; exact h3
theorem FirstOn.done {m : M} {n : Nat} {target : List UInt8} {out : ByteArray} (h : FirstOn m n target out) (he : out.size = n) : (⟨target.toArray⟩ : ByteArray) = out := by
  have ho := h.on
  rw [he, Nat.sub_self, M.wordOn, List.append_nil] at ho
  rw [← ho, bytes_eta]
theorem FirstOn.start {m : M} {word : ByteArray} {t l : Nat} (ht : t < word.size) (hw : wordOk word = true) (hl : l < 3) (hx : 0 < m.ways (word.size - 1 - t) (m.nx (m.goes 0 (word.data.toList.take t)) (l : Int))) :
    FirstOn m word.size (word.data.toList.take t ++ byteOf l :: m.wordOn (word.size - 1 - t) (m.nx (m.goes 0 (word.data.toList.take t)) (l : Int)) 0) (word.extract 0 t ++ letS l) := by
  have hs : (letS l).size = 1 := rfl
  have hz := pre_size word t (by omega)
  have h14 := wordOk_size hw
  have hk : word.size - (word.extract 0 t ++ letS l).size = word.size - 1 - t := by rw [ByteArray.size_append, hs, hz]; omega
  refine ⟨by rw [ByteArray.size_append, hs, hz]; omega, wordOk_more (pre_ok t (by omega) hw) (by rw [hz]; omega) _ hl, ?_, ?_⟩
  · rw [hk, goes_more m _ l hl, letS_app, pre_list, List.append_assoc]; rfl
  · rw [hk, goes_more m _ l hl, pre_list]; exact hx
theorem letters_mem {m : M} {k : Nat} {s : Int} {j : Nat} (h : j < (m.letters k s).length) : 0 < m.ways k (m.nx s (((m.letters k s)[j] : Nat) : Int)) := by
  have hm : (m.letters k s)[j] ∈ m.letters k s := List.getElem_mem h
  have key : ∀ n x, x ∈ m.lettersTo k s n → 0 < m.ways k (m.nx s (x : Int)) := by
    intro n
    induction n with
    | zero => intro x hx; cases hx
    | succ n ih =>
      intro x hx
      rw [M.lettersTo] at hx
      split at hx
      · rename_i hp
        rcases List.mem_append.1 hx with hx | hx
        · exact ih x hx
        · obtain rfl : x = n := by simpa using hx
          exact hp
      · exact ih x hx
  exact key 3 _ hm
end Go.Proofs.Ytaghjddndgpljaa
