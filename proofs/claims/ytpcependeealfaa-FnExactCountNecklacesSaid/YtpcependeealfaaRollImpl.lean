/- impl.LeastRoll and impl.RollsOf: what each returns, for every text. No condition. -/
import Derived.Test.YtpcependeealfaaRollSpec
import Derived.Test.YtpcependeealfaaOwn
import Derived.Test.YtpcependeealfaaAfter
namespace Go.Proofs.Ytpcependeealfaa
open Go.RowKit

/-- two words of letters, compared by their first letters that differ -/
def ordOf : List UInt8 → List UInt8 → Int
  | a :: xs, b :: bs => if letterOf (a.toNat : Int) = letterOf (b.toNat : Int) then ordOf xs bs else if letterOf (a.toNat : Int) < letterOf (b.toNat : Int) then -1 else 1
  | _, _ => 0
theorem ordOf_befR (a b : List UInt8) (ha : allL a = true) (hb : allL b = true) : decide (ordOf a b < 0) = befR a b := by
  induction a generalizing b with
  | nil => rfl
  | cons x xs ih =>
    cases b with
    | nil => rfl
    | cons y ys =>
      simp only [allL, List.all_cons, Bool.and_eq_true] at ha hb
      rw [ordOf, befR]
      by_cases h : letterOf (x.toNat : Int) = letterOf (y.toNat : Int)
      · rw [if_pos h, if_pos (letter_inj ha.1 hb.1 h)]
        exact ih ys ha.2 hb.2
      · have hxy : ¬ x = y := fun e => h (by rw [e])
        rw [if_neg h, if_neg hxy]
        by_cases g : letterOf (x.toNat : Int) < letterOf (y.toNat : Int)
        · rw [if_pos g, decide_eq_true g]; rfl
        · rw [if_neg g, decide_eq_false g]; rfl
/-- what cmp.Compare says of two numbers -/
def cmpI (x y : Int) : Int := if x < y then -1 else if y < x then 1 else 0
theorem isNaN_any (x : Int) (w : World) : Calls Try.prog 126 #[.int .i64 x] w fun e w' => e = .returned (.bool false) ∧ w = w' := by
  go_enter Try.func126, Try.ntmps126
  go_wp2_with fail
  go_ret
  exact ⟨ret_bool (by simp), rfl⟩
theorem compare_any (x y : Int) (w : World) : Calls Try.prog 119 #[.int .i64 x, .int .i64 y] w fun e w' => e = .returned (.int .i64 (cmpI x y)) ∧ w = w' := by
  by_cases h1 : x < y
  · have H := Lib.hid (show cmpI x y = -1 by rw [cmpI, if_pos h1])
    go_enter Try.func119, Try.ntmps119
    go_wp2_with (go_at_call 126; refine (isNaN_any _ _).mono ?_; rintro e w' ⟨rfl, rfl⟩)
    go_ret
    exact ⟨ret_int H.out.symm, rfl⟩
  · by_cases h2 : y < x
    · have H := Lib.hid (show cmpI x y = 1 by rw [cmpI, if_neg h1, if_pos h2])
      go_enter Try.func119, Try.ntmps119
      go_wp2_with (go_at_call 126; refine (isNaN_any _ _).mono ?_; rintro e w' ⟨rfl, rfl⟩)
      go_ret
      exact ⟨ret_int H.out.symm, rfl⟩
    · have H := Lib.hid (show cmpI x y = 0 by rw [cmpI, if_neg h1, if_neg h2])
      go_enter Try.func119, Try.ntmps119
      go_wp2_with (go_at_call 126; refine (isNaN_any _ _).mono ?_; rintro e w' ⟨rfl, rfl⟩)
      go_ret
      exact ⟨ret_int H.out.symm, rfl⟩

theorem ordOf_skip {a b : ByteArray} {k : Nat} (h : k < a.size) (g : k < b.size) (e : cmpI (letterOf (a[k].toNat : Int)) (letterOf (b[k].toNat : Int)) = 0) : ordOf (a.data.toList.drop k) (b.data.toList.drop k) = ordOf (a.data.toList.drop (k + 1)) (b.data.toList.drop (k + 1)) := by
  have ha : k < a.data.toList.length := by rw [len_data]; exact h
  have hb : k < b.data.toList.length := by rw [len_data]; exact g
  rw [List.drop_eq_getElem_cons ha, List.drop_eq_getElem_cons hb, ordOf]
  have e1 : a.data.toList[k] = a[k] := rfl
  have e2 : b.data.toList[k] = b[k] := rfl
  rw [e1, e2, if_pos]
  rw [cmpI] at e
  split at e
  · cases e
  · split at e
    · cases e
    · omega
theorem ordOf_part {a b : ByteArray} {k : Nat} (h : k < a.size) (g : k < b.size) (e : ¬ cmpI (letterOf (a[k].toNat : Int)) (letterOf (b[k].toNat : Int)) = 0) : ordOf (a.data.toList.drop k) (b.data.toList.drop k) = cmpI (letterOf (a[k].toNat : Int)) (letterOf (b[k].toNat : Int)) := by
  have ha : k < a.data.toList.length := by rw [len_data]; exact h
  have hb : k < b.data.toList.length := by rw [len_data]; exact g
  rw [List.drop_eq_getElem_cons ha, List.drop_eq_getElem_cons hb, ordOf]
  have e1 : a.data.toList[k] = a[k] := rfl
  have e2 : b.data.toList[k] = b[k] := rfl
  rw [e1, e2]
  rw [cmpI] at e ⊢
  split at e
  · rename_i h1; rw [if_neg (by omega), if_pos h1, if_pos h1]
  · rename_i h1
    split at e
    · rename_i h2; rw [if_neg (by omega), if_neg h1, if_neg h1, if_pos h2]
    · exact absurd rfl e
theorem ordOf_end (a b : ByteArray) : ordOf (a.data.toList.drop a.size) (b.data.toList.drop a.size) = 0 := by
  rw [List.drop_of_length_le (by rw [len_data]; exact Nat.le_refl _)]; rfl

set_option maxHeartbeats 1600000 in
theorem implOrder_any (a b : ByteArray) (w : World) (hl : a.size = b.size) (hs : a.size ≤ 14) (ha : allL a.data.toList = true) (hb : allL b.data.toList = true) :
    Calls Try.prog 86 #[.string a, .string b] w fun e w' => e = .returned (.int .i64 (ordOf a.data.toList b.data.toList)) ∧ ∃ n, w' = w.drewN n := by
  have HA := Lib.hid (show wordOk a = true by simp [wordOk, ha]; omega)
  have HB := Lib.hid (show wordOk b = true by simp [wordOk, hb]; omega)
  clear ha hb
  go_enter Try.func86, Try.ntmps86
  go_wp2_with fail
  go_loopw [5, 6, 9] (fun _ _ i wr => ∃ k : Nat, k ≤ a.size ∧ i = .int .i64 k ∧ ordOf (a.data.toList.drop k) (b.data.toList.drop k) = ordOf a.data.toList b.data.toList ∧ ∃ n, wr = w.drewN n) (fun _ _ i _ => a.size - (intOf i).toNat)
  case atStart => exact ⟨0, Nat.zero_le _, rfl, rfl, 0, rfl⟩
  case round =>
    obtain ⟨k, hk, rfl, hb, n, rfl⟩ := hrel
    have HO := Lib.hid hb
    clear hb
    by_cases hlt : k < a.size
    · have hlt2 : k < b.size := by omega
      have HC1 := Lib.hid (idxLetter_any a[k] (wordOk_at HA.out k hlt))
      have HC2 := Lib.hid (idxLetter_any b[k] (wordOk_at HB.out k hlt2))
      by_cases he : cmpI (letterOf (a[k].toNat : Int)) (letterOf (b[k].toNat : Int)) = 0
      · have HS := Lib.hid (ordOf_skip hlt hlt2 he)
        have HC3 := Lib.hid (compare_any (letterOf (a[k].toNat : Int)) (letterOf (b[k].toNat : Int)))
        rw [he] at HC3
        clear he
        go_wp2_with fail
        go_region_with (first | (go_at_call 82; (first | with_reducible refine (HC1.out _).mono ?_ | with_reducible refine (HC2.out _).mono ?_); rintro e w' ⟨rfl, rfl⟩) | (go_at_call 119; refine (HC3.out _).mono ?_; rintro e w' ⟨rfl, rfl⟩))
        all_goals
          go_wp2_with fail
          go_roundw
          case rel => exact ⟨k + 1, by omega, by go_num, by rw [← HS.out, HO.out], _, rfl⟩
          case measure => simp [intOf]; omega
      · have HS := Lib.hid (ordOf_part hlt hlt2 he)
        have HC3 := Lib.hid (compare_any (letterOf (a[k].toNat : Int)) (letterOf (b[k].toNat : Int)))
        generalize cmpI (letterOf (a[k].toNat : Int)) (letterOf (b[k].toNat : Int)) = c at *
        have hbz : (c == 0) = false := by simpa using he
        clear he
        go_wp2_with fail
        go_region_with (first | (go_at_call 82; (first | with_reducible refine (HC1.out _).mono ?_ | with_reducible refine (HC2.out _).mono ?_); rintro e w' ⟨rfl, rfl⟩) | (go_at_call 119; refine (HC3.out _).mono ?_; rintro e w' ⟨rfl, rfl⟩))
        all_goals
          go_wp2_with fail
          go_ret
          exact ⟨ret_int (by rw [← HO.out, HS.out]), _, rfl⟩
    · obtain rfl : k = a.size := by omega
      have HE := Lib.hid (ordOf_end a b)
      go_wp2_with fail
      go_ret
      exact ⟨ret_int (by rw [← HO.out, HE.out]), n, rfl⟩

/-- the first rolls of a word, as values -/
def rollsV (l : List UInt8) (n : Nat) : List Value := (List.range n).map fun k => .string (txtOf (rt k l))
theorem rollsV_length (l : List UInt8) (n : Nat) : (rollsV l n).length = n := by simp [rollsV]
theorem rollsV_more (l : List UInt8) (n : Nat) : rollsV l (n + 1) = rollsV l n ++ [.string (txtOf (rt n l))] := by simp [rollsV, List.range_succ]
theorem rollsV_at (l : List UInt8) (n k : Nat) (h : k < n) : (rollsV l n)[k]? = some (.string (txtOf (rt k l))) := by simp [rollsV, h]
/-- a row of the first rolls -/
def RollRow (w : World) (v : Value) (l : List UInt8) (n : Nat) : Prop := ∃ g cap, v = .slice (some ⟨g, 0, none⟩) n cap ∧ g < w.heap.size ∧ ∀ k, k < n → w.cell? ⟨g, k, none⟩ = some (.string (txtOf (rt k l)))
theorem RollRow.below {w w' : World} {v : Value} {l : List UInt8} {n : Nat} (h : RollRow w v l n) (hb : Below w.heap.size w w') : RollRow w' v l n := by
  obtain ⟨g, cap, rfl, h1, h2⟩ := h
  exact ⟨g, cap, rfl, Nat.lt_of_lt_of_le h1 hb.size, fun k hk => (hb.cell (p := ⟨g, k, none⟩) h1).trans (h2 k hk)⟩
theorem RollRow.of {w : World} {v : Value} {l : List UInt8} {n : Nat} (h : w.ownsRow 0 9 1 v n (rollsV l n)) (hn : 0 < n) : RollRow w v l n := by
  rcases h.2 with ⟨rfl, hz⟩ | ⟨g, cap, cur, rfl, _⟩
  · omega
  · exact ⟨g, cap, rfl, (World.ownsRow.lt h g rfl).2, fun k hk => (World.ownsRow.cellAt h k (by omega)).trans (rollsV_at l n k hk)⟩
theorem cellR (w : World) (u : Value) (t : TypeId) : ∀ j x, [u][j]? = some x → (w.alloc (.cells #[u] t)).cell? ((⟨w.heap.size, 0, none⟩ : Addr).add j) = some x := by
  intro j x h
  cases j with
  | zero =>
    simp only [List.getElem?_cons_zero, Option.some.injEq] at h
    subst h
    exact World.cell?_alloc_new w _ t 0
  | succ j => simp at h
theorem infoStrR : (Try.prog.info? 9).map (fun i => (i.zero, i.size, i.bytes)) = some (some (.string ⟨#[]⟩), 1, 16) := by kernel_rfl

set_option maxHeartbeats 1600000 in
theorem implRolls_any (s : ByteArray) (w : World) (hw : wordOk s = true) :
    Calls Try.prog 85 #[.string s] w fun e w' => ∃ v, e = .returned v ∧ RollRow w' v s.data.toList (max s.size 1) ∧ Below w.heap.size w w' := by
  obtain ⟨u0, hu, hz0, hz1, hz2⟩ := info_parts infoStrR
  have HU := Lib.hid (And.intro hu (And.intro hz0 (And.intro hz1 hz2)))
  clear hu hz0 hz1 hz2
  have h14 := wordOk_size hw
  have HW := Lib.hid hw
  have HRB := Lib.hid (fun (k : Nat) (hk : k ≤ s.size) W => implRolledBy_any s (k : Int) W (Nat.le_trans h14 (by unfold maxLen; omega)))
  have O0 := Lib.hid ((Own.nil w).lit 9 #[.string s] 1 rfl (by unfold maxLen; omega))
  have HR0 : Hid (rollsV s.data.toList 1 = [.string s]) := Lib.hid (by simp [rollsV, rt, txtOf_data])
  clear hw
  go_enter Try.func85, Try.ntmps85
  go_wp2_with fail
  go_loopw [3, 4, 5, 6] (fun v i _ _ wr => ∃ (k : Nat) (ki : Int), ki = (k : Int) ∧ 1 ≤ k ∧ (k ≤ s.size ∨ k = 1) ∧ i = .int .i64 ki ∧ Own w [rowT 9 1 v k (rollsV s.data.toList k)] wr) (fun _ i _ _ _ => s.size - (intOf i).toNat)
  case atStart => exact ⟨1, 1, rfl, Nat.le_refl _, .inr rfl, rfl, by rw [HR0.out]; exact O0.out⟩
  case round =>
    obtain ⟨k, ki, hki, hk1, hk, rfl, hO⟩ := hrel
    obtain ⟨wa, wc, rfl⟩ := ownsRow_slice (hO.row 0 (by simp) rfl)
    have O1 := Lib.hid hO
    have HKI := Lib.hid hki
    have hq : IntKind.i64.wrap (ki + 1) = ki + 1 := IntWalk.i64_in _ (by omega)
    by_cases hlt : k < s.size
    · have hltI : ki < (s.size : Int) := by omega
      have HC := Lib.hid (HRB.out k (by omega))
      obtain ⟨r1, r2⟩ := rolledStr_word HW.out k (by omega)
      rw [r1, r2, ← hki] at HC
      clear hki hk hO r1 r2
      go_wp2_with fail
      refine (HC.out _).mono ?_
      rintro e w1 ⟨rfl, n1, rfl⟩
      have O2 := Lib.hid (O1.out.drewN n1)
      have HM := Lib.hid (rollsV_more s.data.toList k)
      generalize (wr.drewN n1) = W1 at *
      go_wp2_with (at_builtin; refine wpList_append_lies _ rfl _ _ 86 rfl 0 9 u0 (.string ⟨#[]⟩) 1 16 Try.underlying86 HU.out.1 HU.out.2.1 HU.out.2.2.1 HU.out.2.2.2 rfl (by decide) (.slice wa k wc) k (rollsV s.data.toList k) rfl ((O2.out.row 0 (by simp) rfl).alloc _) ⟨W1.heap.size, 0, none⟩ 1 1 [.string (txtOf (rt k s.data.toList))] rfl rfl (cellR _ _ _) (by simp [Value.oneCell']) (by omega) (by unfold maxLen; omega) (by omega) (Nat.zero_le _) _ rfl ?_; intro g9 cp w6 hown hgrow hat hlt3; have O5 := Lib.hid (O2.out.push (i := 0) (by simp) rfl hgrow hown hat); clear hown hgrow hat hlt3)
      go_roundw
      case rel => exact ⟨k + 1, ki + 1, by have := HKI.out; omega, by omega, .inl (by omega), by first | rfl | rw [hq], by rw [HM.out]; exact O5.out⟩
      case measure => simp [intOf]; have := HKI.out; omega
    · have hnlt : ¬ ki < (s.size : Int) := by omega
      have hkm : k = max s.size 1 := by rcases hk with h | h <;> omega
      clear hki hk hO
      go_wp2_with fail
      go_ret
      refine ⟨_, rfl, ?_, O1.out.keep⟩
      rw [← hkm]
      exact RollRow.of (O1.out.row 0 (by simp) rfl) (by omega)

set_option maxHeartbeats 1600000 in
theorem implMin_any (l : List UInt8) (n : Nat) (v : Value) (w : World) (hl : allL l = true) (h14 : l.length ≤ 14) (hn : 0 < n) (hn2 : n ≤ 14) (h : RollRow w v l n) :
    Calls Try.prog 84 #[v, .func (.func 86) #[] #[]] w fun e w' => e = .returned (.string (txtOf (leastTo l (n - 1)))) ∧ ∃ n, w' = w.drewN n := by
  obtain ⟨g, cap, rfl, hg, hc⟩ := h
  have HC := Lib.hid hc
  have c0 := hc 0 hn
  rw [rt, show txtOf l = txtOf (leastTo l 0) from rfl] at c0
  have HL := Lib.hid hl
  have hn1 : ¬ (n : Int) < 1 := by omega
  have hn0 : (0 : Int) < (n : Int) := by omega
  clear hc hl
  go_enter Try.func84, Try.ntmps84
  go_wp2_with fail
  go_loopw [5, 6] (fun b i wr => ∃ (k : Nat) (ki : Int), ki = (k : Int) + 1 ∧ k + 1 ≤ n ∧ i = .int .i64 ki ∧ b = .string (txtOf (leastTo l k)) ∧ ∃ m, wr = w.drewN m) (fun _ i _ => n - (intOf i).toNat)
  case atStart => exact ⟨0, 1, rfl, by omega, rfl, rfl, 0, rfl⟩
  case round =>
    obtain ⟨k, ki, hki, hk, rfl, rfl, m, rfl⟩ := hrel
    have HKI := Lib.hid hki
    have hq : IntKind.i64.wrap (ki + 1) = ki + 1 := IntWalk.i64_in _ (by omega)
    clear c0
    by_cases hlt : k + 1 < n
    · have hltI : ki < (n : Int) := by omega
      have h0 : 0 ≤ ki := by omega
      have htn : ki.toNat = k + 1 := by omega
      have c1 : ∀ q, (w.drewN q).cell? ⟨g, k + 1, none⟩ = some (.string (txtOf (rt (k + 1) l))) := fun _ => HC.out (k + 1) hlt
      have HO := Lib.hid (fun W => implOrder_any (txtOf (rt (k + 1) l)) (txtOf (leastTo l k)) W (by rw [txtOf_size, txtOf_size, rt_length, leastTo_length]) (by rw [txtOf_size, rt_length]; exact h14) (by rw [txtOf_list, rt_all]; exact HL.out) (by rw [txtOf_list]; obtain ⟨j, _, e⟩ := leastTo_is l k; rw [e, rt_all]; exact HL.out))
      have hdec := ordOf_befR (rt (k + 1) l) (leastTo l k) (by rw [rt_all]; exact HL.out) (by obtain ⟨j, _, e⟩ := leastTo_is l k; rw [e, rt_all]; exact HL.out)
      rw [txtOf_list, txtOf_list] at HO
      generalize ordOf (rt (k + 1) l) (leastTo l k) = o at *
      cases hb : befR (rt (k + 1) l) (leastTo l k) with
      | true =>
        have HS := Lib.hid (leastTo_succ hb)
        rw [hb, decide_eq_true_eq] at hdec
        clear hki hb
        go_wp2_with (go_at_call 86; refine (HO.out _).mono ?_; rintro e w' ⟨rfl, n2, rfl⟩)
        go_roundw
        case rel => exact ⟨k + 1, ki + 1, by have := HKI.out; omega, by omega, by first | rfl | rw [hq], by rw [HS.out]; rfl, _, by first | rfl | exact World.drewN_drewN _ _ _⟩
        case measure => simp [intOf]; have := HKI.out; omega
      | false =>
        have HS := Lib.hid (leastTo_succ hb)
        rw [hb, decide_eq_false_iff_not] at hdec
        clear hki hb
        go_wp2_with (go_at_call 86; refine (HO.out _).mono ?_; rintro e w' ⟨rfl, n2, rfl⟩)
        go_roundw
        case rel => exact ⟨k + 1, ki + 1, by have := HKI.out; omega, by omega, by first | rfl | rw [hq], by rw [HS.out]; rfl, _, by first | rfl | exact World.drewN_drewN _ _ _⟩
        case measure => simp [intOf]; have := HKI.out; omega
    · have hnlt : ¬ ki < (n : Int) := by omega
      have hkn : n - 1 = k := by omega
      clear hki
      go_wp2_with fail
      go_ret
      exact ⟨ret_str (by first | rfl | rw [hkn]), m, rfl⟩

set_option maxHeartbeats 800000 in
theorem implLeastRoll_any (s : ByteArray) (w : World) (hs : s.size ≤ maxLen) :
    Calls Try.prog 47 #[.string s] w fun e w' => e = .returned (.string (leastRoll s)) ∧ Below w.heap.size w w' := by
  by_cases hw : wordOk s = true
  · have h14 := wordOk_size hw
    have HE := Lib.hid (leastRoll_yes hw)
    have HC : Hid (Calls Try.prog 45 #[.string s] w fun e w' => e = .returned (.bool true) ∧ w = w') := Lib.hid (by have := implWordOk_any s w hs; rwa [hw] at this)
    have HR := Lib.hid (fun W => implRolls_any s W hw)
    have HM := Lib.hid (fun v W h => implMin_any s.data.toList (max s.size 1) v W (wordOk_all hw) (word_size hw) (by omega) (by omega) h)
    clear hw hs
    go_enter Try.func47, Try.ntmps47
    go_wp2_with (go_at_call 45; refine HC.out.mono ?_; rintro e w' ⟨rfl, rfl⟩)
    refine (HR.out _).mono ?_
    rintro e w1 ⟨v, rfl, hrow, hb1⟩
    have HROW := Lib.hid hrow
    obtain ⟨g, cap, rfl, -, -⟩ := hrow
    have HB1 := Lib.hid hb1
    clear hb1
    go_wp2_with fail
    refine (HM.out _ _ HROW.out).mono ?_
    rintro e w2 ⟨rfl, n2, rfl⟩
    go_wp2_with fail
    go_ret
    exact ⟨ret_str (by rw [HE.out, show max s.size 1 - 1 = s.size - 1 by omega]), below_drewN HB1.out _⟩
  · have hwf : wordOk s = false := by simpa using hw
    have HE := Lib.hid (leastRoll_no hwf)
    have HC : Hid (Calls Try.prog 45 #[.string s] w fun e w' => e = .returned (.bool false) ∧ w = w') := Lib.hid (by have := implWordOk_any s w hs; rwa [hwf] at this)
    clear hw hwf hs
    go_enter Try.func47, Try.ntmps47
    go_wp2_with (go_at_call 45; refine HC.out.mono ?_; rintro e w' ⟨rfl, rfl⟩)
    go_ret
    exact ⟨ret_str HE.out.symm, Below.refl _ _⟩
end Go.Proofs.Ytpcependeealfaa
