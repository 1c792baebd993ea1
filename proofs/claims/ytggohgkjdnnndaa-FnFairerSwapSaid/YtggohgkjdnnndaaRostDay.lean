/- DayOf and CoverOk of the program and of the model: what each returns, for every argument. No condition. -/
import Derived.Test.YtggohgkjdnnndaaRostOk
import Derived.Test.YtggohgkjdnnndaaOwnD
import Derived.Test.YtggohgkjdnnndaaCount
import Derived.Deep.AppendLies
import Derived.Maps.AppendAt
import Derived.Laws.Strings2
namespace Go.Proofs.Ytggohgkjdnnndaa
open Go.RowKit

theorem infoU8R : (Try.prog.info? 5).map (fun i => (i.zero, i.size, i.bytes)) = some (some (.int .u8 0), 1, 1) := by kernel_rfl
theorem cellRD (w : World) (u : Value) (t : TypeId) : ∀ j x, [u][j]? = some x → (w.alloc (.cells #[u] t)).cell? ((⟨w.heap.size, 0, none⟩ : Addr).add j) = some x := by
  intro j x h
  match j, h with
  | 0, h =>
    simp only [List.getElem?_cons_zero, Option.some.injEq] at h
    subst h
    rw [add_off, Nat.zero_add, World.cell?_alloc_new]; rfl
/-- the bytes of a row -/
def bvR (p : List UInt8) : List Value := p.map fun b => .int .u8 (b.toNat : Int)
theorem bvR_more (p : List UInt8) (b : UInt8) : bvR (p ++ [b]) = bvR p ++ [.int .u8 (b.toNat : Int)] := by simp [bvR]
theorem bvR_at (p : List UInt8) (j : Nat) (h : j < p.length) : (bvR p)[j]? = some (.int .u8 (p[j].toNat : Int)) := by simp [bvR, h]
/-- a row of bytes as a string -/
theorem row_convertR {W : World} {v : Value} {p : List UInt8} (h : W.ownsRow 0 5 1 v p.length (bvR p)) : (convert 22 9 v).run Try.prog W = .ok (.string ⟨p.toArray⟩) W := by
  rcases h.2 with ⟨rfl, hn⟩ | ⟨g, cap, cur, rfl, _⟩
  · obtain rfl : p = [] := List.eq_nil_of_length_eq_zero hn
    kernel_rfl
  · refine run_convert_bytes_back (P := Try.prog) W 22 9 5 ⟨g, 0, none⟩ cap p Try.underlying22 Try.underlying5 Try.underlying9 (fun j hj => ?_)
    have hc := World.ownsRow.cellAt h j (by omega)
    rw [bvR_at p j hj] at hc
    rw [add_off, Nat.zero_add]; exact hc
theorem ownsRow_sliceR {w : World} {b : Nat} {e : TypeId} {size : Nat} {v : Value} {n : Nat} {xs : List Value} (h : w.ownsRow b e size v n xs) : ∃ a c, v = .slice a n c := by
  rcases h.2 with ⟨rfl, rfl⟩ | ⟨g, cap, cur, rfl, _⟩
  · exact ⟨_, _, rfl⟩
  · exact ⟨_, _, rfl⟩
/-- the letters of the first rows -/
def dayTo (xs : List ByteArray) (d k : Nat) : List UInt8 := dayBytes (xs.take k) d
theorem dayTo_zero (xs : List ByteArray) (d : Nat) : dayTo xs d 0 = [] := rfl
theorem dayTo_succ (xs : List ByteArray) (d k : Nat) (h : k < xs.length) : dayTo xs d (k + 1) = dayTo xs d k ++ [byteAt xs[k] d] := dayBytes_take xs d k h
theorem dayTo_length (xs : List ByteArray) (d k : Nat) (h : k ≤ xs.length) : (dayTo xs d k).length = k := by
  simp only [dayTo, dayBytes, List.length_map, List.length_take]; omega
theorem dayTo_all (xs : List ByteArray) (d : Nat) : (⟨(dayTo xs d xs.length).toArray⟩ : ByteArray) = dayStr xs d := by
  simp [dayTo, dayStr]

set_option maxHeartbeats 3200000 in
theorem implDayOf_yes (v : Value) (xs : List ByteArray) (hwf : Short xs) (d : Nat) (w : World) (h : IsStrs w v xs) (hok : rosterOk xs = true) (hd : d < daysOf xs) :
    Calls Try.prog 19 #[v, .int .i64 (d : Int)] w fun e w' => e = .returned (.string (dayStr xs d)) ∧ Below w.heap.size w w' := by
  have HR := Lib.hid (implRosterOk_any v xs hwf w h)
  rw [hok] at HR
  have H := Lib.hid h
  obtain ⟨u0, hu, hz0, hz1, hz2⟩ := info_parts infoU8R
  have HU := Lib.hid (And.intro hu (And.intro hz0 (And.intro hz1 hz2)))
  clear hu hz0 hz1 hz2
  obtain ⟨hn1, hn4, hd12, hrows⟩ := rosterOk_iff.1 hok
  have HRW := Lib.hid hrows
  have hd0 := daysOf_get (xs := xs) (by omega)
  obtain ⟨a, cap, rfl, hcp, hmx⟩ := h.form
  obtain ⟨g, off, rfl, hg, hc⟩ := h.at (by omega)
  have HC := Lib.hid hc
  have hdle : d < xs[0].size := by omega
  have hszi : xs[0].size ≤ 12 := by omega
  have HD0 := Lib.hid hd0
  have HDD := Lib.hid hd
  have HG := Lib.hid hg
  clear hc h hwf hrows hd0 hd hd12 hok hg
  go_enter Try.func19, Try.ntmps19
  go_wp2_with fail
  refine HR.out.mono ?_
  clear HR
  rintro e w1 ⟨rfl, hb1⟩
  have B1 := Lib.hid hb1
  have hcell0 : w1.cell? ⟨g, off, none⟩ = some (.string xs[0]) := (hb1.cell (p := ⟨g, off, none⟩) HG.out).trans (HC.out 0 (by omega))
  have hg1 := Lib.hid (Nat.lt_of_lt_of_le HG.out hb1.size)
  have HC1 : Hid (∀ k (hk : k < xs.length), w1.cell? ⟨g, off + k, none⟩ = some (.string xs[k])) := Lib.hid (fun k hk => (hb1.cell (p := ⟨g, off + k, none⟩) HG.out).trans (HC.out k hk))
  clear hb1
  have h0 : 0 < xs.length := by omega
  have HX0 : Hid (∀ k (hk : k < xs.length), xs[k].size = xs[0].size) := Lib.hid (fun k hk => by rw [(HRW.out _ (List.getElem_mem hk)).1, HD0.out])
  generalize hs0 : xs[0] = s0 at *
  have O1 := Lib.hid ((Own.nil w1).idle 5)
  have hdn : decide ((d : Int) < 0) = false := decide_eq_false (by omega)
  have hdg : decide ((s0.size : Int) ≤ (d : Int)) = false := decide_eq_false (by omega)
  have hdg2 : decide (s0.size ≤ d) = false := decide_eq_false (by omega)
  have HS0 := Lib.hid hs0
  clear hs0
  go_wp2_with fail
  go_loopw [5, 7, 25] (fun lv rv iv wr => ∃ (k : Nat) (p : List UInt8), k ≤ xs.length ∧ iv = .int .i64 (k : Int) ∧ Hid (p = dayTo xs d k) ∧ p.length = k ∧ Own w1 [rowT 5 1 lv p.length (bvR p)] wr) (fun _ _ iv _ => xs.length - (intOf iv).toNat)
  case atStart => exact ⟨0, [], Nat.zero_le _, rfl, Lib.hid rfl, rfl, O1.out⟩
  case round =>
    obtain ⟨k, p, hk, rfl, HP, hpl, hO⟩ := hrel
    obtain ⟨wa, wc, rfl⟩ := ownsRow_sliceR (hO.row 0 (by simp) rfl)
    have O2 := Lib.hid hO
    by_cases hlt : k < xs.length
    · have ck := (O2.out.keep.cell (p := ⟨g, off + k, none⟩) hg1.out).trans (HC1.out k hlt)
      have hsz := HX0.out k hlt
      have HS := Lib.hid (dayTo_succ xs d k hlt)
      have hlt2 : d < xs[k].size := by omega
      have HBY := Lib.hid (byteAt_eq xs[k] d hlt2)
      have hpl4 : p.length ≤ 4 := by omega
      have HPL := Lib.hid hpl
      clear hO hsz hpl
      generalize xs[k] = s at *
      go_wp2_with (at_builtin; refine wpList_append_lies _ rfl _ _ 22 rfl 0 5 u0 (.int .u8 0) 1 1 Try.underlying22 HU.out.1 HU.out.2.1 HU.out.2.2.1 HU.out.2.2.2 rfl (by decide) (.slice wa p.length wc) p.length (bvR p) rfl ((O2.out.row 0 (by simp) rfl).alloc _) ⟨wr.heap.size, 0, none⟩ 1 1 [.int .u8 (s[d].toNat : Int)] rfl rfl (cellRD _ _ _) (by simp [Value.oneCell']) (by omega) (by unfold maxLen; omega) (by omega) (Nat.zero_le _) _ rfl ?_; intro g9 cp w6 hown hgrow hat hlt3; have O5 := Lib.hid (O2.out.push (i := 0) (by simp) rfl hgrow hown hat); clear hown hgrow hat hlt3)
      go_roundw
      case rel => exact ⟨k + 1, p ++ [s[d]], by omega, by go_num, Lib.hid (by rw [HS.out, HP.out, HBY.out]), by rw [List.length_append, HPL.out]; rfl, by rw [List.length_append, bvR_more]; exact O5.out⟩
      case measure => simp [intOf]; omega
    · obtain rfl : k = xs.length := by omega
      have hcv := row_convertR (O2.out.row 0 (by simp) rfl)
      have HE : Hid (dayStr xs d = ⟨p.toArray⟩) := by
        have : dayStr xs d = ⟨p.toArray⟩ := by rw [HP.out, dayTo_all]
        exact Lib.hid this
      clear hO hpl
      go_wp2_with fail
      go_ret
      exact ⟨ret_str HE.out.symm, B1.out.trans (O2.out.keep.mono B1.out.size)⟩

set_option maxHeartbeats 1600000 in
theorem implDayOf_any (v : Value) (xs : List ByteArray) (hwf : Short xs) (d : Int) (w : World) (h : IsStrs w v xs) :
    Calls Try.prog 19 #[v, .int .i64 d] w fun e w' => e = .returned (.string (dayOf xs d)) ∧ Below w.heap.size w w' := by
  by_cases hall : rosterOk xs = true ∧ 0 ≤ d ∧ d < daysOf xs
  · obtain ⟨n, rfl⟩ := Int.eq_ofNat_of_zero_le hall.2.1
    rw [dayOf_yes hall.1 (by have := hall.2.2; omega)]
    exact implDayOf_yes v xs hwf n w h hall.1 (by have := hall.2.2; omega)
  · have HE := Lib.hid (dayOf_no hall)
    have HR := Lib.hid (implRosterOk_any v xs hwf w h)
    obtain ⟨a, cap, rfl, hcp, hmx⟩ := h.form
    cases hb : rosterOk xs with
    | false =>
      rw [hb] at HR
      clear hall
      go_enter Try.func19, Try.ntmps19
      go_wp2_with (go_at_call 21; refine HR.out.mono ?_; rintro e w1 ⟨rfl, hb1⟩)
      go_ret
      exact ⟨ret_str HE.out.symm, hb1⟩
    | true =>
      rw [hb] at HR
      obtain ⟨hn1, hn4, hd12, -⟩ := rosterOk_iff.1 hb
      have hd0 := daysOf_get (xs := xs) (by omega)
      obtain ⟨g, off, rfl, hg, hc⟩ := h.at (by omega)
      have hor : d < 0 ∨ (xs[0].size : Int) ≤ d := by
        rcases Int.lt_or_le d 0 with h1 | h1
        · exact .inl h1
        · exact .inr (by rcases Int.lt_or_le d (xs[0].size : Int) with h2 | h2
                         · exact absurd ⟨hb, h1, by omega⟩ hall
                         · exact h2)
      have HC := Lib.hid (hc 0 (by omega))
      have hs12 : xs[0].size ≤ 12 := by omega
      clear hall hb h hc hd0
      have h0 : 0 < xs.length := by omega
      have HG := Lib.hid hg
      generalize xs[0] = s0 at *
      by_cases hneg : d < 0
      · clear hor
        go_enter Try.func19, Try.ntmps19
        go_wp2_with (go_at_call 21; refine HR.out.mono ?_; rintro e w1 ⟨rfl, hb1⟩)
        go_ret
        exact ⟨ret_str HE.out.symm, hb1⟩
      · have hge : (s0.size : Int) ≤ d := by omega
        clear hor
        go_enter Try.func19, Try.ntmps19
        go_wp2_with fail
        refine HR.out.mono ?_
        rintro e w1 ⟨rfl, hb1⟩
        have c1 : w1.cell? ⟨g, off, none⟩ = some (.string s0) := (hb1.cell (p := ⟨g, off, none⟩) HG.out).trans HC.out
        go_wp2_with fail
        go_ret
        exact ⟨ret_str HE.out.symm, hb1⟩

theorem extract_one (s : ByteArray) (d : Nat) (h : d < s.size) : s.extract d (d + 1) = ⟨#[byteAt s d]⟩ := by
  refine bytes_ext' ?_
  have hl : d < s.data.toList.length := by rw [Array.length_toList]; exact h
  rw [ByteArray.data_extract, Array.toList_extract, List.extract_eq_take_drop, show d + 1 - d = 1 by omega, List.drop_eq_getElem_cons hl, List.take_succ_cons, List.take_zero]
  simp only [byteAt, List.getD, List.getElem?_eq_getElem hl, Option.getD_some]
theorem cut_one (s : ByteArray) (d : Nat) (h : d < s.size) (W : World) : (Instr.slice 9 (.string s) (some (.int .i64 (d : Int))) (some (.int .i64 ((d : Int) + 1))) none).run Try.prog W = .ok (.string (s.extract d (d + 1))) W := by
  have := run_slice_string (P := Try.prog) W 9 s .i64 .i64 (d : Int) ((d : Int) + 1) Try.underlying9 (by omega) (by omega) (by omega)
  rw [this]
  have e : ((d : Int) + 1).toNat = d + 1 := by omega
  rw [e, Int.toNat_natCast]
theorem arr_more (p : List UInt8) (b : UInt8) : (⟨p.toArray⟩ : ByteArray) ++ ⟨#[b]⟩ = ⟨(p ++ [b]).toArray⟩ := by
  refine bytes_ext' ?_
  rw [ByteArray.data_append, Array.toList_append]

set_option maxHeartbeats 3200000 in
set_option maxRecDepth 20000 in
theorem specDayOf_yes (v : Value) (xs : List ByteArray) (hwf : Short xs) (d : Nat) (w : World) (h : IsStrs w v xs) (hok : rosterOk xs = true) (hd : d < daysOf xs) :
    Calls Try.prog 64 #[v, .int .i64 (d : Int)] w fun e w' => e = .returned (.string (dayStr xs d)) ∧ Below w.heap.size w w' := by
  have HR := Lib.hid (fun W hI => specRosterOk_any v xs hwf W hI)
  rw [hok] at HR
  have H := Lib.hid h
  obtain ⟨hn1, hn4, hd12, hrows⟩ := rosterOk_iff.1 hok
  have HRW := Lib.hid hrows
  have hd0 := daysOf_get (xs := xs) (by omega)
  obtain ⟨a, cap, rfl, hcp, hmx⟩ := h.form
  obtain ⟨g, off, rfl, hg, hc⟩ := h.at (by omega)
  have HC := Lib.hid hc
  have hdle : d < xs[0].size := by omega
  have hszi : xs[0].size ≤ 12 := by omega
  have HG := Lib.hid hg
  have h0 : 0 < xs.length := by omega
  have HX0 : Hid (∀ k (hk : k < xs.length), xs[k].size = xs[0].size) := Lib.hid (fun k hk => by rw [(HRW.out _ (List.getElem_mem hk)).1, hd0])
  have HIN : Hid (∀ W, Calls Try.prog 51 #[.int .i64 (d : Int), .int .i64 0, .int .i64 ((xs[0].size : Int) - 1)] W fun e w' => e = .returned (.bool true) ∧ W = w') := by
    have : ∀ W, Calls Try.prog 51 #[.int .i64 (d : Int), .int .i64 0, .int .i64 ((xs[0].size : Int) - 1)] W fun e w' => e = .returned (.bool true) ∧ W = w' := fun W => by
      have := l1In_any (d : Int) 0 ((xs[0].size : Int) - 1) W
      rw [show (decide ((0 : Int) ≤ d) && decide ((d : Int) ≤ (xs[0].size : Int) - 1)) = true by simp; omega] at this
      exact this
    exact Lib.hid this
  clear hc h hwf hrows hd0 hd hd12 hok hg
  go_enter Try.func64, Try.ntmps64
  go_wp2_with fail
  go_loopw [5, 6] (fun ov iv wr => ∃ (k : Nat) (o : ByteArray), k ≤ xs.length ∧ iv = .int .i64 (k : Int) ∧ ov = .string o ∧ Hid (o = ⟨(dayTo xs d k).toArray⟩) ∧ o.size ≤ 4 ∧ o.size = k ∧ Below w.heap.size w wr) (fun _ iv _ => xs.length - (intOf iv).toNat)
  case atStart => exact ⟨0, ⟨#[]⟩, Nat.zero_le _, rfl, rfl, Lib.hid rfl, Nat.zero_le _, rfl, Below.refl _ _⟩
  case round =>
    obtain ⟨k, o, hk, rfl, rfl, HO, ho4, hok', hbel⟩ := hrel
    have HOK := Lib.hid hok'
    clear hok'
    have BB := Lib.hid hbel
    by_cases hlt : k < xs.length
    · have HRK := Lib.hid (HR.out wr (H.out.below BB.out))
      have ck := fun (W : World) (hb : Below wr.heap.size wr W) => ((BB.out.trans (hb.mono BB.out.size)).cell (p := ⟨g, off + k, none⟩) HG.out).trans (HC.out k hlt)
      have c0 := fun (W : World) (hb : Below wr.heap.size wr W) => ((BB.out.trans (hb.mono BB.out.size)).cell (p := ⟨g, off, none⟩) HG.out).trans (HC.out 0 h0)
      have CK := Lib.hid ck
      have C0 := Lib.hid c0
      have hsz := HX0.out k hlt
      have HS := Lib.hid (dayTo_succ xs d k hlt)
      have hlt2 : d < xs[k].size := by omega
      have HBY := Lib.hid (extract_one xs[k] d hlt2)
      have hone : (xs[k].extract d (d + 1)).size = 1 := by rw [HBY.out]; rfl
      have hlt3 : ((d : Int) + 1) ≤ (xs[k].size : Int) := by omega
      have hs12 : xs[k].size ≤ 12 := by omega
      have hcut := fun W => cut_one xs[k] d hlt2 W
      clear ck c0 hbel hsz
      generalize xs[0] = s0 at *
      generalize xs[k] = s at *
      go_wp2_with fail
      refine HRK.out.mono ?_
      rintro e w2 ⟨rfl, hb2⟩
      have ck := CK.out _ hb2
      have c0 := C0.out _ hb2
      have B2 := Lib.hid (BB.out.trans (hb2.mono BB.out.size))
      clear hb2
      go_wp2_with (go_at_call 51; refine (HIN.out _).mono ?_; rintro e w' ⟨rfl, rfl⟩)
      go_roundw
      case rel => exact ⟨k + 1, o ++ s.extract d (d + 1), by omega, by go_num, by first | rfl | go_num | simp, Lib.hid (by rw [HO.out, HBY.out, arr_more, HS.out]), by rw [ByteArray.size_append, hone]; have := HOK.out; omega, by rw [ByteArray.size_append, hone]; have := HOK.out; omega, B2.out⟩
      case measure => simp [intOf]; omega
    · obtain rfl : k = xs.length := by omega
      have HE : Hid (dayStr xs d = o) := by
        have : dayStr xs d = o := by rw [HO.out, dayTo_all]
        exact Lib.hid this
      go_wp2_with fail
      go_ret
      exact ⟨ret_str HE.out.symm, BB.out⟩

set_option maxHeartbeats 1600000 in
theorem specDayOf_any (v : Value) (xs : List ByteArray) (hwf : Short xs) (d : Int) (w : World) (h : IsStrs w v xs) :
    Calls Try.prog 64 #[v, .int .i64 d] w fun e w' => e = .returned (.string (dayOf xs d)) ∧ Below w.heap.size w w' := by
  by_cases hall : rosterOk xs = true ∧ 0 ≤ d ∧ d < daysOf xs
  · obtain ⟨n, rfl⟩ := Int.eq_ofNat_of_zero_le hall.2.1
    rw [dayOf_yes hall.1 (by have := hall.2.2; omega)]
    exact specDayOf_yes v xs hwf n w h hall.1 (by have := hall.2.2; omega)
  · have HE := Lib.hid (dayOf_no hall)
    have HR := Lib.hid (fun W hI => specRosterOk_any v xs hwf W hI)
    have H := Lib.hid h
    obtain ⟨a, cap, rfl, hcp, hmx⟩ := h.form
    by_cases h0 : xs.length = 0
    · clear hall
      go_enter Try.func64, Try.ntmps64
      go_wp2_with fail
      go_loopw [5, 6] (fun ov iv wr => iv = .int .i64 0 ∧ ov = .string ⟨#[]⟩ ∧ wr = w) (fun _ iv _ => 0)
      case atStart => exact ⟨rfl, rfl, rfl⟩
      case round =>
        obtain ⟨rfl, rfl, rfl⟩ := hrel
        go_wp2_with fail
        go_ret
        exact ⟨ret_str HE.out.symm, Below.refl _ _⟩
    · obtain ⟨g, off, rfl, hg, hc⟩ := h.at (by omega)
      have h1 : 0 < xs.length := by omega
      cases hb : rosterOk xs with
      | false =>
        rw [hb] at HR
        clear hall
        go_enter Try.func64, Try.ntmps64
        go_wp2_with fail
        go_loopw [5, 6] (fun ov iv wr => iv = .int .i64 0 ∧ ov = .string ⟨#[]⟩ ∧ wr = w) (fun _ iv _ => 0)
        case atStart => exact ⟨rfl, rfl, rfl⟩
        case round =>
          obtain ⟨rfl, rfl, rfl⟩ := hrel
          go_wp2_with fail
          refine (HR.out _ H.out).mono ?_
          rintro e w1 ⟨rfl, hb1⟩
          go_wp2_with fail
          go_ret
          exact ⟨ret_str HE.out.symm, hb1⟩
      | true =>
        rw [hb] at HR
        obtain ⟨hn1, hn4, hd12, -⟩ := rosterOk_iff.1 hb
        have hd0 := daysOf_get (xs := xs) (by omega)
        have hno : (decide ((0 : Int) ≤ d) && decide (d ≤ (xs[0].size : Int) - 1)) = false := by
          rw [Bool.and_eq_false_iff, decide_eq_false_iff_not, decide_eq_false_iff_not]
          by_cases h2 : 0 ≤ d
          · exact .inr (fun h3 => hall ⟨hb, h2, by omega⟩)
          · exact .inl h2
        have HIN : Hid (∀ W, Calls Try.prog 51 #[.int .i64 d, .int .i64 0, .int .i64 ((xs[0].size : Int) - 1)] W fun e w' => e = .returned (.bool false) ∧ W = w') := by
          have : ∀ W, Calls Try.prog 51 #[.int .i64 d, .int .i64 0, .int .i64 ((xs[0].size : Int) - 1)] W fun e w' => e = .returned (.bool false) ∧ W = w' := fun W => by
            have := l1In_any d 0 ((xs[0].size : Int) - 1) W
            rw [hno] at this
            exact this
          exact Lib.hid this
        have HC := Lib.hid (hc 0 (by omega))
        have hs12 : xs[0].size ≤ 12 := by omega
        clear hall hb h hc hd0 hno
        have HG := Lib.hid hg
        generalize xs[0] = s0 at *
        go_enter Try.func64, Try.ntmps64
        go_wp2_with fail
        go_loopw [5, 6] (fun ov iv wr => iv = .int .i64 0 ∧ ov = .string ⟨#[]⟩ ∧ wr = w) (fun _ iv _ => 0)
        case atStart => exact ⟨rfl, rfl, rfl⟩
        case round =>
          obtain ⟨rfl, rfl, rfl⟩ := hrel
          go_wp2_with fail
          refine (HR.out _ H.out).mono ?_
          rintro e w1 ⟨rfl, hb1⟩
          have c1 : w1.cell? ⟨g, off, none⟩ = some (.string s0) := (hb1.cell (p := ⟨g, off, none⟩) HG.out).trans HC.out
          go_wp2_with (go_at_call 51; refine (HIN.out _).mono ?_; rintro e w' ⟨rfl, rfl⟩)
          go_ret
          exact ⟨ret_str HE.out.symm, hb1⟩
end Go.Proofs.Ytggohgkjdnnndaa
