/- The contract of partsUnder. No condition. TermOk of the program and of the model: what each returns, for every row of marks. No condition. spec.MachineOf. No condition. Drawing a machine and a number of letters. No condition. Drawing a machine and a word behind it. No condition. Rolls of a row of letters, the first of them, and how many there are. No program, no condition. Rings of a machine, walks that lead back, and necklaces: plain functions. No program, no condition. StateFrom, RingState and RingOk, the model's and the program's: what each returns, at every machine and text. No condition.  -/
import Derived.Test.YtjdeahdngpccpaaCkA
import Derived.Outline
import Derived.RegionTactic
import Derived.Test.YtjdeahdngpccpaaCkG
import Derived.Deep.CutBlock
import Derived.Test.YtjdeahdngpccpaaCkI
import Derived.Test.YtjdeahdngpccpaaMath
import Derived.Test.YtjdeahdngpccpaaStep
import Derived.Test.YtjdeahdngpccpaaAfter
import Derived.Test.YtjdeahdngpccpaaWords
import Derived.Test.YtjdeahdngpccpaaBack2
import Derived.Test.YtjdeahdngpccpaaImplLive
import Derived.BigQuiet
import Derived.Deep.RegionLaw
import Derived.Deep.RegionWith
import Derived.BigRegion
import Derived.Test.YtjdeahdngpccpaaRolled

namespace Go.Proofs.Ytjdeahdngpccpaa
open Go.RowKit

def UnderPost (m : Mk) (w : World) (e : Ending) (w' : World) : Prop := ∃ u : Int, e = .returned (.tuple #[.int .i64 u, .bool m.fine]) ∧ (m.fine = true → u = (m.under : Int)) ∧ Below w.heap.size w w'
theorem fine_void {k : Int} {r : Ru} (h : k = 1 ∨ k = 2 ∨ k = 3) : (Mk.mk k r).fine = r.isVoid := by
  rcases h with rfl | rfl | rfl <;> simp [Mk.fine]
theorem isVoid_parts (a : Int) (b c : ByteArray) (d : Int) : (Ru.mk a b c d).isVoid = ((a == 0) && (b.toList == []) && (c.toList == []) && (d == 0)) := by
  have e : ∀ t : ByteArray, noThen t = (t.toList == []) := fun t => by
    rw [ByteArray.toList_eq]
    cases t with
    | mk l => cases l with
      | mk l => cases l <;> simp [noThen]
  have f : ∀ x : Int, decide (x = 0) = (x == 0) := fun x => by by_cases h : x = 0 <;> simp [h]
  simp only [Ru.isVoid, e, f]

end Go.Proofs.Ytjdeahdngpccpaa

namespace Go.Proofs.Ytjdeahdngpccpaa
open Go.RowKit

theorem termOk_long {ts : List Mk} (h : 9 < ts.length) : termOk ts = false := by
  simp only [termOk, Bool.and_eq_false_iff, decide_eq_false_iff_not]
  exact .inl (by omega)
theorem termOk_end {ts : List Mk} {p : Nat} (h : leftOf (ts.take ts.length) 0 = some p) (hl : ts.length ≤ 9) : termOk ts = ((p : Int) == 1) := by
  rw [List.take_length] at h
  have e : decide (ts.length ≤ 9) = true := decide_eq_true hl
  rw [termOk, h, e, Bool.true_and]
  by_cases hp : p = 1
  · subst hp; rfl
  · rw [decide_eq_false (by simpa using hp)]
    have : ((p : Int) == 1) = false := by simp; omega
    rw [this]
theorem leftOf_yes {ts : List Mk} {k p : Nat} (hk : k < ts.length) (h : leftOf (ts.take k) 0 = some p) (hf : ts[k].fine = true) (hu : ts[k].under ≤ p) : leftOf (ts.take (k + 1)) 0 = some (p + 1 - ts[k].under) := by
  rw [leftOf_succ hk h, stepP, if_pos ⟨hf, hu⟩]
theorem leftOf_no {ts : List Mk} {k p : Nat} (hk : k < ts.length) (h : leftOf (ts.take k) 0 = some p) (hf : ¬ (ts[k].fine = true ∧ ts[k].under ≤ p)) : termOk ts = false :=
  termOk_stop (k := k + 1) (by rw [leftOf_succ hk h, stepP, if_neg hf])
theorem left_le {ts : List Mk} {k p : Nat} (hk : k ≤ ts.length) (h : leftOf (ts.take k) 0 = some p) : p ≤ k := by
  have := leftOf_le _ _ _ h
  rw [List.length_take] at this
  omega
set_option maxHeartbeats 1600000 in
theorem specTermOk_any (ms : List Mk) (v : Value) (w : World) (h : IsMarks w v ms) (hl : ms.length ≤ 1048576) :
    Calls Try.prog 136 #[v] w fun e w' => e = .returned (.bool (termOk ms)) ∧ Below w.heap.size w w' := by
  obtain ⟨a, cap, rfl, ha1, ha2, ha⟩ := h
  have HA := Lib.hid ha
  unfold maxLen at ha2
  clear ha
  go_enter Try.func136, Try.ntmps136
  go_wp2_with fail
  go_loopw [3, 4] (fun l i wr => ∃ (k p : Nat), k ≤ ms.length ∧ i = .int .i64 k ∧ l = .int .i64 p ∧ leftOf (ms.take k) 0 = some p ∧ Below w.heap.size w wr) (fun _ i _ => ms.length - (intOf i).toNat)
  case atStart => exact ⟨0, 0, Nat.zero_le _, rfl, rfl, rfl, Below.refl _ _⟩
  case round =>
    obtain ⟨k, p, hk, rfl, rfl, hp, hbel⟩ := hrel
    have hpk := left_le hk hp
    by_cases hlt : k < ms.length
    · obtain ⟨g, off, rfl, hg, hc⟩ := HA.out.resolve_left (fun h => by rw [h] at hlt; exact absurd hlt (Nat.not_lt_zero k))
      obtain ⟨c0, c1, c2, c3, c4⟩ := (hc k hlt).below hbel hg
      have HCK := Lib.hid (fun w' (hb : Below w.heap.size w w') => (hc k hlt).below hb hg)
      have HY := Lib.hid (leftOf_yes hlt hp)
      have HN := Lib.hid (leftOf_no hlt hp)
      have BB := Lib.hid hbel
      clear hc hbel hp
      generalize ms[k] = m at *
      obtain ⟨k1, r1, l1, t1, n1⟩ := m
      have HC2 : Hid (∀ w', Below w.heap.size w w' → w'.cell? ⟨g, off + k * 5, none⟩ = some (.int .i64 k1) ∧ w'.cell? ⟨g, off + k * 5 + 1, none⟩ = some (.int .i64 r1) ∧ w'.cell? ⟨g, off + k * 5 + 2, none⟩ = some (.string l1) ∧ w'.cell? ⟨g, off + k * 5 + 3, none⟩ = some (.string t1) ∧ w'.cell? ⟨g, off + k * 5 + 4, none⟩ = some (.int .i64 n1)) := Lib.hid HCK.out
      clear HCK
      simp only at c0 c1 c2 c3 c4
      by_cases k0 : k1 = 0
      · subst k0
        have HR := Lib.hid (fun W => specRuleOk_any r1 l1 t1 n1 W)
        have hf : (Mk.mk 0 ⟨r1, l1, t1, n1⟩).fine = (Ru.mk r1 l1 t1 n1).ok := by simp [Mk.fine]
        have hu : (Mk.mk 0 ⟨r1, l1, t1, n1⟩).under = 0 := by simp [Mk.under]
        rw [hf, hu] at HY HN
        clear hf hu
        generalize (Ru.mk r1 l1 t1 n1).ok = fb at *
        cases fb with
        | true =>
          have hp2 := Lib.hid (HY.out rfl (Nat.zero_le _))
          go_wp2_with (go_at_call 146; refine (HR.out _).mono ?_; rintro e w2 ⟨rfl, hb2⟩)
          go_roundw
          case rel => exact ⟨k + 1, p + 1 - 0, by omega, by go_num, by go_num, hp2.out, BB.out.trans (hb2.mono BB.out.size)⟩
          case measure => simp [intOf]; omega
        | false =>
          have HE := Lib.hid (HN.out (by simp))
          go_wp2_with (go_at_call 146; refine (HR.out _).mono ?_; rintro e w2 ⟨rfl, hb2⟩; obtain ⟨d0, d1, d2, d3, d4⟩ := HC2.out w2 (BB.out.trans (hb2.mono BB.out.size)))
          go_ret
          exact ⟨ret_bool HE.out.symm, BB.out.trans (hb2.mono BB.out.size)⟩
      · by_cases k123 : k1 = 1 ∨ k1 = 2 ∨ k1 = 3
        · have hf := fine_void (r := ⟨r1, l1, t1, n1⟩) k123
          by_cases hv : (Ru.mk r1 l1 t1 n1).isVoid = true
          · have hve := Ru.isVoid_iff.1 hv
            simp only [Ru.void, Ru.mk.injEq] at hve
            obtain ⟨rfl, rfl, rfl, rfl⟩ := hve
            rw [hf, hv] at HY HN
            clear hf hv k0
            rcases k123 with rfl | rfl | rfl
            · have hu : (Mk.mk 1 ⟨0, ⟨#[]⟩, ⟨#[]⟩, 0⟩).under = 2 := by simp [Mk.under]
              rw [hu] at HY HN
              clear hu
              by_cases h2 : 2 ≤ p
              · have hp2 := Lib.hid (HY.out rfl h2)
                go_wp2_with fail
                go_roundw
                case rel => exact ⟨k + 1, p + 1 - 2, by omega, by go_num, by go_num, hp2.out, BB.out⟩
                case measure => simp [intOf]; omega
              · have HE := Lib.hid (HN.out (fun h => h2 h.2))
                go_wp2_with fail
                go_ret
                exact ⟨ret_bool HE.out.symm, BB.out⟩
            · have hu : (Mk.mk 2 ⟨0, ⟨#[]⟩, ⟨#[]⟩, 0⟩).under = 2 := by simp [Mk.under]
              rw [hu] at HY HN
              clear hu
              by_cases h2 : 2 ≤ p
              · have hp2 := Lib.hid (HY.out rfl h2)
                go_wp2_with fail
                go_roundw
                case rel => exact ⟨k + 1, p + 1 - 2, by omega, by go_num, by go_num, hp2.out, BB.out⟩
                case measure => simp [intOf]; omega
              · have HE := Lib.hid (HN.out (fun h => h2 h.2))
                go_wp2_with fail
                go_ret
                exact ⟨ret_bool HE.out.symm, BB.out⟩
            · have hu : (Mk.mk 3 ⟨0, ⟨#[]⟩, ⟨#[]⟩, 0⟩).under = 1 := by simp [Mk.under]
              rw [hu] at HY HN
              clear hu
              by_cases h2 : 1 ≤ p
              · have hp2 := Lib.hid (HY.out rfl h2)
                go_wp2_with fail
                go_roundw
                case rel => exact ⟨k + 1, p + 1 - 1, by omega, by go_num, by go_num, hp2.out, BB.out⟩
                case measure => simp [intOf]; omega
              · have HE := Lib.hid (HN.out (fun h => h2 h.2))
                go_wp2_with fail
                go_ret
                exact ⟨ret_bool HE.out.symm, BB.out⟩
          · have hv' : (Ru.mk r1 l1 t1 n1).isVoid = false := by simpa using hv
            have HE := Lib.hid (HN.out (by rw [hf, hv']; simp))
            have hvp := isVoid_parts r1 l1 t1 n1
            rw [hv'] at hvp
            have hveq : ∀ W : World, (if r1 = 0 then if l1.toList = [] then if t1.toList = [] then if n1 = 0 then Result.ok (Next.value (Value.bool true)) W else Result.ok (Next.value (Value.bool false)) W else Result.ok (Next.value (Value.bool false)) W else Result.ok (Next.value (Value.bool false)) W else Result.ok (Next.value (Value.bool false)) W) = Result.ok (Next.value (Value.bool false)) W := fun W => by
              by_cases ha : r1 = 0
              · by_cases hb : l1.toList = []
                · by_cases hc : t1.toList = []
                  · by_cases hd : n1 = 0
                    · rw [ha, hb, hc, hd] at hvp; exact absurd hvp (by decide)
                    · simp [ha, hb, hc, hd]
                  · simp [ha, hb, hc]
                · simp [ha, hb]
              · simp [ha]
            clear hf hv hv' hvp k0
            rcases k123 with rfl | rfl | rfl
            · go_wp2_with fail
              go_ret
              exact ⟨ret_bool HE.out.symm, BB.out⟩
            · go_wp2_with fail
              go_ret
              exact ⟨ret_bool HE.out.symm, BB.out⟩
            · go_wp2_with fail
              go_ret
              exact ⟨ret_bool HE.out.symm, BB.out⟩
        · have hf : (Mk.mk k1 ⟨r1, l1, t1, n1⟩).fine = false := by simp only [Mk.fine]; rw [if_neg k0, if_neg k123]
          have HE := Lib.hid (HN.out (by rw [hf]; simp))
          have e1 : (k1 == 0) = false := by simpa using k0
          have e2 : ¬ k1 = 1 := fun h => k123 (.inl h)
          have e3 : ¬ k1 = 2 := fun h => k123 (.inr (.inl h))
          have e4 : ¬ k1 = 3 := fun h => k123 (.inr (.inr h))
          clear hf k123
          go_wp2_with fail
          go_ret
          exact ⟨ret_bool HE.out.symm, BB.out⟩
    · obtain rfl : k = ms.length := by omega
      by_cases h9 : ms.length ≤ 9
      · have HE := Lib.hid (termOk_end hp h9)
        by_cases hp1 : ((p : Int) == 1) = true
        · rw [hp1] at HE
          go_wp2_with fail
          go_ret
          exact ⟨ret_bool (by rw [HE.out]; first | rfl | exact decide_eq_true (by omega) | exact decide_eq_false (by omega)), hbel⟩
        · have hp1' : ((p : Int) == 1) = false := by simpa using hp1
          rw [hp1'] at HE
          clear hp1
          go_wp2_with fail
          go_ret
          exact ⟨ret_bool HE.out.symm, hbel⟩
      · have HE := Lib.hid (termOk_long (by omega : 9 < ms.length))
        by_cases hp1 : ((p : Int) == 1) = true
        · go_wp2_with fail
          go_ret
          exact ⟨ret_bool (by rw [HE.out]; first | rfl | exact decide_eq_true (by omega) | exact decide_eq_false (by omega)), hbel⟩
        · have hp1' : ((p : Int) == 1) = false := by simpa using hp1
          clear hp1
          go_wp2_with fail
          go_ret
          exact ⟨ret_bool HE.out.symm, hbel⟩
end Go.Proofs.Ytjdeahdngpccpaa

namespace Go.Proofs.Ytjdeahdngpccpaa
open Go.RowKit

/-- MachineOf's answer -/
def OfNew (ms : List Mk) (w : World) (e : Ending) (w' : World) : Prop :=
  ∃ (m : M) (b : Bool) (a1 a2 : Option Addr) (c1 c2 : Nat), IsOf ms m b ∧ e = .returned (.tuple #[.agg #[.int .i64 m.st, .slice a1 m.next.length c1, .slice a2 m.ends.length c2], .bool b]) ∧
    Apart w.heap.size [rowT 3 1 (.slice a1 m.next.length c1) m.next.length (m.next.map (Value.int .i64)), rowT 4 1 (.slice a2 m.ends.length c2) m.ends.length (m.ends.map Value.bool)] w' ∧ Below w.heap.size w w'
theorem IsOf.no {ms : List Mk} (h : termOk ms = false) : IsOf ms ⟨0, [], []⟩ false := ⟨fun h' => (by rw [h] at h'; cases h'), fun _ => ⟨rfl, rfl⟩⟩
theorem IsOf.yes {ms : List Mk} {T : Tm} {m : M} (hg : T.good = true) (hp : T.post = ms) (h : TmM T m) (hok : termOk ms = true) : IsOf ms m m.ok := ⟨fun _ => ⟨T, hg, hp, h, rfl⟩, fun h' => (by rw [hok] at h'; cases h')⟩
theorem IsOf.len {ms : List Mk} {m : M} {b : Bool} (h : IsOf ms m b) : m.next.length ≤ 144 ∧ m.ends.length ≤ 48 ∧ (Lit.int .i64 m.st).wf = true ∧ (b = true → m.ok = true) ∧ (b = false → m = ⟨0, [], []⟩) := by
  cases ht : termOk ms with
  | true =>
    obtain ⟨T, h1, h2, h3, rfl⟩ := h.1 ht
    have := h3.len h1
    exact ⟨this.1, this.2, h3.wf h1, fun h => h, fun h => h3.zero h1 h⟩
  | false =>
    obtain ⟨rfl, rfl⟩ := h.2 ht
    exact ⟨Nat.zero_le _, Nat.zero_le _, rfl, fun h => by (cases h), fun _ => rfl⟩

set_option maxHeartbeats 3200000 in
theorem specMachineOf_any (ms : List Mk) (v : Value) (w : World) (h : IsMarks w v ms) (hl : ms.length ≤ 1048576) :
    Calls Try.prog 111 #[v] w (OfNew ms w) := by
  have O0 := Lib.hid ((Own.nil w).box #[.int .i64 0, .slice none 0 0, .slice none 0 0] 26)
  have H1 := Lib.hid (fun W (hb : Below w.heap.size w W) => specTermOk_any ms v W (h.below hb) hl)
  have HLM := Lib.hid (fun W (hb : Below w.heap.size w W) (T : Tm) (hg : T.good = true) (hp : T.post = ms) (h9 : ms.length ≤ 9) => l5Machine_any T hg v W (by rw [hp]; exact h.below hb) (by rw [hp]; exact h9))
  obtain ⟨a, n, c, rfl⟩ := h.slice
  clear h hl
  go_enter Try.func111, Try.ntmps111
  go_upto_region 1 with fail
  generalize hW0 : (w.alloc (.cells #[.int .i64 0, .slice none 0 0, .slice none 0 0] 26)) = W0 at *
  clear hW0
  have H1W := Lib.hid (H1.out _ O0.out.keep)
  go_wp2_with fail
  refine H1W.out.mono ?_
  rintro e w1 ⟨rfl, hb1⟩
  have O1 := Lib.hid (O0.out.below hb1)
  have HLW := Lib.hid (HLM.out _ O1.out.keep)
  have z0 := cellsT_cell (O1.out.cells 0 (by simp) rfl) 0
  have z1 := cellsT_cell (O1.out.cells 0 (by simp) rfl) 1
  have z2 := cellsT_cell (O1.out.cells 0 (by simp) rfl) 2
  have zf := cellsT_frozen (O1.out.cells 0 (by simp) rfl)
  simp only [List.getElem?_toArray, List.getElem?_cons_succ, List.getElem?_cons_zero] at z0 z1 z2
  clear hb1
  cases hk : termOk ms with
  | false =>
    have HI := Lib.hid (IsOf.no hk)
    obtain ⟨f1, f2, r0, r1, r2⟩ := O1.out.fin (us := []) 0 (by simp) rfl (List.nil_sublist _) (x := .int .i64 0) (y := .slice none 0 0) (z := .slice none 0 0) rfl
    have HF := Lib.hid (And.intro ((f1.idle (rowT 4 1 (.slice none 0 0) 0 []) (World.ownsRow_nil _ _ _ _) rfl).idle (rowT 3 1 (.slice none 0 0) 0 []) (World.ownsRow_nil _ _ _ _) rfl) f2)
    clear f1 f2
    generalize hR : w.heap.size = R at *
    go_wp2_with fail
    generalize (((w1.setCell ⟨R, 0, none⟩ (.int .i64 0)).setCell ⟨R, 1, none⟩ (.slice none 0 0)).setCell ⟨R, 2, none⟩ (.slice none 0 0)) = WE at *
    refine bodyPost_ret (v := .tuple #[.agg #[.int .i64 0, .slice none 0 0, .slice none 0 0], .bool false]) ?_ rfl ⟨⟨0, [], []⟩, false, none, none, 0, 0, HI.out, rfl, by rw [hR]; exact HF.out.1, by rw [hR]; exact HF.out.2⟩
    simp [results, Try.results111, go_sem, r0, r1, r2]
  | true =>
    obtain ⟨T, hg, hp, h9⟩ := tree_of hk
    have HLX := Lib.hid (HLW.out T hg hp h9)
    have HIY : Hid (∀ m, TmM T m → IsOf ms m m.ok ∧ (m.ok = false → m = ⟨0, [], []⟩)) := Lib.hid (fun m h => ⟨IsOf.yes hg hp h hk, fun ho => h.zero hg ho⟩)
    clear hg hp h9
    generalize hR : w.heap.size = R at *
    have HR := Lib.hid hR
    clear hR
    go_wp2_with fail
    refine HLX.out.mono ?_
    rintro e w2 ⟨m, a1, a2, d1, d2, hm, rfl, hA2, hb2⟩
    have HI := Lib.hid (HIY.out m hm).1
    have HIZ := Lib.hid (HIY.out m hm).2
    have O2 := Lib.hid (O1.out.join hA2 hb2)
    have O3 := Lib.hid (O2.out.box #[.int .i64 m.st, .slice a1 m.next.length d1, .slice a2 m.ends.length d2] 26)
    clear hm hA2 hb2 z0 z1 z2 zf
    go_upto_region 4 with fail
    generalize hW3 : (w2.alloc (.cells #[.int .i64 m.st, .slice a1 m.next.length d1, .slice a2 m.ends.length d2] 26)) = W3 at *
    clear hW3
    generalize w2.heap.size = B3 at *
    have b0 := cellsT_cell (O3.out.cells 0 (by simp) rfl) 0
    have b1 := cellsT_cell (O3.out.cells 0 (by simp) rfl) 1
    have b2 := cellsT_cell (O3.out.cells 0 (by simp) rfl) 2
    have z0 := cellsT_cell (O3.out.cells 3 (by simp) rfl) 0
    have z1 := cellsT_cell (O3.out.cells 3 (by simp) rfl) 1
    have z2 := cellsT_cell (O3.out.cells 3 (by simp) rfl) 2
    have zf := cellsT_frozen (O3.out.cells 3 (by simp) rfl)
    simp only [List.getElem?_toArray, List.getElem?_cons_succ, List.getElem?_cons_zero] at b0 b1 b2 z0 z1 z2
    cases hmo : m.ok with
    | false =>
      have hmz := HIZ.out hmo
      have HI2 : Hid (IsOf ms ⟨0, [], []⟩ false) := Lib.hid (by have h := HI.out; rw [hmo, hmz] at h; exact h)
      obtain ⟨f1, f2, r0, r1, r2⟩ := O3.out.fin (us := []) 3 (by simp) rfl (List.nil_sublist _) (x := .int .i64 0) (y := .slice none 0 0) (z := .slice none 0 0) rfl
      have HF := Lib.hid (And.intro ((f1.idle (rowT 4 1 (.slice none 0 0) 0 []) (World.ownsRow_nil _ _ _ _) rfl).idle (rowT 3 1 (.slice none 0 0) 0 []) (World.ownsRow_nil _ _ _ _) rfl) f2)
      clear f1 f2 hmz HIZ HI
      rw [hmo] at *
      go_wp2_with fail
      generalize (((W3.setCell ⟨R, 0, none⟩ (.int .i64 0)).setCell ⟨R, 1, none⟩ (.slice none 0 0)).setCell ⟨R, 2, none⟩ (.slice none 0 0)) = WE at *
      refine bodyPost_ret (v := .tuple #[.agg #[.int .i64 0, .slice none 0 0, .slice none 0 0], .bool false]) ?_ rfl ⟨⟨0, [], []⟩, false, none, none, 0, 0, HI2.out, rfl, HF.out.1, HF.out.2⟩
      simp [results, Try.results111, go_sem, r0, r1, r2]
    | true =>
      have HI2 : Hid (IsOf ms m true) := Lib.hid (by have h := HI.out; rwa [hmo] at h)
      obtain ⟨f1, f2, r0, r1, r2⟩ := O3.out.fin (us := [_, _]) 3 (by simp) rfl (List.Sublist.cons _ (List.Sublist.cons_cons _ (List.Sublist.cons_cons _ (List.nil_sublist _)))) (x := .int .i64 m.st) (y := .slice a1 m.next.length d1) (z := .slice a2 m.ends.length d2) rfl
      have HF := Lib.hid (And.intro f1 f2)
      clear f1 f2
      rw [hmo] at *
      go_wp2_with fail
      generalize (((W3.setCell ⟨R, 0, none⟩ (.int .i64 m.st)).setCell ⟨R, 1, none⟩ (.slice a1 m.next.length d1)).setCell ⟨R, 2, none⟩ (.slice a2 m.ends.length d2)) = WE at *
      refine bodyPost_ret (v := .tuple #[.agg #[.int .i64 m.st, .slice a1 m.next.length d1, .slice a2 m.ends.length d2], .bool true]) ?_ rfl ⟨m, true, a1, a2, d1, d2, HI2.out, rfl, HF.out.1, HF.out.2⟩
      simp [results, Try.results111, go_sem, r0, r1, r2]
end Go.Proofs.Ytjdeahdngpccpaa

namespace Go.Proofs.Ytjdeahdngpccpaa
open Go.RowKit

section
variable {B R : Nat} {a : Option Addr} {len cap : Nat} {w0 : World} {k : Nat} {ts us : List Thing} {w w' : World}
theorem OwR.box (h : OwR B R a len cap w0 k ts w) (cs : Array Value) (t : TypeId) : OwR B R a len cap w0 k (cellsT w.heap.size cs t :: ts) (w.alloc (.cells cs t)) :=
  have h1 := h.alloc (.cells cs t)
  ⟨h1.rd, h1.hR, h1.keep, h.ap.more (World.grownBy_alloc w _ none) _ (heap_alloc_new w _) h.size (fun j e => by cases e; simp)⟩
theorem OwR.put {i b : Nat} {cs : Array Value} {t : TypeId} (h : OwR B R a len cap w0 k ts w) (hi : i < ts.length) (he : ts[i] = cellsT b cs t) (j : Nat) (u : Value) :
    OwR B R a len cap w0 k (ts.set i (cellsT b (cs.setIfInBounds j u) t)) (w.setCell ⟨b, j, none⟩ u) := by
  have hlt := h.ap.ltAt i hi
  rw [he] at hlt
  have hb := (hlt b rfl).1
  have hR := h.hR
  exact ⟨h.rd.grown (grown_setCell w b j u) (fun k e => by cases e; omega), h.hR, h.keep.grown (grown_setCell w b j u) (fun k e => by cases e; exact hb), h.ap.setAt i hi he h.size j u⟩
theorem OwR.put3 {i b : Nat} {x0 y0 z0 : Value} {t : TypeId} (h : OwR B R a len cap w0 k ts w) (hi : i < ts.length) (he : ts[i] = cellsT b #[x0, y0, z0] t) (x y z : Value) :
    OwR B R a len cap w0 k (ts.set i (cellsT b #[x, y, z] t)) (((w.setCell ⟨b, 0, none⟩ x).setCell ⟨b, 1, none⟩ y).setCell ⟨b, 2, none⟩ z) := by
  have h1 := h.put hi he 0 x
  have h2 := h1.put (i := i) (b := b) (cs := #[x, y0, z0]) (t := t) (by simpa using hi) (by rw [List.getElem_set_self]; rfl) 1 y
  have h3 := h2.put (i := i) (b := b) (cs := #[x, y, z0]) (t := t) (by simpa using hi) (by rw [List.getElem_set_self]; rfl) 2 z
  rw [List.set_set, List.set_set] at h3
  exact h3
theorem OwR.tri (h : OwR B R a len cap w0 k ts w) (i : Nat) (hi : i < ts.length) {b : Nat} {x y z : Value} {t : TypeId} (he : ts[i] = cellsT b #[x, y, z] t) :
    w.cell? ⟨b, 0, none⟩ = some x ∧ w.cell? ⟨b, 1, none⟩ = some y ∧ w.cell? ⟨b, 2, none⟩ = some z ∧ w.frozen? ⟨b, 0, none⟩ = false ∧ w.frozen? ⟨b, 1, none⟩ = false ∧ w.frozen? ⟨b, 2, none⟩ = false ∧ w0.heap.size ≤ b ∧ b < w.heap.size := by
  have hs := h.ap.at i hi
  have hl := h.ap.ltAt i hi
  rw [he] at hs hl
  exact ⟨cellsT_cell hs 0, cellsT_cell hs 1, cellsT_cell hs 2, cellsT_frozen hs 0, cellsT_frozen hs 1, cellsT_frozen hs 2, hl b rfl⟩
theorem OwR.join {k' : Nat} (h : OwR B R a len cap w0 k ts w) (hr : RdAt B R a len cap k' w') (hk : KeepsBut R w w') (hA : Apart w.heap.size us w') : OwR B R a len cap w0 k' (us ++ ts) w' := by
  have h' := h.picked hr hk
  refine ⟨h'.rd, h'.hR, h'.keep, ⟨fun t ht => ?_, List.pairwise_append.2 ⟨hA.two, h'.ap.two, fun a ha b hb' k e e' => ?_⟩⟩⟩
  · rcases List.mem_append.1 ht with ht | ht
    · exact ⟨(hA.all t ht).1, fun k e => ⟨Nat.le_trans h.size ((hA.all t ht).2 k e).1, ((hA.all t ht).2 k e).2⟩⟩
    · exact h'.ap.all t ht
  · have := ((hA.all a ha).2 k e).1
    have := ((h.ap.all b hb').2 k e').2
    omega
theorem OwR.joinB (h : OwR B R a len cap w0 k ts w) (hb : Below w.heap.size w w') (hA : Apart w.heap.size us w') : OwR B R a len cap w0 k (us ++ ts) w' :=
  h.join (h.rd.keeps hb) (KeepsBut.of_below hb) hA
end
theorem counted_n {v1 v2 v3 : Int} (a0 : 0 ≤ v1) (a1 : v1 < 7) (b0 : 0 ≤ v2) (b1 : v2 < 40) (c0 : 0 ≤ v3) (c1 : v3 < 40) :
    -7 ≤ IntKind.i64.wrap (IntKind.i64.wrap (v1 + IntKind.i64.wrap (IntKind.i64.wrap (v2.tdiv 39) * 5)) - IntKind.i64.wrap (IntKind.i64.wrap (v3.tdiv 39) * 7)) ∧
    IntKind.i64.wrap (IntKind.i64.wrap (v1 + IntKind.i64.wrap (IntKind.i64.wrap (v2.tdiv 39) * 5)) - IntKind.i64.wrap (IntKind.i64.wrap (v3.tdiv 39) * 7)) ≤ 11 := by
  rw [Int.tdiv_eq_ediv_of_nonneg b0, Int.tdiv_eq_ediv_of_nonneg c0]
  have hb : v2 / 39 = 0 ∨ v2 / 39 = 1 := by omega
  have hc : v3 / 39 = 0 ∨ v3 / 39 = 1 := by omega
  have e0 : IntKind.i64.wrap (IntKind.i64.wrap 0 * 5) = 0 := by decide
  have e1 : IntKind.i64.wrap (IntKind.i64.wrap 1 * 5) = 5 := by decide
  have e2 : IntKind.i64.wrap (IntKind.i64.wrap 0 * 7) = 0 := by decide
  have e3 : IntKind.i64.wrap (IntKind.i64.wrap 1 * 7) = 7 := by decide
  rcases hb with hb | hb <;> rcases hc with hc | hc <;> rw [hb, hc] <;> simp only [e0, e1, e2, e3] <;> (rw [IntWalk.i64_in (v1 + _) (by omega), IntWalk.i64_in _ (by omega)]; omega)

/-- a machine, good or not, as large as one may be -/
def M.small (m : M) : Prop := (Lit.int .i64 m.st).wf = true ∧ -100 ≤ m.st ∧ m.st ≤ 100 ∧ m.next.length ≤ 144 ∧ m.ends.length ≤ 48
theorem IsOf.small {ms : List Mk} {m : M} (h : IsOf ms m true) : m.small := by
  have hl := h.len
  have hs := M.ok_shape (hl.2.2.2.1 rfl)
  exact ⟨hl.2.2.1, by omega, by omega, hl.1, hl.2.1⟩
/-- what drawing a machine and a number leaves -/
def CountDrawn (B R : Nat) (a : Option Addr) (len cap k : Nat) (w : World) (e : Ending) (w' : World) : Prop :=
  ∃ (m : M) (a1 a2 : Option Addr) (c1 c2 : Nat) (n : Int), e = .returned (.tuple #[.agg #[.int .i64 m.st, .slice a1 m.next.length c1, .slice a2 m.ends.length c2], .int .i64 n]) ∧ m.small ∧ (-7 ≤ n ∧ n ≤ 11) ∧
    ∃ k', k ≤ k' ∧ k' ≤ k + 200 ∧ OwR B R a len cap w k' [rowT 3 1 (.slice a1 m.next.length c1) m.next.length (m.next.map (Value.int .i64)), rowT 4 1 (.slice a2 m.ends.length c2) m.ends.length (m.ends.map Value.bool)] w'

set_option maxHeartbeats 3200000 in
theorem l20Counted_any (B R : Nat) (a : Option Addr) (len cap k : Nat) (w : World) (H : RdAt B R a len cap k w) (hk : k ≤ 700000) :
    Calls Try.prog 71 #[.pointer (some ⟨R, 0, none⟩)] w (CountDrawn B R a len cap k w) := by
  have O0 := Lib.hid ((OwR.start H).box #[.int .i64 0, .slice none 0 0, .slice none 0 0] 26)
  have HC := Lib.hid (l20Machine_any B R a len cap k 14 _ O0.out.rd (by omega) (by omega) (by omega))
  have hRw := H.hR
  clear H
  go_enter Try.func71, Try.ntmps71
  go_wp2_with fail
  refine HC.out.mono ?_
  clear HC
  rintro e w2 ⟨st, xs, bs, nv, ev, rfl, h0, h1, h2, h3, ⟨k1, hk1, hk2, hR1⟩, hK1, hA⟩
  obtain ⟨a1, c1, rfl⟩ := ownsRow_sliceD hA.head
  obtain ⟨a2, c2, rfl⟩ := ownsRow_sliceD hA.tail.head
  have HM : Hid (M.small ⟨st, xs, bs⟩) := Lib.hid ⟨(WalkArith.wf_i64 (by omega) : (Lit.int .i64 st).wf = true), by show -100 ≤ st; omega, by show st ≤ 100; omega, by show xs.length ≤ 144; omega, by show bs.length ≤ 48; omega⟩
  have O1 : Hid (OwR B R a len cap w k1 [rowT 3 1 (.slice a1 xs.length c1) xs.length (xs.map (Value.int .i64)), rowT 4 1 (.slice a2 bs.length c2) bs.length (bs.map Value.bool), cellsT w.heap.size #[.int .i64 0, .slice none 0 0, .slice none 0 0] 26] w2) := Lib.hid (O0.out.join hR1 hK1 hA)
  have O2 : Hid (OwR B R a len cap w k1 [rowT 3 1 (.slice a1 xs.length c1) xs.length (xs.map (Value.int .i64)), rowT 4 1 (.slice a2 bs.length c2) bs.length (bs.map Value.bool), cellsT w2.heap.size #[.int .i64 st, .slice a1 xs.length c1, .slice a2 bs.length c2] 26, cellsT w.heap.size #[.int .i64 0, .slice none 0 0, .slice none 0 0] 26] (w2.alloc (.cells #[.int .i64 st, .slice a1 xs.length c1, .slice a2 bs.length c2] 26))) :=
    Lib.hid ((O1.out.box #[.int .i64 st, .slice a1 xs.length c1, .slice a2 bs.length c2] 26).perm ((List.perm_append_comm (l₁ := [_]) (l₂ := [_, _])).append_right [_]))
  have HKB := Lib.hid (show k ≤ k1 ∧ k1 ≤ k + 30 ∧ k ≤ 700000 by omega)
  have hlt := (O1.out.tri 2 (by simp) rfl).2.2.2.2.2.2.2
  clear O0 O1 hR1 hK1 hA h0 h1 h2 h3 hk1 hk2 hk
  go_wp2_with fail
  generalize (w2.alloc (.cells #[.int .i64 st, .slice a1 xs.length c1, .slice a2 bs.length c2] 26)) = W2 at *
  generalize w2.heap.size = B4 at *
  refine (pick_any B R a len cap k1 3 _ O2.out.rd (by have := HKB.out; omega) (by omega) (by omega)).mono ?_
  rintro e w3 ⟨v, rfl, hv0, -, hR3, hK3⟩
  have O3 := Lib.hid (O2.out.picked hR3 hK3)
  clear O2 hR3 hK3
  generalize hR0 : w.heap.size = R0 at *
  have hne1 : B4 ≠ R0 := by omega
  have hne2 : R0 ≠ B4 := by omega
  clear hlt
  by_cases hv : v = 0
  · subst hv
    go_wp2_with fail
    refine (l20Term_any B R a len cap (k1 + 1) 0 _ O3.out.rd (by have := HKB.out; omega) (by omega) (by omega)).mono ?_
    rintro e w4 ⟨ms, mv, k4, rfl, hms, hwf, hk3, hk4, hT⟩
    have O4 : Hid (OwR B R a len cap w k4 [rowT 108 5 mv ms.length (cellsM ms), rowT 3 1 (.slice a1 xs.length c1) xs.length (xs.map (Value.int .i64)), rowT 4 1 (.slice a2 bs.length c2) bs.length (bs.map Value.bool), cellsT B4 #[.int .i64 st, .slice a1 xs.length c1, .slice a2 bs.length c2] 26, cellsT R0 #[.int .i64 0, .slice none 0 0, .slice none 0 0] 26] w4) := Lib.hid (O3.out.join hT.rd hT.keep hT.ap)
    have HO := Lib.hid (specMachineOf_any ms mv w4 (IsMarks.of_owns (O4.out.row 0 (by simp) rfl)) (by omega))
    replace HKB := Lib.hid (show k ≤ k4 ∧ k4 ≤ k + 131 ∧ k ≤ 700000 by have := HKB.out; omega)
    clear hT O3 hms hwf hk3 hk4
    go_wp2_with fail
    refine HO.out.mono ?_
    clear HO
    rintro e w5 ⟨m, b, a3, a4, c3, c4, hof, rfl, hA5, hb5⟩
    have O5 : Hid (OwR B R a len cap w k4 [rowT 3 1 (.slice a3 m.next.length c3) m.next.length (m.next.map (Value.int .i64)), rowT 4 1 (.slice a4 m.ends.length c4) m.ends.length (m.ends.map Value.bool), rowT 108 5 mv ms.length (cellsM ms), rowT 3 1 (.slice a1 xs.length c1) xs.length (xs.map (Value.int .i64)), rowT 4 1 (.slice a2 bs.length c2) bs.length (bs.map Value.bool), cellsT B4 #[.int .i64 st, .slice a1 xs.length c1, .slice a2 bs.length c2] 26, cellsT R0 #[.int .i64 0, .slice none 0 0, .slice none 0 0] 26] w5) := Lib.hid (O4.out.joinB hb5 hA5)
    clear O4 hA5 hb5
    cases b with
    | false =>
      have O6 := Lib.hid ((O5.out.sub (us := [_, _, _, _]) (List.Sublist.cons _ (List.Sublist.cons _ (List.Sublist.cons _ (List.Sublist.refl _))))).alloc (.cells #[.int .i64 m.st, .slice a3 m.next.length c3, .slice a4 m.ends.length c4] 26))
      clear O5 hof
      go_upto_region 6 with fail
      generalize (w5.alloc (.cells #[.int .i64 m.st, .slice a3 m.next.length c3, .slice a4 m.ends.length c4] 26)) = W6 at *
      obtain ⟨y00, y01, y02, -⟩ := O6.out.tri 2 (by simp) rfl
      skip
      have OD := Lib.hid O6.out.drew
      go_region_held3 (fun w' => w'.cell? ⟨B4, 0, none⟩ = some (.int .i64 st) ∧ w'.cell? ⟨B4, 1, none⟩ = some (.slice a1 xs.length c1) ∧ w'.cell? ⟨B4, 2, none⟩ = some (.slice a2 bs.length c2))
        (refine ⟨?_, ?_, ?_⟩ <;> go_simp)
        (first | (go_at_call 81; (first | (refine (pick_any B R a len cap (k4 + 2) 40 _ P2.out.rd (by have := HKB.out; omega) (by omega) (by omega)).mono ?_; rintro e p3 ⟨v3, rfl, q30, q31, hR3, hK3⟩; have P3 := Lib.hid (P2.out.picked hR3 hK3); have q32 := q31 (by omega); obtain ⟨y30, y31, y32, -⟩ := P3.out.tri 2 (by simp) rfl; obtain ⟨m30, m31, m32, x30, x31, x32, -, -⟩ := P3.out.tri 3 (by simp) rfl; clear q31 hR3 hK3) | (refine (pick_any B R a len cap (k4 + 1) 40 _ P1.out.rd (by have := HKB.out; omega) (by omega) (by omega)).mono ?_; rintro e p2 ⟨v2, rfl, q20, q21, hR2, hK2⟩; have P2 := Lib.hid (P1.out.picked hR2 hK2); have q22 := q21 (by omega); obtain ⟨y20, y21, y22, -⟩ := P2.out.tri 2 (by simp) rfl; obtain ⟨m20, m21, m22, x20, x21, x22, -, -⟩ := P2.out.tri 3 (by simp) rfl; clear q21 hR2 hK2) | (refine (pick_any B R a len cap (k4 + 0) 7 _ OD.out.rd (by have := HKB.out; omega) (by omega) (by omega)).mono ?_; rintro e p1 ⟨v1, rfl, q10, q11, hR1, hK1⟩; have P1 := Lib.hid (OD.out.picked hR1 hK1); have q12 := q11 (by omega); obtain ⟨y10, y11, y12, -⟩ := P1.out.tri 2 (by simp) rfl; obtain ⟨m10, m11, m12, x10, x11, x12, -, -⟩ := P1.out.tri 3 (by simp) rfl; clear q11 hR1 hK1))))
      all_goals
        have PF := Lib.hid (P3.out.put3 (i := 3) (by simp) rfl (.int .i64 st) (.slice a1 xs.length c1) (.slice a2 bs.length c2))
        go_wp2
        obtain ⟨r0, r1, r2, -⟩ := PF.out.tri 3 (by simp) rfl
        refine bodyPost_ret (v := .tuple #[.agg #[.int .i64 st, .slice a1 xs.length c1, .slice a2 bs.length c2], .int .i64 (IntKind.i64.wrap (IntKind.i64.wrap (v1 + IntKind.i64.wrap (IntKind.i64.wrap (v2.tdiv 39) * 5)) - IntKind.i64.wrap (IntKind.i64.wrap (v3.tdiv 39) * 7)))]) ?_ rfl ⟨⟨st, xs, bs⟩, _, _, _, _, _, rfl, HM.out, counted_n q10 q12 q20 q22 q30 q32, k4 + 3, by have := HKB.out; omega, by have := HKB.out; omega, PF.out.sub (List.Sublist.cons_cons _ (List.Sublist.cons_cons _ (List.nil_sublist _)))⟩
        simp [results, Try.results71, go_sem, r0, r1, r2]
    | true =>
      have O6 := Lib.hid ((O5.out.sub (us := [rowT 3 1 (.slice a3 m.next.length c3) m.next.length (m.next.map (Value.int .i64)), rowT 4 1 (.slice a4 m.ends.length c4) m.ends.length (m.ends.map Value.bool), cellsT B4 #[.int .i64 st, .slice a1 xs.length c1, .slice a2 bs.length c2] 26, cellsT R0 #[.int .i64 0, .slice none 0 0, .slice none 0 0] 26]) (List.Sublist.cons_cons _ (List.Sublist.cons_cons _ (List.Sublist.cons _ (List.Sublist.cons _ (List.Sublist.cons _ (List.Sublist.refl _))))))).box #[.int .i64 m.st, .slice a3 m.next.length c3, .slice a4 m.ends.length c4] 26)
      replace HM := Lib.hid hof.small
      clear O5 hof
      obtain ⟨u0, u1, u2, u3, u4, u5, -, u6⟩ := O6.out.tri 3 (by simp) rfl
      have O7 := Lib.hid ((O6.out.put3 (i := 3) (by simp) rfl (.int .i64 m.st) (.slice a3 m.next.length c3) (.slice a4 m.ends.length c4)).sub (us := [rowT 3 1 (.slice a3 m.next.length c3) m.next.length (m.next.map (Value.int .i64)), rowT 4 1 (.slice a4 m.ends.length c4) m.ends.length (m.ends.map Value.bool), cellsT B4 #[.int .i64 m.st, .slice a3 m.next.length c3, .slice a4 m.ends.length c4] 26, cellsT R0 #[.int .i64 0, .slice none 0 0, .slice none 0 0] 26]) (List.Sublist.cons _ (List.Sublist.refl _)))
      have t6 := (O6.out.tri 0 (by simp) rfl).2.2.2.2.2.2
      go_upto_region 6 with fail
      clear u0 u1 u2 u3 u4 u5 u6 t6 O6
      generalize ((((w5.alloc (.cells #[.int .i64 m.st, .slice a3 m.next.length c3, .slice a4 m.ends.length c4] 26)).setCell ⟨B4, 0, none⟩ (.int .i64 m.st)).setCell ⟨B4, 1, none⟩ (.slice a3 m.next.length c3)).setCell ⟨B4, 2, none⟩ (.slice a4 m.ends.length c4)) = W7 at *
      obtain ⟨y00, y01, y02, -⟩ := O7.out.tri 2 (by simp) rfl
      skip
      have OD := Lib.hid O7.out.drew
      go_region_held3 (fun w' => w'.cell? ⟨B4, 0, none⟩ = some (.int .i64 m.st) ∧ w'.cell? ⟨B4, 1, none⟩ = some (.slice a3 m.next.length c3) ∧ w'.cell? ⟨B4, 2, none⟩ = some (.slice a4 m.ends.length c4))
        (refine ⟨?_, ?_, ?_⟩ <;> go_simp)
        (first | (go_at_call 81; (first | (refine (pick_any B R a len cap (k4 + 2) 40 _ P2.out.rd (by have := HKB.out; omega) (by omega) (by omega)).mono ?_; rintro e p3 ⟨v3, rfl, q30, q31, hR3, hK3⟩; have P3 := Lib.hid (P2.out.picked hR3 hK3); have q32 := q31 (by omega); obtain ⟨y30, y31, y32, -⟩ := P3.out.tri 2 (by simp) rfl; obtain ⟨m30, m31, m32, x30, x31, x32, -, -⟩ := P3.out.tri 3 (by simp) rfl; clear q31 hR3 hK3) | (refine (pick_any B R a len cap (k4 + 1) 40 _ P1.out.rd (by have := HKB.out; omega) (by omega) (by omega)).mono ?_; rintro e p2 ⟨v2, rfl, q20, q21, hR2, hK2⟩; have P2 := Lib.hid (P1.out.picked hR2 hK2); have q22 := q21 (by omega); obtain ⟨y20, y21, y22, -⟩ := P2.out.tri 2 (by simp) rfl; obtain ⟨m20, m21, m22, x20, x21, x22, -, -⟩ := P2.out.tri 3 (by simp) rfl; clear q21 hR2 hK2) | (refine (pick_any B R a len cap (k4 + 0) 7 _ OD.out.rd (by have := HKB.out; omega) (by omega) (by omega)).mono ?_; rintro e p1 ⟨v1, rfl, q10, q11, hR1, hK1⟩; have P1 := Lib.hid (OD.out.picked hR1 hK1); have q12 := q11 (by omega); obtain ⟨y10, y11, y12, -⟩ := P1.out.tri 2 (by simp) rfl; obtain ⟨m10, m11, m12, x10, x11, x12, -, -⟩ := P1.out.tri 3 (by simp) rfl; clear q11 hR1 hK1))))
      all_goals
        have PF := Lib.hid (P3.out.put3 (i := 3) (by simp) rfl (.int .i64 m.st) (.slice a3 m.next.length c3) (.slice a4 m.ends.length c4))
        go_wp2
        obtain ⟨r0, r1, r2, -⟩ := PF.out.tri 3 (by simp) rfl
        refine bodyPost_ret (v := .tuple #[.agg #[.int .i64 m.st, .slice a3 m.next.length c3, .slice a4 m.ends.length c4], .int .i64 (IntKind.i64.wrap (IntKind.i64.wrap (v1 + IntKind.i64.wrap (IntKind.i64.wrap (v2.tdiv 39) * 5)) - IntKind.i64.wrap (IntKind.i64.wrap (v3.tdiv 39) * 7)))]) ?_ rfl ⟨m, _, _, _, _, _, rfl, HM.out, counted_n q10 q12 q20 q22 q30 q32, k4 + 3, by have := HKB.out; omega, by have := HKB.out; omega, PF.out.sub (List.Sublist.cons_cons _ (List.Sublist.cons_cons _ (List.nil_sublist _)))⟩
        simp [results, Try.results71, go_sem, r0, r1, r2]
  · go_upto_region 6 with fail
    obtain ⟨y00, y01, y02, -⟩ := O3.out.tri 2 (by simp) rfl
    skip
    have OD := Lib.hid O3.out.drew
    go_region_held3 (fun w' => w'.cell? ⟨B4, 0, none⟩ = some (.int .i64 st) ∧ w'.cell? ⟨B4, 1, none⟩ = some (.slice a1 xs.length c1) ∧ w'.cell? ⟨B4, 2, none⟩ = some (.slice a2 bs.length c2))
      (refine ⟨?_, ?_, ?_⟩ <;> go_simp)
      (first | (go_at_call 81; (first | (refine (pick_any B R a len cap ((k1 + 1) + 2) 40 _ P2.out.rd (by have := HKB.out; omega) (by omega) (by omega)).mono ?_; rintro e p3 ⟨v3, rfl, q30, q31, hR3, hK3⟩; have P3 := Lib.hid (P2.out.picked hR3 hK3); have q32 := q31 (by omega); obtain ⟨y30, y31, y32, -⟩ := P3.out.tri 2 (by simp) rfl; obtain ⟨m30, m31, m32, x30, x31, x32, -, -⟩ := P3.out.tri 3 (by simp) rfl; clear q31 hR3 hK3) | (refine (pick_any B R a len cap ((k1 + 1) + 1) 40 _ P1.out.rd (by have := HKB.out; omega) (by omega) (by omega)).mono ?_; rintro e p2 ⟨v2, rfl, q20, q21, hR2, hK2⟩; have P2 := Lib.hid (P1.out.picked hR2 hK2); have q22 := q21 (by omega); obtain ⟨y20, y21, y22, -⟩ := P2.out.tri 2 (by simp) rfl; obtain ⟨m20, m21, m22, x20, x21, x22, -, -⟩ := P2.out.tri 3 (by simp) rfl; clear q21 hR2 hK2) | (refine (pick_any B R a len cap ((k1 + 1) + 0) 7 _ OD.out.rd (by have := HKB.out; omega) (by omega) (by omega)).mono ?_; rintro e p1 ⟨v1, rfl, q10, q11, hR1, hK1⟩; have P1 := Lib.hid (OD.out.picked hR1 hK1); have q12 := q11 (by omega); obtain ⟨y10, y11, y12, -⟩ := P1.out.tri 2 (by simp) rfl; obtain ⟨m10, m11, m12, x10, x11, x12, -, -⟩ := P1.out.tri 3 (by simp) rfl; clear q11 hR1 hK1))))
    all_goals
      have PF := Lib.hid (P3.out.put3 (i := 3) (by simp) rfl (.int .i64 st) (.slice a1 xs.length c1) (.slice a2 bs.length c2))
      go_wp2
      obtain ⟨r0, r1, r2, -⟩ := PF.out.tri 3 (by simp) rfl
      refine bodyPost_ret (v := .tuple #[.agg #[.int .i64 st, .slice a1 xs.length c1, .slice a2 bs.length c2], .int .i64 (IntKind.i64.wrap (IntKind.i64.wrap (v1 + IntKind.i64.wrap (IntKind.i64.wrap (v2.tdiv 39) * 5)) - IntKind.i64.wrap (IntKind.i64.wrap (v3.tdiv 39) * 7)))]) ?_ rfl ⟨⟨st, xs, bs⟩, _, _, _, _, _, rfl, HM.out, counted_n q10 q12 q20 q22 q30 q32, (k1 + 1) + 3, by have := HKB.out; omega, by have := HKB.out; omega, PF.out.sub (List.Sublist.cons_cons _ (List.Sublist.cons_cons _ (List.nil_sublist _)))⟩
      simp [results, Try.results71, go_sem, r0, r1, r2]
end Go.Proofs.Ytjdeahdngpccpaa

namespace Go.Proofs.Ytjdeahdngpccpaa
open Go.RowKit

/-- what drawing a machine and a word leaves -/
def RoundDrawn (B R : Nat) (a : Option Addr) (len cap k : Nat) (w : World) (e : Ending) (w' : World) : Prop :=
  ∃ (m : M) (a1 a2 : Option Addr) (c1 c2 : Nat) (s : ByteArray), e = .returned (.tuple #[.agg #[.int .i64 m.st, .slice a1 m.next.length c1, .slice a2 m.ends.length c2], .string s]) ∧ m.small ∧ s.size ≤ 23 ∧
    ∃ k', k ≤ k' ∧ k' ≤ k + 300 ∧ OwR B R a len cap w k' [rowT 3 1 (.slice a1 m.next.length c1) m.next.length (m.next.map (Value.int .i64)), rowT 4 1 (.slice a2 m.ends.length c2) m.ends.length (m.ends.map Value.bool)] w'

theorem IsRow.belowC {k : IntKind} {w w' : World} {a : Option Addr} {len cap : Nat} {zs : List Int} (h : IsRow k w a len cap zs) (hb : Below w.heap.size w w') : IsRow k w' a len cap zs := by
  rcases h with h | ⟨x, h1, h2, h3, h4, h5, h6⟩
  · exact .inl h
  · exact .inr ⟨x, h1, h2, h3, h4, fun i hi => (hb.cell (World.block_lt_of_cell? w _ (h5 i hi))).trans (h5 i hi), h6⟩
/-- what drawing a machine and a word returns -/
def RoundRes (w : World) (e : Ending) (w' : World) : Prop :=
  ∃ (m : M) (a1 a2 : Option Addr) (c1 c2 : Nat) (s : ByteArray), e = .returned (.tuple #[.agg #[.int .i64 m.st, .slice a1 m.next.length c1, .slice a2 m.ends.length c2], .string s]) ∧ m.small ∧ s.size ≤ 23 ∧
    IsInts w' (.slice a1 m.next.length c1) m.next ∧ IsBools w' (.slice a2 m.ends.length c2) m.ends ∧ Below w.heap.size w w'

end Go.Proofs.Ytjdeahdngpccpaa

namespace Go.Proofs.Ytjdeahdngpccpaa

/-- the first letter is put behind the others -/
def rt1 : List UInt8 → List UInt8
  | [] => []
  | c :: cs => cs ++ [c]
/-- so many letters are put behind the others -/
def rt : Nat → List UInt8 → List UInt8
  | 0, l => l
  | k + 1, l => rt1 (rt k l)
theorem rt1_length (l : List UInt8) : (rt1 l).length = l.length := by cases l <;> simp [rt1]
theorem rt_length (k : Nat) (l : List UInt8) : (rt k l).length = l.length := by
  induction k with
  | zero => rfl
  | succ k ih => rw [rt, rt1_length, ih]
theorem rt_add (a b : Nat) (l : List UInt8) : rt (a + b) l = rt a (rt b l) := by
  induction a with
  | zero => rw [Nat.zero_add]; rfl
  | succ a ih => rw [Nat.succ_add, rt, rt, ih]
theorem rt_drop (l : List UInt8) (k : Nat) (h : k ≤ l.length) : rt k l = l.drop k ++ l.take k := by
  induction k with
  | zero => simp [rt]
  | succ k ih =>
    have hk : k < l.length := by omega
    rw [rt, ih (by omega), List.drop_eq_getElem_cons hk, List.cons_append, rt1, List.append_assoc, ← List.take_succ_eq_append_getElem hk]
theorem rt_full (l : List UInt8) : rt l.length l = l := by
  rw [rt_drop l _ (Nat.le_refl _), List.drop_length, List.take_length, List.nil_append]
theorem rt1_all (l : List UInt8) : allL (rt1 l) = allL l := by
  cases l with
  | nil => rfl
  | cons c cs => simp [rt1, allL, Bool.and_comm]
theorem rt_all (k : Nat) (l : List UInt8) : allL (rt k l) = allL l := by
  induction k with
  | zero => rfl
  | succ k ih => rw [rt, rt1_all, ih]
theorem rt1_inj {a b : List UInt8} (h : rt1 a = rt1 b) : a = b := by
  have hl := congrArg List.length h
  rw [rt1_length, rt1_length] at hl
  cases a with
  | nil => cases b with
    | nil => rfl
    | cons d ds => simp at hl
  | cons c cs => cases b with
    | nil => simp at hl
    | cons d ds =>
      have := List.append_inj h (by simpa using hl)
      rw [this.1, List.singleton_inj.1 this.2]
theorem rt_inj {a b : List UInt8} (k : Nat) (h : rt k a = rt k b) : a = b := by
  induction k with
  | zero => exact h
  | succ k ih => exact ih (rt1_inj h)
theorem rt_times (l : List UInt8) (p q : Nat) (h : rt p l = l) : rt (p * q) l = l := by
  induction q with
  | zero => rfl
  | succ q ih => rw [Nat.mul_succ, rt_add, h, ih]
theorem rt_nil (j : Nat) : rt j [] = [] := by
  induction j with
  | zero => rfl
  | succ j ih => rw [rt, ih]; rfl
/-- rolled on it comes back -/
theorem rt_back (l : List UInt8) (j : Nat) : ∃ i, rt i (rt j l) = l := by
  cases hl : l.length with
  | zero => exact ⟨0, by rw [List.eq_nil_of_length_eq_zero hl, rt_nil]; rfl⟩
  | succ n =>
    refine ⟨n * j, ?_⟩
    rw [← rt_add, show n * j + j = (n + 1) * j from (Nat.succ_mul n j).symm, ← hl]
    exact rt_times l _ _ (rt_full l)

/-- whether a word comes befR another one, in the order r, d, n -/
def befR : List UInt8 → List UInt8 → Bool
  | a :: xs, b :: ys => if a = b then befR xs ys else decide (letterOf (a.toNat : Int) < letterOf (b.toNat : Int))
  | _, _ => false
theorem letter_inj {a b : UInt8} (ha : isL a = true) (hb : isL b = true) (h : letterOf (a.toNat : Int) = letterOf (b.toNat : Int)) : a = b := by
  simp only [isL, Bool.or_eq_true, beq_iff_eq] at ha hb
  rcases ha with (rfl | rfl) | rfl <;> rcases hb with (rfl | rfl) | rfl <;> first | rfl | (exact absurd h (by decide))
/-- the first one of the first rolls -/
def leastTo (l : List UInt8) : Nat → List UInt8
  | 0 => l
  | k + 1 => if befR (rt (k + 1) l) (leastTo l k) = true then rt (k + 1) l else leastTo l k
/-- the first one of all rolls -/
def leastR (l : List UInt8) : List UInt8 := leastTo l (l.length - 1)
theorem leastTo_is (l : List UInt8) (k : Nat) : ∃ j, j ≤ k ∧ leastTo l k = rt j l := by
  induction k with
  | zero => exact ⟨0, Nat.le_refl _, rfl⟩
  | succ k ih =>
    rw [leastTo]
    split
    · exact ⟨k + 1, Nat.le_refl _, rfl⟩
    · obtain ⟨j, hj, e⟩ := ih
      exact ⟨j, by omega, e⟩
theorem leastTo_length (l : List UInt8) (k : Nat) : (leastTo l k).length = l.length := by
  obtain ⟨j, _, e⟩ := leastTo_is l k
  rw [e, rt_length]
theorem leastR_is (l : List UInt8) : ∃ j, (j < l.length ∨ j = 0) ∧ leastR l = rt j l := by
  obtain ⟨j, hj, e⟩ := leastTo_is l (l.length - 1)
  exact ⟨j, by omega, e⟩
/-- how many rolls there are, sought from a number on -/
def perFrom (l : List UInt8) : Nat → Nat → Nat
  | 0, k => k
  | f + 1, k => if rt k l = l then k else perFrom l f (k + 1)
/-- how many different words a word is by rolling -/
def per (l : List UInt8) : Nat := perFrom l (l.length - 1) 1
theorem perFrom_spec (l : List UInt8) (f k : Nat) : k ≤ perFrom l f k ∧ perFrom l f k ≤ k + f ∧ (∀ i, k ≤ i → i < perFrom l f k → rt i l ≠ l) ∧ (perFrom l f k < k + f → rt (perFrom l f k) l = l) := by
  induction f generalizing k with
  | zero => exact ⟨Nat.le_refl _, Nat.le_refl _, fun i h g => by rw [perFrom] at g; omega, fun h => by rw [perFrom] at h; omega⟩
  | succ f ih =>
    rw [perFrom]
    by_cases h : rt k l = l
    · rw [if_pos h]; exact ⟨Nat.le_refl _, by omega, fun i h g => by omega, fun _ => h⟩
    · rw [if_neg h]
      obtain ⟨h1, h2, h3, h4⟩ := ih (k + 1)
      refine ⟨by omega, by omega, fun i hi hp => ?_, fun hp => h4 (by omega)⟩
      by_cases e : i = k
      · subst e; exact h
      · exact h3 i (by omega) hp
theorem per_pos (l : List UInt8) : 1 ≤ per l := (perFrom_spec l _ 1).1
theorem per_le (l : List UInt8) : per l ≤ max l.length 1 := by have := (perFrom_spec l (l.length - 1) 1).2.1; unfold per; omega
theorem per_least (l : List UInt8) (i : Nat) (h : 1 ≤ i) (g : i < per l) : rt i l ≠ l := (perFrom_spec l _ 1).2.2.1 i h g
theorem per_is (l : List UInt8) : rt (per l) l = l := by
  by_cases h : l.length = 0
  · obtain rfl := List.eq_nil_of_length_eq_zero h
    exact rt_nil _
  · by_cases g : per l < 1 + (l.length - 1)
    · exact (perFrom_spec l _ 1).2.2.2 g
    · have h1 := per_le l
      have : per l = l.length := by omega
      rw [this]; exact rt_full l
/-- a roll is new just among the first ones -/
theorem per_new (l : List UInt8) (k : Nat) (h : k < per l) (i : Nat) (hi : i < k) : rt i l ≠ rt k l := by
  intro e
  have h1 : rt i (rt (k - i) l) = rt i l := by rw [← rt_add, e]; congr 1; omega
  exact per_least l (k - i) (by omega) (by omega) (rt_inj i h1)
theorem per_old (l : List UInt8) (k : Nat) (h : ¬ k < per l) : k - per l < k ∧ rt (k - per l) l = rt k l := by
  have := per_pos l
  refine ⟨by omega, ?_⟩
  conv => rhs; rw [show k = (k - per l) + per l by omega, rt_add, per_is]
theorem cntTo_lt (p k : Nat) : cntTo (fun i => decide (i < p)) k = ((min k p : Nat) : Int) := by
  induction k with
  | zero => simp [cntTo]
  | succ k ih =>
    rw [cntTo, ih]
    by_cases h : k < p
    · simp [h]; omega
    · simp [h]; omega
theorem per_count (l : List UInt8) : cntTo (fun i => decide (i < per l)) (max l.length 1) = (per l : Int) := by
  rw [cntTo_lt]; have := per_le l; congr 1; omega

/-- a word's roll -/
theorem rollListR (s : ByteArray) (k : Nat) (h : k ≤ s.size) : (s.extract k s.size ++ s.extract 0 k).data.toList = rt k s.data.toList := by
  rw [rt_drop _ _ (by rw [len_data]; exact h), ByteArray.data_append, Array.toList_append, ByteArray.data_extract, ByteArray.data_extract, Array.toList_extract, Array.toList_extract, List.extract_eq_take_drop, List.extract_eq_take_drop, List.drop_zero, Nat.sub_zero]
  congr 1
  rw [List.take_of_length_le]
  rw [List.length_drop, len_data]; exact Nat.le_refl _
/-- a text of a row of bytes -/
def txtOf (l : List UInt8) : ByteArray := ⟨l.toArray⟩
theorem txtOf_list (l : List UInt8) : (txtOf l).data.toList = l := by simp [txtOf]
theorem txtOf_data (s : ByteArray) : txtOf s.data.toList = s := bytes_ext (txtOf_list _)
theorem txtOf_size (l : List UInt8) : (txtOf l).size = l.length := by rw [← len_data, txtOf_list]
theorem rolled_str (s : ByteArray) (k : Nat) (h : k ≤ s.size) : s.extract k s.size ++ s.extract 0 k = txtOf (rt k s.data.toList) := bytes_ext (by rw [rollListR s k h, txtOf_list])
theorem rolledStr_word {s : ByteArray} (hw : wordOk s = true) (k : Nat) (h : k ≤ s.size) : rolledOk s k = true ∧ rolledStr s k = txtOf (rt k s.data.toList) := by
  have e : rolledOk s k = true := by simp [rolledOk, hw]; omega
  exact ⟨e, by rw [rolledStr_yes s k e, rolled_str s k h]⟩
/-- LeastRoll -/
def leastRoll (s : ByteArray) : ByteArray := if wordOk s = true then txtOf (leastR s.data.toList) else ⟨#[]⟩
/-- RollsOf -/
def rollsOf (s : ByteArray) : Int := if wordOk s = true then (per s.data.toList : Int) else -1
end Go.Proofs.Ytjdeahdngpccpaa

namespace Go.Proofs.Ytjdeahdngpccpaa
open Go.RowKit

/-- StateFrom -/
def M.from (m : M) (s : Int) (word : ByteArray) : Int := if (m.ok && wordOk word && (decide (0 ≤ s) && decide (s ≤ m.st - 1))) = true then m.goes s word.data.toList else -2
theorem M.from_yes {m : M} {s : Int} {word : ByteArray} (h : m.ok = true) (g : wordOk word = true) (s0 : 0 ≤ s) (s1 : s < m.st) : m.from s word = m.goes s word.data.toList := by
  rw [M.from, if_pos]
  rw [h, g, Bool.true_and, Bool.true_and, Bool.and_eq_true, decide_eq_true_eq, decide_eq_true_eq]; omega
theorem M.from_no {m : M} {s : Int} {word : ByteArray} (h : (m.ok && wordOk word && (decide (0 ≤ s) && decide (s ≤ m.st - 1))) = false) : m.from s word = -2 := by rw [M.from, h]; rfl
/-- the least state from which a row of letters leads back, sought from a state on -/
def ringTo (m : M) (l : List UInt8) : Nat → Int → Int
  | 0, _ => -1
  | f + 1, s => if m.goes s l = s then s else ringTo m l f (s + 1)
/-- RingState of letters -/
def ringL (m : M) (l : List UInt8) : Int := ringTo m l m.st.toNat 0
/-- RingState -/
def ringState (m : M) (word : ByteArray) : Int := if (m.ok && wordOk word && decide (0 < word.size)) = true then ringL m word.data.toList else -1
theorem ringTo_spec (m : M) (l : List UInt8) (f : Nat) (s : Int) : (ringTo m l f s = -1 ∧ ∀ i, s ≤ i → i < s + f → m.goes i l ≠ i) ∨ (s ≤ ringTo m l f s ∧ ringTo m l f s < s + f ∧ m.goes (ringTo m l f s) l = ringTo m l f s ∧ ∀ i, s ≤ i → i < ringTo m l f s → m.goes i l ≠ i) := by
  induction f generalizing s with
  | zero => exact .inl ⟨rfl, fun i h g => by omega⟩
  | succ f ih =>
    rw [ringTo]
    by_cases h : m.goes s l = s
    · rw [if_pos h]; exact .inr ⟨Int.le_refl _, by omega, h, fun i h g => by omega⟩
    · rw [if_neg h]
      rcases ih (s + 1) with ⟨h1, h2⟩ | ⟨h1, h2, h3, h4⟩
      · refine .inl ⟨h1, fun i hi hp => ?_⟩
        by_cases e : i = s
        · subst e; exact h
        · exact h2 i (by omega) (by omega)
      · refine .inr ⟨by omega, by omega, h3, fun i hi hp => ?_⟩
        by_cases e : i = s
        · subst e; exact h
        · exact h4 i (by omega) hp
theorem ringTo_yes {m : M} {l : List UInt8} {f : Nat} {s : Int} (h : m.goes s l = s) : ringTo m l (f + 1) s = s := by rw [ringTo, if_pos h]
theorem ringTo_no {m : M} {l : List UInt8} {f : Nat} {s : Int} (h : m.goes s l ≠ s) : ringTo m l (f + 1) s = ringTo m l f (s + 1) := by rw [ringTo, if_neg h]
theorem ringState_yes {m : M} {word : ByteArray} (h : m.ok = true) (g : wordOk word = true) (k : 0 < word.size) : ringState m word = ringL m word.data.toList := by
  rw [ringState, h, g, decide_eq_true k]; rfl
theorem ringState_no {m : M} {word : ByteArray} (h : (m.ok && wordOk word && decide (0 < word.size)) = false) : ringState m word = -1 := by rw [ringState, h]; rfl
/-- RingOk -/
def ringOk (m : M) (word : ByteArray) : Bool := decide (0 ≤ ringState m word)
/-- whether a row of letters leads from some state back to it -/
theorem ringL_iff (m : M) (l : List UInt8) (h : 1 ≤ m.st) : 0 ≤ ringL m l ↔ ∃ s, 0 ≤ s ∧ s < m.st ∧ m.goes s l = s := by
  rcases ringTo_spec m l m.st.toNat 0 with ⟨h1, h2⟩ | ⟨h1, h2, h3, _⟩
  · constructor
    · intro h0; rw [ringL] at h0; omega
    · rintro ⟨s, a, b, c⟩; exact absurd c (h2 s a (by omega))
  · exact ⟨fun _ => ⟨_, h1, by omega, h3⟩, fun _ => h1⟩
theorem ringL_roll1 {m : M} (hm : m.ok = true) (l : List UInt8) (hl : allL l = true) (h : 0 ≤ ringL m l) : 0 ≤ ringL m (rt1 l) := by
  have hs := M.ok_shape hm
  rw [ringL_iff m _ hs.1] at h ⊢
  obtain ⟨s, h0, h1, h2⟩ := h
  cases l with
  | nil => exact ⟨s, h0, h1, rfl⟩
  | cons c cs =>
    simp only [allL, List.all_cons, Bool.and_eq_true] at hl
    have hc := letter_bd hl.1
    have hb := M.nx_bd hm s _ h1 hc.1 hc.2
    rw [M.goes] at h2
    refine ⟨m.nx s (letterOf (c.toNat : Int)), ?_, hb.2, ?_⟩
    · by_cases g : m.nx s (letterOf (c.toNat : Int)) = -1
      · rw [g, M.goes_neg] at h2; omega
      · omega
    · rw [rt1, M.goes_append, h2]; rfl
theorem ringL_roll {m : M} (hm : m.ok = true) (l : List UInt8) (hl : allL l = true) (k : Nat) (h : 0 ≤ ringL m l) : 0 ≤ ringL m (rt k l) := by
  induction k with
  | zero => exact h
  | succ k ih => exact ringL_roll1 hm _ (by rw [rt_all, hl]) ih
theorem ringL_roll_iff {m : M} (hm : m.ok = true) (l : List UInt8) (hl : allL l = true) (k : Nat) : 0 ≤ ringL m (rt k l) ↔ 0 ≤ ringL m l := by
  refine ⟨fun h => ?_, ringL_roll hm l hl k⟩
  obtain ⟨i, e⟩ := rt_back l k
  have := ringL_roll hm (rt k l) (by rw [rt_all, hl]) i h
  rwa [e] at this
/-- the sum of the first values of a function -/
def sumN (f : Nat → Int) : Nat → Int
  | 0 => 0
  | k + 1 => sumN f k + f k
theorem sumN_bd (f : Nat → Int) (B : Int) (k : Nat) (h : ∀ i, i < k → 0 ≤ f i ∧ f i ≤ B) : 0 ≤ sumN f k ∧ sumN f k ≤ k * B := by
  induction k with
  | zero => simp [sumN]
  | succ k ih =>
    have h1 := ih (fun i hi => h i (by omega))
    have h2 := h k (by omega)
    have e : ((k + 1 : Nat) : Int) * B = k * B + B := by rw [Int.natCast_add, Int.add_mul]; simp
    rw [sumN, e]; omega
/-- by how many letters a machine goes on from a state to another one -/
def M.steps (m : M) (i j : Nat) : Int := (if m.nx i 0 = (j : Int) then 1 else 0) + (if m.nx i 1 = (j : Int) then 1 else 0) + (if m.nx i 2 = (j : Int) then 1 else 0)
/-- of the first letters -/
def M.stepsTo (m : M) (l : Nat) (i j : Nat) : Int := sumN (fun c => if m.nx i (c : Int) = (j : Int) then 1 else 0) l
theorem M.stepsTo_three (m : M) (i j : Nat) : m.stepsTo 3 i j = m.steps i j := by
  simp only [M.stepsTo, sumN, M.steps, Int.zero_add]; rfl
theorem M.steps_bd (m : M) (i j : Nat) : 0 ≤ m.steps i j ∧ m.steps i j ≤ 3 := by
  rw [M.steps]; split <;> split <;> split <;> omega
/-- the walks from state to state with one letter more than so many -/
def M.walks (m : M) : Nat → Nat → Nat → Int
  | 0, i, j => m.steps i j
  | k + 1, i, j => sumN (fun b => m.walks k i b * m.steps b j) m.ends.length
/-- the diagonal's sum -/
def M.backs (m : M) (k : Nat) : Int := sumN (fun i => m.walks k i i) m.ends.length
/-- bounds: 3, 432, .. -/
def wbd : Nat → Int
  | 0 => 3
  | k + 1 => 48 * (wbd k * 3)
theorem M.walks_bd (m : M) (h : m.ends.length ≤ 48) (k i j : Nat) : 0 ≤ m.walks k i j ∧ m.walks k i j ≤ wbd k := by
  induction k generalizing i j with
  | zero => exact m.steps_bd i j
  | succ k ih =>
    have hb := sumN_bd (fun b => m.walks k i b * m.steps b j) (wbd k * 3) m.ends.length (fun b _ => by
      have h1 := ih i b
      have h2 := m.steps_bd b j
      exact ⟨Int.mul_nonneg h1.1 h2.1, Int.mul_le_mul h1.2 h2.2 h2.1 (by omega)⟩)
    refine ⟨hb.1, Int.le_trans hb.2 ?_⟩
    have h1 := ih i i
    rw [wbd]
    exact Int.mul_le_mul_of_nonneg_right (by omega) (by omega)
theorem wbd_le (k : Nat) (h : k ≤ 5) : wbd k ≤ 185752092672 := by
  have : k = 0 ∨ k = 1 ∨ k = 2 ∨ k = 3 ∨ k = 4 ∨ k = 5 := by omega
  rcases this with rfl | rfl | rfl | rfl | rfl | rfl <;> decide
theorem wbd_pos (k : Nat) : 3 ≤ wbd k := by
  induction k with
  | zero => decide
  | succ k ih => rw [wbd]; omega
/-- CountWalks -/
def ringNum (n : Int) : Bool := decide (1 ≤ n) && decide (n ≤ 6)
def countWalks (m : M) (n : Int) : Int := if (m.ok && ringNum n) = true then m.backs (n.toNat - 1) else -1

/-- a word of so many letters, told by a number: its letters are the digits in base 3, the least one first -/
def digits : Nat → Nat → List UInt8
  | 0, _ => []
  | k + 1, way => digits k way ++ [if way / 3 ^ k % 3 = 0 then 114 else if way / 3 ^ k % 3 = 1 then 100 else 110]
/-- all words of so many letters, each with each letter behind -/
def wordsL : Nat → List (List UInt8)
  | 0 => [[]]
  | k + 1 => (wordsL k).flatMap fun w => [w ++ [114], w ++ [100], w ++ [110]]
/-- how often a test holds in a row -/
def cntOf (p : List UInt8 → Bool) : List (List UInt8) → Int
  | [] => 0
  | w :: ws => (if p w = true then 1 else 0) + cntOf p ws
theorem cntOf_append (p : List UInt8 → Bool) (a b : List (List UInt8)) : cntOf p (a ++ b) = cntOf p a + cntOf p b := by
  induction a with
  | nil => simp [cntOf]
  | cons x xs ih => rw [List.cons_append, cntOf, cntOf, ih, Int.add_assoc]
theorem cntOf_bd (p : List UInt8 → Bool) (a : List (List UInt8)) : 0 ≤ cntOf p a ∧ cntOf p a ≤ a.length := by
  induction a with
  | nil => simp [cntOf]
  | cons x xs ih => rw [cntOf, List.length_cons]; split <;> omega
theorem cntOf_flat (p : List UInt8 → Bool) (a : List (List UInt8)) : cntOf p (a.flatMap fun w => [w ++ [114], w ++ [100], w ++ [110]]) = cntOf (fun w => p (w ++ [114])) a + cntOf (fun w => p (w ++ [100])) a + cntOf (fun w => p (w ++ [110])) a := by
  induction a with
  | nil => simp [cntOf]
  | cons x xs ih =>
    rw [List.flatMap_cons, cntOf_append, ih]
    simp only [cntOf]; omega
theorem cntTo_add (p : Nat → Bool) (a b : Nat) : cntTo p (a + b) = cntTo p a + cntTo (fun i => p (a + i)) b := by
  induction b with
  | zero => simp [cntTo]
  | succ b ih => rw [← Nat.add_assoc, cntTo, cntTo, ih, Int.add_assoc]
theorem cntTo_cgr (p q : Nat → Bool) (k : Nat) (h : ∀ i, i < k → p i = q i) : cntTo p k = cntTo q k := by
  induction k with
  | zero => rfl
  | succ k ih => rw [cntTo, cntTo, ih (fun i hi => h i (by omega)), h k (by omega)]
theorem digits_mod (k j way : Nat) (h : k ≤ j) (t : Nat) : digits k (t * 3 ^ j + way) = digits k way := by
  induction k with
  | zero => rfl
  | succ k ih =>
    have e : (t * 3 ^ j + way) / 3 ^ k % 3 = way / 3 ^ k % 3 := by
      obtain ⟨d, rfl⟩ : ∃ d, j = k + 1 + d := ⟨j - (k + 1), by omega⟩
      have e1 : t * 3 ^ (k + 1 + d) + way = 3 ^ k * (3 * (t * 3 ^ d)) + way := by
        rw [Nat.pow_add, Nat.pow_succ]; simp [Nat.mul_comm, Nat.mul_assoc, Nat.mul_left_comm]
      rw [e1, Nat.mul_add_div (Nat.pow_pos (by omega)), Nat.mul_add_mod]
    rw [digits, digits, ih (by omega), e]
theorem digits_split (k way t : Nat) (h : way < 3 ^ k) (ht : t < 3) : digits (k + 1) (3 ^ k * t + way) = digits k way ++ [if t = 0 then 114 else if t = 1 then 100 else 110] := by
  have hp : 0 < 3 ^ k := Nat.pow_pos (by omega)
  have e : (3 ^ k * t + way) / 3 ^ k % 3 = t := by
    rw [Nat.mul_add_div hp, Nat.div_eq_of_lt h, Nat.add_zero, Nat.mod_eq_of_lt ht]
  rw [digits, e, Nat.mul_comm, digits_mod k k way (Nat.le_refl _) t]
/-- both ways to tell all words count the same -/
theorem words_count (k : Nat) (p : List UInt8 → Bool) : cntTo (fun way => p (digits k way)) (3 ^ k) = cntOf p (wordsL k) := by
  induction k generalizing p with
  | zero => simp [cntTo, cntOf, wordsL, digits]
  | succ k ih =>
    have part : ∀ (t : Nat) (c : UInt8), t < 3 → (if t = 0 then (114 : UInt8) else if t = 1 then 100 else 110) = c → cntTo (fun way => p (digits (k + 1) (3 ^ k * t + way))) (3 ^ k) = cntOf (fun w => p (w ++ [c])) (wordsL k) := by
      intro t c ht hc
      rw [← ih (fun w => p (w ++ [c]))]
      exact cntTo_cgr _ _ _ (fun i hi => by simp only [digits_split k i t hi ht, hc])
    have h0 := part 0 114 (by omega) rfl
    have h1 := part 1 100 (by omega) rfl
    have h2 := part 2 110 (by omega) rfl
    rw [show 3 ^ (k + 1) = 3 ^ k + 3 ^ k + 3 ^ k by rw [Nat.pow_succ]; omega, cntTo_add, cntTo_add, wordsL, cntOf_flat, ← h0, ← h1, ← h2]
    simp only [Nat.mul_zero, Nat.zero_add, Nat.mul_one]
    congr 1
    exact cntTo_cgr _ _ _ (fun i _ => by rw [show 3 ^ k * 2 = 3 ^ k + 3 ^ k by omega])
theorem digits_length (k way : Nat) : (digits k way).length = k := by
  induction k with
  | zero => rfl
  | succ k ih => rw [digits, List.length_append, ih]; rfl
theorem digits_all (k way : Nat) : allL (digits k way) = true := by
  induction k with
  | zero => rfl
  | succ k ih =>
    rw [digits, allL, List.all_append]
    rw [allL] at ih
    rw [ih]; split
    · rfl
    · split <;> rfl
theorem wordsL_mem (k : Nat) (w : List UInt8) (h : w ∈ wordsL k) : w.length = k ∧ allL w = true := by
  induction k generalizing w with
  | zero => simp [wordsL] at h; subst h; exact ⟨rfl, rfl⟩
  | succ k ih =>
    rw [wordsL, List.mem_flatMap] at h
    obtain ⟨v, hv, hw⟩ := h
    obtain ⟨h1, h2⟩ := ih v hv
    rw [allL] at h2
    simp only [List.mem_cons, List.not_mem_nil, or_false] at hw
    rcases hw with rfl | rfl | rfl <;> (refine ⟨by simp [h1], ?_⟩; rw [allL, List.all_append, h2]; rfl)
theorem wordsL_length (k : Nat) : (wordsL k).length = 3 ^ k := by
  induction k with
  | zero => rfl
  | succ k ih =>
    have : ∀ a : List (List UInt8), (a.flatMap fun w => [w ++ [114], w ++ [100], w ++ [110]]).length = a.length * 3 := by
      intro a
      induction a with
      | nil => rfl
      | cons x xs ihx => rw [List.flatMap_cons, List.length_append, ihx]; simp; omega
    rw [wordsL, this, ih, Nat.pow_succ]
/-- whether a word is a necklace of a machine -/
def neckB (m : M) (l : List UInt8) : Bool := decide (leastR l = l) && decide (0 ≤ ringL m l)
/-- CountNecklaces -/
def countNecks (m : M) (n : Int) : Int := if (m.ok && ringNum n) = true then cntOf (neckB m) (wordsL n.toNat) else -1
end Go.Proofs.Ytjdeahdngpccpaa

namespace Go.Proofs.Ytjdeahdngpccpaa
open Go.RowKit

theorem fromClosure_any (m : M) (B : Nat) (s l : Int) (nv ev : Value) (w : World) (hM : MachBox B m.st nv m.next ev m.ends w) (hk : m.ok = true) (s0 : -1 ≤ s) (s1 : s < m.st) (l0 : 0 ≤ l) (l1 : l ≤ 2) :
    Calls Try.prog 98 #[.int .i64 s, .int .i64 l, .pointer (some ⟨B, 0, none⟩)] w fun e w' => e = .returned (.int .i64 (m.nx s l)) ∧ Below w.heap.size w w' := by
  have HC := Lib.hid (fun W a => implNextOf_any m s l nv ev W a hk s0 s1 l0 l1)
  have c0 := hM.c0
  have c1 := hM.c1
  have c2 := hM.c2
  have HI := Lib.hid hM.ints
  clear hM hk
  go_enter Try.func98, Try.ntmps98
  go_wp2_with fail
  refine (HC.out _ HI.out).mono ?_
  rintro e w1 ⟨rfl, hb1⟩
  go_wp2_with fail
  go_ret
  exact ⟨rfl, hb1⟩

set_option maxHeartbeats 1600000 in
theorem foldFrom_any (m : M) (B : Nat) (s : Int) (word : ByteArray) (nv ev : Value) (w : World) (hM : MachBox B m.st nv m.next ev m.ends w) (hk : m.ok = true) (hw : wordOk word = true) (s0 : 0 ≤ s) (s1 : s < m.st) :
    Calls Try.prog 97 #[.string word, .int .i64 s, .func (.func 98) #[] #[.pointer (some ⟨B, 0, none⟩)]] w
      fun e w' => e = .returned (.int .i64 (m.goes s word.data.toList)) ∧ Below w.heap.size w w' := by
  have h14 := wordOk_size hw
  have HK := Lib.hid hk
  have HW := Lib.hid hw
  have MM := Lib.hid hM
  have HS1 := Lib.hid s1
  clear hM hk hw
  go_enter Try.func97, Try.ntmps97
  go_wp2_with fail
  go_loopw [1, 7, 10] (fun v _ i wr => ∃ k : Nat, k ≤ word.size ∧ i = .int .i64 k ∧ v = .int .i64 (m.goes s (word.data.toList.take k)) ∧ Below w.heap.size w wr) (fun _ _ i _ => word.size - (intOf i).toNat)
  case atStart => exact ⟨0, Nat.zero_le _, rfl, rfl, Below.refl _ _⟩
  case round =>
    obtain ⟨k, hkk, rfl, rfl, hb⟩ := hrel
    have HB := Lib.hid hb
    clear hb
    by_cases hlt : k < word.size
    · have HSTEP := Lib.hid (M.goes_snoc m s word k hlt)
      have hbd := Lib.hid (goes_step_le (s := s) HK.out HW.out (by omega) HS1.out k)
      have hL := wordOk_at HW.out k hlt
      have hlb := Lib.hid (letter_bd hL)
      have HC := Lib.hid (idxLetter_any word[k] hL)
      clear hL
      generalize letterOf (word[k].toNat : Int) = l at *
      generalize m.goes s (word.data.toList.take k) = p at *
      have MD := Lib.hid (MM.out.below HB.out)
      go_wp2_with (first | (go_at_call 121; refine (HC.out _).mono ?_; rintro e w7 ⟨rfl, rfl⟩) | (go_at_call 98; refine (fromClosure_any m B p l nv ev _ MD.out HK.out hbd.out.1 hbd.out.2 hlb.out.1 hlb.out.2).mono ?_; rintro e w8 ⟨rfl, hb8⟩))
      go_roundw
      case rel => exact ⟨k + 1, by omega, by go_num, by rw [HSTEP.out], HB.out.trans (hb8.mono HB.out.size)⟩
      case measure => simp [intOf]; omega
    · obtain rfl : k = word.size := by omega
      have HG := Lib.hid (M.goes_all m s word)
      generalize m.goes s (word.data.toList.take word.size) = p at *
      go_wp2
      go_ret
      exact ⟨ret_int HG.out, HB.out⟩

theorem M.from_no1 {m : M} (s : Int) (word : ByteArray) (h : m.ok = false) : m.from s word = -2 := M.from_no (by rw [h]; rfl)
theorem M.from_no2 {m : M} (s : Int) {word : ByteArray} (h : wordOk word = false) : m.from s word = -2 := M.from_no (by rw [h, Bool.and_false]; rfl)
theorem M.from_no3 {m : M} {s : Int} (word : ByteArray) (h : ¬ (0 ≤ s ∧ s < m.st)) : m.from s word = -2 := M.from_no (by
  have : (decide (0 ≤ s) && decide (s ≤ m.st - 1)) = false := by
    rw [Bool.and_eq_false_iff, decide_eq_false_iff_not, decide_eq_false_iff_not]; omega
  rw [this, Bool.and_false])

set_option maxHeartbeats 1600000 in
theorem implStateFrom_any (m : M) (s : Int) (word : ByteArray) (nv ev : Value) (w : World) (h1 : IsInts w nv m.next) (h2 : IsBools w ev m.ends) (hst : (Lit.int .i64 m.st).wf = true) (hs : word.size ≤ maxLen) :
    Calls Try.prog 46 #[.agg #[.int .i64 m.st, nv, ev], .int .i64 s, .string word] w fun e w' => e = .returned (.int .i64 (m.from s word)) ∧ Below w.heap.size w w' := by
  have hM : MachBox w.heap.size m.st nv m.next ev m.ends (w.alloc (.cells #[.int .i64 m.st, nv, ev] 26)) := MachBox.new _ h1 h2
  have M0 := Lib.hid hM
  have q0 : Hid (Below w.heap.size w (w.alloc (.cells #[.int .i64 m.st, nv, ev] 26))) := Lib.hid ((Below.refl _ _).alloc (Nat.le_refl _) _)
  have HWD := Lib.hid (fun W => implWordOk_any word W hs)
  clear hM h1 h2
  go_enter Try.func46, Try.ntmps46
  go_wp2_with fail
  refine (implMachineOk_any m nv ev _ M0.out.ints M0.out.bools hst).mono ?_
  rintro e w1 ⟨rfl, hb1⟩
  have M1 := Lib.hid (M0.out.below hb1)
  have q1 := Lib.hid (q0.out.trans (hb1.mono q0.out.size))
  clear hb1 M0
  have y10 := M1.out.c0
  have y11 := M1.out.c1
  have y12 := M1.out.c2
  by_cases hk : m.ok = true
  · have HK := Lib.hid hk
    rw [hk]
    clear hk
    by_cases hw : wordOk word = true
    · have HW := Lib.hid hw
      rw [hw] at HWD
      clear hw
      by_cases hr : 0 ≤ s ∧ s < m.st
      · obtain ⟨r0, r1⟩ := hr
        have HR := Lib.hid (M.from_yes HK.out HW.out r0 r1)
        have HF := Lib.hid (fun W a => foldFrom_any m w.heap.size s word nv ev W a HK.out HW.out r0 r1)
        have n1 : ¬ s < 0 := by omega
        have n2 : ¬ m.st ≤ s := by omega
        go_wp2_with (first | (go_at_call 67; refine (HWD.out _).mono ?_; rintro e w2 ⟨rfl, rfl⟩) | (go_at_call 97; refine (HF.out _ M1.out).mono ?_; rintro e w3 ⟨rfl, hb3⟩; have q3 := Lib.hid (q1.out.trans (hb3.mono q1.out.size)); clear hb3))
        go_ret
        exact ⟨ret_int HR.out.symm, q3.out⟩
      · have HR := Lib.hid (M.from_no3 (m := m) word hr)
        by_cases n1 : s < 0
        · clear hr
          go_wp2_with (go_at_call 67; refine (HWD.out _).mono ?_; rintro e w2 ⟨rfl, rfl⟩)
          go_ret
          exact ⟨ret_int HR.out.symm, q1.out⟩
        · have n2 : m.st ≤ s := by omega
          clear hr
          go_wp2_with (go_at_call 67; refine (HWD.out _).mono ?_; rintro e w2 ⟨rfl, rfl⟩)
          go_ret
          exact ⟨ret_int HR.out.symm, q1.out⟩
    · have hwf : wordOk word = false := by simpa using hw
      have HR := Lib.hid (M.from_no2 (m := m) s hwf)
      rw [hwf] at HWD
      clear hw hwf
      go_wp2_with (go_at_call 67; refine (HWD.out _).mono ?_; rintro e w2 ⟨rfl, rfl⟩)
      go_ret
      exact ⟨ret_int HR.out.symm, q1.out⟩
  · have hkf : m.ok = false := by simpa using hk
    have HR := Lib.hid (M.from_no1 s word hkf)
    rw [hkf]
    clear hk hkf
    go_wp2_with fail
    go_ret
    exact ⟨ret_int HR.out.symm, q1.out⟩

end Go.Proofs.Ytjdeahdngpccpaa

namespace Go.Proofs.Ytjdeahdngpccpaa
open Go.RowKit

theorem ring_no1 {m : M} (word : ByteArray) (h : m.ok = false) : ringState m word = -1 := ringState_no (by rw [h]; rfl)
theorem ring_no2 (m : M) {word : ByteArray} (h : wordOk word = false) : ringState m word = -1 := ringState_no (by rw [h, Bool.and_false]; rfl)
theorem ring_no3 (m : M) {word : ByteArray} (h : ¬ 0 < word.size) : ringState m word = -1 := ringState_no (by rw [decide_eq_false h, Bool.and_false])
theorem empty_of_size {word : ByteArray} (h : ¬ 0 < word.size) : word = ⟨#[]⟩ := by
  apply bytes_ext
  rw [List.eq_nil_of_length_eq_zero (l := word.data.toList) (by rw [len_data]; omega)]
theorem full_of_size {word : ByteArray} (h : 0 < word.size) : ¬ word.toList = [] := by
  rw [ByteArray.toList_eq]
  intro e
  have := congrArg List.length e
  rw [len_data, List.length_nil] at this; omega

set_option maxHeartbeats 1600000 in
theorem implRingState_any (m : M) (word : ByteArray) (nv ev : Value) (w : World) (h1 : IsInts w nv m.next) (h2 : IsBools w ev m.ends) (hst : (Lit.int .i64 m.st).wf = true) (hs : word.size ≤ maxLen) :
    Calls Try.prog 104 #[.agg #[.int .i64 m.st, nv, ev], .string word] w fun e w' => e = .returned (.int .i64 (ringState m word)) ∧ Below w.heap.size w w' := by
  have hM : MachBox w.heap.size m.st nv m.next ev m.ends (w.alloc (.cells #[.int .i64 m.st, nv, ev] 26)) := MachBox.new _ h1 h2
  have M0 := Lib.hid hM
  have q0 : Hid (Below w.heap.size w (w.alloc (.cells #[.int .i64 m.st, nv, ev] 26))) := Lib.hid ((Below.refl _ _).alloc (Nat.le_refl _) _)
  have HWD := Lib.hid (fun W => implWordOk_any word W hs)
  clear hM h1 h2
  go_enter Try.func104, Try.ntmps104
  go_wp2_with fail
  refine (implMachineOk_any m nv ev _ M0.out.ints M0.out.bools hst).mono ?_
  rintro e w1 ⟨rfl, hb1⟩
  have M1 := Lib.hid (M0.out.below hb1)
  have q1 := Lib.hid (q0.out.trans (hb1.mono q0.out.size))
  clear hb1 M0
  have y10 := M1.out.c0
  have y11 := M1.out.c1
  have y12 := M1.out.c2
  by_cases hk : m.ok = true
  · have HK := Lib.hid hk
    have hsh := M.ok_shape hk
    have hst48 : m.st ≤ 48 := hsh.2.1
    have hst1 : 1 ≤ m.st := hsh.1
    rw [hk]
    clear hk hsh
    by_cases hw : wordOk word = true
    · have HW := Lib.hid hw
      rw [hw] at HWD
      clear hw
      by_cases hz : 0 < word.size
      · have HR := Lib.hid (ringState_yes HK.out HW.out hz)
        have hne := full_of_size hz
        have hneb : (word.toList == []) = false := by simpa using hne
        have HF := Lib.hid (fun (k : Int) (h0 : 0 ≤ k) (h1 : k < m.st) W a b => by
          have := implStateFrom_any m k word nv ev W a b hst hs
          rwa [M.from_yes HK.out HW.out h0 h1] at this)
        clear hz
        go_wp2_with (go_at_call 67; refine (HWD.out _).mono ?_; rintro e w2 ⟨rfl, rfl⟩)
        clear y10 y11 y12
        go_loopw [5, 20] (fun _ i wr => ∃ (k : Nat) (ki : Int), ki = (k : Int) ∧ ki ≤ m.st ∧ i = .int .i64 ki ∧ ringTo m word.data.toList (m.st.toNat - k) ki = ringL m word.data.toList ∧ MachBox w.heap.size m.st nv m.next ev m.ends wr ∧ Below w.heap.size w wr) (fun _ i _ => m.st.toNat - (intOf i).toNat)
        case atStart => exact ⟨0, 0, rfl, by omega, rfl, rfl, M1.out, q1.out⟩
        case round =>
          obtain ⟨k, ki, hki, hk, rfl, hr, hX, hQ⟩ := hrel
          have MK := Lib.hid hX
          have QK := Lib.hid hQ
          have HKI := Lib.hid hki
          have HRT := Lib.hid hr
          have y10 := hX.c0
          have y11 := hX.c1
          have y12 := hX.c2
          have hq : IntKind.i64.wrap (ki + 1) = ki + 1 := IntWalk.i64_in _ (by omega)
          clear hX hQ hr
          by_cases hlt : ki < m.st
          · have HC := Lib.hid (HF.out ki (by omega) hlt)
            obtain ⟨f, hf⟩ : ∃ f, m.st.toNat - k = f + 1 := ⟨m.st.toNat - k - 1, by omega⟩
            by_cases he : m.goes ki word.data.toList = ki
            · have HV : Hid (ringL m word.data.toList = ki) := Lib.hid (by rw [← HRT.out, hf, ringTo_yes he])
              rw [he] at HC
              clear hki hf he
              go_wp2_with (go_at_call 46; refine (HC.out _ MK.out.ints MK.out.bools).mono ?_; rintro e w3 ⟨rfl, hb3⟩; have q3 := Lib.hid (QK.out.trans (hb3.mono QK.out.size)); clear hb3)
              go_ret
              exact ⟨ret_int (by rw [HR.out, HV.out]), q3.out⟩
            · have HV : Hid (ringTo m word.data.toList (m.st.toNat - (k + 1)) (ki + 1) = ringL m word.data.toList) := Lib.hid (by rw [← HRT.out, hf, ringTo_no he]; congr 1; omega)
              have heb : (m.goes ki word.data.toList == ki) = false := by simpa using he
              generalize m.goes ki word.data.toList = g at *
              clear hki hf he
              go_wp2_with (go_at_call 46; refine (HC.out _ MK.out.ints MK.out.bools).mono ?_; rintro e w3 ⟨rfl, hb3⟩; have q3 := Lib.hid (QK.out.trans (hb3.mono QK.out.size)); have M3 := Lib.hid (MK.out.below hb3); clear hb3)
              go_roundw
              case rel => exact ⟨k + 1, ki + 1, by have := HKI.out; omega, by omega, by first | rfl | rw [hq], HV.out, M3.out, q3.out⟩
              case measure => simp [intOf]; have := HKI.out; omega
          · have HV : Hid (ringL m word.data.toList = -1) := Lib.hid (by rw [← HRT.out, show m.st.toNat - k = 0 by omega]; rfl)
            clear hki
            go_wp2_with fail
            go_ret
            exact ⟨ret_int (by rw [HR.out, HV.out]), QK.out⟩
      · have HR := Lib.hid (ring_no3 m hz)
        obtain rfl := empty_of_size hz
        clear hz
        go_wp2_with (go_at_call 67; refine (HWD.out _).mono ?_; rintro e w2 ⟨rfl, rfl⟩)
        go_ret
        exact ⟨ret_int HR.out.symm, q1.out⟩
    · have hwf : wordOk word = false := by simpa using hw
      have HR := Lib.hid (ring_no2 m hwf)
      rw [hwf] at HWD
      clear hw hwf
      go_wp2_with (go_at_call 67; refine (HWD.out _).mono ?_; rintro e w2 ⟨rfl, rfl⟩)
      go_ret
      exact ⟨ret_int HR.out.symm, q1.out⟩
  · have hkf : m.ok = false := by simpa using hk
    have HR := Lib.hid (ring_no1 word hkf)
    rw [hkf]
    clear hk hkf
    go_wp2_with fail
    go_ret
    exact ⟨ret_int HR.out.symm, q1.out⟩

set_option maxHeartbeats 1600000 in
theorem specRingState_any (m : M) (word : ByteArray) (nv ev : Value) (w : World) (h1 : IsInts w nv m.next) (h2 : IsBools w ev m.ends) (hst : (Lit.int .i64 m.st).wf = true) (hs : word.size ≤ maxLen) :
    Calls Try.prog 132 #[.agg #[.int .i64 m.st, nv, ev], .string word] w fun e w' => e = .returned (.int .i64 (ringState m word)) ∧ Below w.heap.size w w' := by
  have hM : MachBox w.heap.size m.st nv m.next ev m.ends (w.alloc (.cells #[.int .i64 m.st, nv, ev] 26)) := MachBox.new _ h1 h2
  have M0 := Lib.hid hM
  have q0 : Hid (Below w.heap.size w (w.alloc (.cells #[.int .i64 m.st, nv, ev] 26))) := Lib.hid ((Below.refl _ _).alloc (Nat.le_refl _) _)
  have HWD := Lib.hid (fun W => specWordOk_any word W hs)
  have HMO := Lib.hid (fun W a b => specMachineOk_any m nv ev W a b hst)
  clear hM h1 h2
  by_cases hk : m.ok = true
  · have HK := Lib.hid hk
    have hsh := M.ok_shape hk
    have hst48 : m.st ≤ 48 := hsh.2.1
    have hst1 : 1 ≤ m.st := hsh.1
    rw [hk] at HMO
    clear hk hsh
    by_cases hw : wordOk word = true
    · have HW := Lib.hid hw
      rw [hw] at HWD
      clear hw
      by_cases hz : 0 < word.size
      · have HR := Lib.hid (ringState_yes HK.out HW.out hz)
        have hzI : (0 : Int) < (word.size : Int) := by omega
        have HF := Lib.hid (fun (k : Int) (h0 : -1 ≤ k) (h1 : k < m.st) W a => specL2From_any m k word nv ev W a HK.out HW.out h0 h1)
        clear hz
        go_enter Try.func132, Try.ntmps132
        go_wp2_with fail
        go_loopw [5] (fun i wr => ∃ (k : Nat) (ki : Int), ki = (k : Int) ∧ ki ≤ m.st ∧ i = .int .i64 ki ∧ ringTo m word.data.toList (m.st.toNat - k) ki = ringL m word.data.toList ∧ MachBox w.heap.size m.st nv m.next ev m.ends wr ∧ Below w.heap.size w wr) (fun i _ => m.st.toNat - (intOf i).toNat)
        case atStart => exact ⟨0, 0, rfl, by omega, rfl, rfl, M0.out, q0.out⟩
        case round =>
          obtain ⟨k, ki, hki, hk, rfl, hr, hX, hQ⟩ := hrel
          have MK := Lib.hid hX
          have QK := Lib.hid hQ
          have HKI := Lib.hid hki
          have HRT := Lib.hid hr
          have y10 := hX.c0
          have y11 := hX.c1
          have y12 := hX.c2
          have hq : IntKind.i64.wrap (ki + 1) = ki + 1 := IntWalk.i64_in _ (by omega)
          clear hX hQ hr
          by_cases hlt : ki < m.st
          · have HC := Lib.hid (HF.out ki (by omega) hlt)
            obtain ⟨f, hf⟩ : ∃ f, m.st.toNat - k = f + 1 := ⟨m.st.toNat - k - 1, by omega⟩
            clear hki
            go_wp2_with fail
            refine (HMO.out _ MK.out.ints MK.out.bools).mono ?_
            rintro e w2 ⟨rfl, hb2⟩
            have q2 := Lib.hid (QK.out.trans (hb2.mono QK.out.size))
            have M2 := Lib.hid (MK.out.below hb2)
            have z10 := M2.out.c0
            have z11 := M2.out.c1
            have z12 := M2.out.c2
            clear hb2 y10 y11 y12
            by_cases he : m.goes ki word.data.toList = ki
            · have HV : Hid (ringL m word.data.toList = ki) := Lib.hid (by rw [← HRT.out, hf, ringTo_yes he])
              rw [he] at HC
              clear hf he
              go_wp2_with (first | (go_at_call 39; refine (HWD.out _).mono ?_; rintro e w4 ⟨rfl, rfl⟩) | (go_at_call 127; refine (HC.out _ M2.out.ints).mono ?_; rintro e w3 ⟨rfl, hb3⟩; have q3 := Lib.hid (q2.out.trans (hb3.mono q2.out.size)); clear hb3))
              go_ret
              exact ⟨ret_int (by rw [HR.out, HV.out]), q3.out⟩
            · have HV : Hid (ringTo m word.data.toList (m.st.toNat - (k + 1)) (ki + 1) = ringL m word.data.toList) := Lib.hid (by rw [← HRT.out, hf, ringTo_no he]; congr 1; omega)
              have heb : (m.goes ki word.data.toList == ki) = false := by simpa using he
              generalize m.goes ki word.data.toList = g at *
              clear hf he
              go_wp2_with (first | (go_at_call 39; refine (HWD.out _).mono ?_; rintro e w4 ⟨rfl, rfl⟩) | (go_at_call 127; refine (HC.out _ M2.out.ints).mono ?_; rintro e w3 ⟨rfl, hb3⟩; have q3 := Lib.hid (q2.out.trans (hb3.mono q2.out.size)); have M3 := Lib.hid (M2.out.below hb3); clear hb3))
              go_roundw
              case rel => exact ⟨k + 1, ki + 1, by have := HKI.out; omega, by omega, by first | rfl | rw [hq], HV.out, M3.out, q3.out⟩
              case measure => simp [intOf]; have := HKI.out; omega
          · have HV : Hid (ringL m word.data.toList = -1) := Lib.hid (by rw [← HRT.out, show m.st.toNat - k = 0 by omega]; rfl)
            clear hki
            go_wp2_with fail
            go_ret
            exact ⟨ret_int (by rw [HR.out, HV.out]), QK.out⟩
      · have HR := Lib.hid (ring_no3 m hz)
        obtain rfl := empty_of_size hz
        have hst0 : (0 : Int) < m.st := by omega
        have y10 := M0.out.c0
        have y11 := M0.out.c1
        have y12 := M0.out.c2
        clear hz
        go_enter Try.func132, Try.ntmps132
        go_wp2_with fail
        go_loopw [5] (fun i wr => i = .int .i64 0 ∧ MachBox w.heap.size m.st nv m.next ev m.ends wr ∧ Below w.heap.size w wr) (fun _ _ => 0)
        case atStart => exact ⟨rfl, M0.out, q0.out⟩
        case round =>
          obtain ⟨rfl, hX, hQ⟩ := hrel
          have MK := Lib.hid hX
          have QK := Lib.hid hQ
          have y20 := hX.c0
          have y21 := hX.c1
          have y22 := hX.c2
          clear hX hQ
          go_wp2_with (first | (go_at_call 39; refine (HWD.out _).mono ?_; rintro e w4 ⟨rfl, rfl⟩) | (go_at_call 17; refine (HMO.out _ MK.out.ints MK.out.bools).mono ?_; rintro e w3 ⟨rfl, hb3⟩; have q3 := Lib.hid (QK.out.trans (hb3.mono QK.out.size)); clear hb3))
          go_ret
          exact ⟨ret_int HR.out.symm, q3.out⟩
    · have hwf : wordOk word = false := by simpa using hw
      have HR := Lib.hid (ring_no2 m hwf)
      rw [hwf] at HWD
      have hst0 : (0 : Int) < m.st := by omega
      clear hw hwf
      go_enter Try.func132, Try.ntmps132
      go_wp2_with fail
      go_loopw [5] (fun i wr => i = .int .i64 0 ∧ MachBox w.heap.size m.st nv m.next ev m.ends wr ∧ Below w.heap.size w wr) (fun _ _ => 0)
      case atStart => exact ⟨rfl, M0.out, q0.out⟩
      case round =>
        obtain ⟨rfl, hX, hQ⟩ := hrel
        have MK := Lib.hid hX
        have QK := Lib.hid hQ
        have y20 := hX.c0
        have y21 := hX.c1
        have y22 := hX.c2
        clear hX hQ
        go_wp2_with (first | (go_at_call 39; refine (HWD.out _).mono ?_; rintro e w4 ⟨rfl, rfl⟩) | (go_at_call 17; refine (HMO.out _ MK.out.ints MK.out.bools).mono ?_; rintro e w3 ⟨rfl, hb3⟩; have q3 := Lib.hid (QK.out.trans (hb3.mono QK.out.size)); clear hb3))
        go_ret
        exact ⟨ret_int HR.out.symm, q3.out⟩
  · have hkf : m.ok = false := by simpa using hk
    have HR := Lib.hid (ring_no1 word hkf)
    rw [hkf] at HMO
    clear hk hkf
    go_enter Try.func132, Try.ntmps132
    go_wp2_with fail
    go_loopw [5] (fun i wr => i = .int .i64 0 ∧ MachBox w.heap.size m.st nv m.next ev m.ends wr ∧ Below w.heap.size w wr) (fun _ _ => 0)
    case atStart => exact ⟨rfl, M0.out, q0.out⟩
    case round =>
      obtain ⟨rfl, hX, hQ⟩ := hrel
      have MK := Lib.hid hX
      have QK := Lib.hid hQ
      have y20 := hX.c0
      have y21 := hX.c1
      have y22 := hX.c2
      clear hX hQ
      by_cases hp : (0 : Int) < m.st
      · go_wp2_with (go_at_call 17; refine (HMO.out _ MK.out.ints MK.out.bools).mono ?_; rintro e w3 ⟨rfl, hb3⟩; have q3 := Lib.hid (QK.out.trans (hb3.mono QK.out.size)); clear hb3)
        go_ret
        exact ⟨ret_int HR.out.symm, q3.out⟩
      · go_wp2_with fail
        go_ret
        exact ⟨ret_int HR.out.symm, QK.out⟩

theorem implRingOk_any (m : M) (word : ByteArray) (nv ev : Value) (w : World) (h1 : IsInts w nv m.next) (h2 : IsBools w ev m.ends) (hst : (Lit.int .i64 m.st).wf = true) (hs : word.size ≤ maxLen) :
    Calls Try.prog 50 #[.agg #[.int .i64 m.st, nv, ev], .string word] w fun e w' => e = .returned (.bool (ringOk m word)) ∧ Below w.heap.size w w' := by
  have M0 := Lib.hid (MachBox.new (st := m.st) 26 h1 h2)
  have q0 : Hid (Below w.heap.size w (w.alloc (.cells #[.int .i64 m.st, nv, ev] 26))) := Lib.hid ((Below.refl _ _).alloc (Nat.le_refl _) _)
  clear h1 h2
  go_enter Try.func50, Try.ntmps50
  go_wp2_with fail
  refine (implRingState_any m word nv ev _ M0.out.ints M0.out.bools hst hs).mono ?_
  rintro e w1 ⟨rfl, hb1⟩
  have q1 := Lib.hid (q0.out.trans (hb1.mono q0.out.size))
  clear hb1
  have HE : Hid (ringOk m word = decide (0 ≤ ringState m word)) := Lib.hid rfl
  generalize ringState m word = r at *
  go_wp2_with fail
  go_ret
  exact ⟨ret_bool HE.out.symm, q1.out⟩
theorem specRingOk_any (m : M) (word : ByteArray) (nv ev : Value) (w : World) (h1 : IsInts w nv m.next) (h2 : IsBools w ev m.ends) (hst : (Lit.int .i64 m.st).wf = true) (hs : word.size ≤ maxLen) :
    Calls Try.prog 103 #[.agg #[.int .i64 m.st, nv, ev], .string word] w fun e w' => e = .returned (.bool (ringOk m word)) ∧ Below w.heap.size w w' := by
  have M0 := Lib.hid (MachBox.new (st := m.st) 26 h1 h2)
  have q0 : Hid (Below w.heap.size w (w.alloc (.cells #[.int .i64 m.st, nv, ev] 26))) := Lib.hid ((Below.refl _ _).alloc (Nat.le_refl _) _)
  clear h1 h2
  go_enter Try.func103, Try.ntmps103
  go_wp2_with fail
  refine (specRingState_any m word nv ev _ M0.out.ints M0.out.bools hst hs).mono ?_
  rintro e w1 ⟨rfl, hb1⟩
  have q1 := Lib.hid (q0.out.trans (hb1.mono q0.out.size))
  clear hb1
  have HE : Hid (ringOk m word = decide (0 ≤ ringState m word)) := Lib.hid rfl
  generalize ringState m word = r at *
  go_wp2_with fail
  go_ret
  exact ⟨ret_bool HE.out.symm, q1.out⟩
end Go.Proofs.Ytjdeahdngpccpaa

namespace Go.Proofs.Ytjdeahdngpccpaa
open Go.RowKit

theorem aliveG_any (w : World) : Calls Try.prog 18 #[] w fun e w' => e = .returned (.bool true) ∧ w = w' := by
  have h1 : wordOk ⟨#[114, 100, 110]⟩ = true := by decide +kernel
  have h2 : wordOk ⟨#[120]⟩ = false := by decide +kernel
  go_enter Try.func18, Try.ntmps18
  go_wp2_with (go_at_call 67; refine (implWordOk_any _ _ (by decide)).mono ?_; rintro e w' ⟨rfl, rfl⟩)
  go_ret
  exact ⟨rfl, rfl⟩
theorem rowG_len {w : World} {a : Option Addr} {len cap : Nat} {zs : List Int} (h : IsRow .u8 w a len cap zs) : len ≤ 9223372036854775807 := by
  rcases h with ⟨_, rfl, _⟩ | ⟨x, _, h1, h2, _⟩
  · exact Nat.zero_le _
  · exact Nat.le_trans h1 h2
end Go.Proofs.Ytjdeahdngpccpaa

namespace Go.Proofs.Ytjdeahdngpccpaa
open Go.RowKit

theorem ringNum_nat {n : Int} (h : ringNum n = true) : ∃ r : Nat, n = (r : Int) + 1 ∧ r ≤ 5 := by
  simp only [ringNum, Bool.and_eq_true, decide_eq_true_eq] at h
  exact ⟨(n - 1).toNat, by omega, by omega⟩
theorem ringLettersOk_any (n : Int) (w : World) : Calls Try.prog 92 #[.int .i64 n] w fun e w' => e = .returned (.bool (ringNum n)) ∧ w = w' := by
  by_cases h1 : 1 ≤ n
  · by_cases h2 : n ≤ 6
    · have H : Hid (ringNum n = true) := Lib.hid (by rw [ringNum, decide_eq_true h1, decide_eq_true h2]; rfl)
      go_enter Try.func92, Try.ntmps92
      go_wp2_with fail
      go_ret
      exact ⟨ret_bool H.out.symm, rfl⟩
    · have H : Hid (ringNum n = false) := Lib.hid (by rw [ringNum, decide_eq_false h2, Bool.and_false])
      go_enter Try.func92, Try.ntmps92
      go_wp2_with fail
      go_ret
      exact ⟨ret_bool H.out.symm, rfl⟩
  · have H : Hid (ringNum n = false) := Lib.hid (by rw [ringNum, decide_eq_false h1, Bool.false_and])
    go_enter Try.func92, Try.ntmps92
    go_wp2_with fail
    go_ret
    exact ⟨ret_bool H.out.symm, rfl⟩
end Go.Proofs.Ytjdeahdngpccpaa

namespace Go.Proofs.Ytjdeahdngpccpaa
open Go.RowKit

/-- a row of the values of a function -/
def rowF (f : Nat → Int) (n : Nat) : List Int := (List.range n).map f
theorem rowF_length (f : Nat → Int) (n : Nat) : (rowF f n).length = n := by simp [rowF]
theorem rowF_at (f : Nat → Int) (n j : Nat) (h : j < n) : (rowF f n)[j]? = some (f j) := by simp [rowF, h]
theorem rowF_get (f : Nat → Int) (n j : Nat) (h : j < (rowF f n).length) : (rowF f n)[j] = f j := by simp [rowF]
theorem rowF_congr {f g : Nat → Int} {n : Nat} (h : ∀ j, j < n → f j = g j) : rowF f n = rowF g n := by
  apply List.map_congr_left
  intro j hj
  exact h j (List.mem_range.1 hj)
theorem rowF_set {f g : Nat → Int} {n j : Nat} {u : Int} (_h : j < n) (hu : g j = u) (hg : ∀ k, k < n → k ≠ j → g k = f k) : (rowF f n).set j u = rowF g n := by
  apply List.ext_getElem
  · simp [rowF]
  · intro i h1 h2
    rw [List.getElem_set]
    split
    · rename_i e; subst e; rw [rowF_get, hu]
    · rename_i e; rw [rowF_get, rowF_get, hg i (by simpa [rowF] using h2) (fun x => e x.symm)]
theorem rowF_zero (n : Nat) : List.replicate n (0 : Int) = rowF (fun _ => 0) n := by
  apply List.ext_getElem
  · simp [rowF]
  · intro i h1 h2; rw [rowF_get, List.getElem_replicate]
theorem rowF_cell (f : Nat → Int) (n j : Nat) (h : j < n) : ((rowF f n).map (Value.int .i64))[j]? = some (.int .i64 (f j)) := by
  rw [List.getElem?_map, rowF_at f n j h]; rfl

/-- a table of n rows of n numbers -/
def IsMat (w : World) (v : Value) (n : Nat) (A : Nat → Nat → Int) : Prop :=
  ∃ g cap, v = .slice (some ⟨g, 0, none⟩) n cap ∧ g < w.heap.size ∧ ∀ i, i < n → ∃ gi ci, w.cell? ⟨g, i, none⟩ = some (.slice (some ⟨gi, 0, none⟩) n ci) ∧ gi < w.heap.size ∧ ∀ j, j < n → w.cell? ⟨gi, j, none⟩ = some (.int .i64 (A i j))
theorem IsMat.below {w w' : World} {v : Value} {n : Nat} {A : Nat → Nat → Int} (h : IsMat w v n A) (hb : Below w.heap.size w w') : IsMat w' v n A := by
  obtain ⟨g, cap, rfl, hg, hr⟩ := h
  refine ⟨g, cap, rfl, Nat.lt_of_lt_of_le hg hb.size, fun i hi => ?_⟩
  obtain ⟨gi, ci, h1, h2, h3⟩ := hr i hi
  exact ⟨gi, ci, (hb.cell (p := ⟨g, i, none⟩) hg).trans h1, Nat.lt_of_lt_of_le h2 hb.size, fun j hj => (hb.cell (p := ⟨gi, j, none⟩) h2).trans (h3 j hj)⟩
theorem IsMat.slice {w : World} {v : Value} {n : Nat} {A : Nat → Nat → Int} (h : IsMat w v n A) : ∃ g cap, v = .slice (some ⟨g, 0, none⟩) n cap := by
  obtain ⟨g, cap, rfl, _⟩ := h
  exact ⟨g, cap, rfl⟩

/-- the product of two tables -/
def prodM (A B : Nat → Nat → Int) (n i j : Nat) : Int := sumN (fun b => A i b * B b j) n
theorem sumN_bd2 (f : Nat → Int) (D : Int) (k : Nat) (hk : k ≤ 48) (hD : 0 ≤ D) (h : ∀ i, 0 ≤ f i ∧ f i ≤ D) : 0 ≤ sumN f k ∧ sumN f k ≤ 48 * D := by
  have := sumN_bd f D k (fun i _ => h i)
  exact ⟨this.1, Int.le_trans this.2 (Int.mul_le_mul_of_nonneg_right (by omega) hD)⟩
/-- two tables whose products stay small -/
structure Mul (A B : Nat → Nat → Int) : Prop where
  ok : ∀ i b j, 0 ≤ A i b * B b j ∧ A i b * B b j ≤ 2000000000000
theorem Mul.sum {A B : Nat → Nat → Int} (h : Mul A B) (i j k : Nat) (hk : k ≤ 48) : 0 ≤ sumN (fun b => A i b * B b j) k ∧ sumN (fun b => A i b * B b j) k ≤ 96000000000000 :=
  sumN_bd2 _ 2000000000000 k hk (by omega) (fun b => h.ok i b j)

section
variable {w0 : World} {ov : Value} {ps : List (Value × List Int)} {pre : List Thing} {w w' : World}
theorem inner_form (h : Bk w0 ov ps pre w) (t : Nat) (ht : t < ps.length) (hn : 0 < ps[t].2.length) : ∃ g c, ps[t].1 = .slice (some ⟨g, 0, none⟩) ps[t].2.length c ∧ g < w.heap.size := by
  have hi := h.inner t ht
  rcases hi.2 with ⟨_, hz⟩ | ⟨g, cap, cur, e, _⟩
  · omega
  · exact ⟨g, cap, e, (World.ownsRow.lt hi g (by rw [e]; rfl)).2⟩
theorem Bk.mat {n : Nat} {A : Nat → Nat → Int} (h : Bk w0 ov ps pre w) (hl : ps.length = n) (hn : 0 < n) (hr : ∀ k (hk : k < ps.length), ps[k].2 = rowF (A k) n) : IsMat w ov n A := by
  have ho := h.row
  rcases ho.2 with ⟨_, hz⟩ | ⟨g, cap, cur, rfl, _⟩
  · omega
  · refine ⟨g, cap, by rw [hl], (World.ownsRow.lt ho g rfl).2, fun i hi => ?_⟩
    have hi' : i < ps.length := by omega
    have hlen : ps[i].2.length = n := by rw [hr i hi', rowF_length]
    obtain ⟨gi, ci, e, hgi⟩ := inner_form h i hi' (by omega)
    have hc := World.ownsRow.cellAt ho i (by omega)
    rw [List.getElem?_map, List.getElem?_eq_getElem hi', Option.map_some, e, hlen] at hc
    refine ⟨gi, ci, hc, hgi, fun j hj => ?_⟩
    have hin := h.inner i hi'
    rw [e] at hin
    rw [World.ownsRow.cellAt hin j (by omega), hr i hi', rowF_cell _ _ _ hj]
/-- a number is stored into one of the rows -/
theorem Bk.setIn {g cap : Nat} (h : Bk w0 ov ps pre w) {t : Nat} (ht : t < ps.length) (hv : ps[t].1 = .slice (some ⟨g, 0, none⟩) ps[t].2.length cap) (j : Nat) (u : Int) :
    Bk w0 ov (ps.set t (ps[t].1, ps[t].2.set j u)) pre (w.setCell ⟨g, j, none⟩ (.int .i64 u)) := by
  have hlen : t + 1 < (rowT 23 1 ov ps.length (ps.map Prod.fst) :: (ps.map inn ++ pre)).length := by simp; omega
  have he : (rowT 23 1 ov ps.length (ps.map Prod.fst) :: (ps.map inn ++ pre))[t + 1] = inn ps[t] := by
    rw [List.getElem_cons_succ, List.getElem_append_left (by simpa using ht), List.getElem_map]
  have hb : (inn ps[t]).blk = some g := by show ps[t].1.ownBlock = some g; rw [hv]; rfl
  have hlt := h.ap.ltAt (t + 1) hlen
  rw [he] at hlt
  have hg := hlt g hb
  have hin := h.inner t ht
  have hs : (inn (ps[t].1, ps[t].2.set j u)).says (w.setCell ⟨g, j, none⟩ (.int .i64 u)) := by
    show (w.setCell ⟨g, j, none⟩ (.int .i64 u)).ownsRow 0 3 1 ps[t].1 (ps[t].2.set j u).length ((ps[t].2.set j u).map (Value.int .i64))
    rw [List.length_set, List.map_set]
    rw [hv] at hin ⊢
    exact (World.ownsRow.stored hin j (.int .i64 u)).1
  have a1 := h.ap.turnAt (t + 1) hlen (by rw [he, hb]; exact grown_setCell w g j _) (inn (ps[t].1, ps[t].2.set j u)) hs h.size
    (fun k e => ⟨.inl (by rw [he]; exact e), by have := (hlt k e).2; simpa using this⟩)
  rw [List.set_cons_succ, List.set_append_left _ _ (by simpa using ht), ← List.map_set] at a1
  refine ⟨h.keep.setCell (p := ⟨g, j, none⟩) hg.1 _, ?_⟩
  rw [List.length_set, show (ps.set t (ps[t].1, ps[t].2.set j u)).map Prod.fst = ps.map Prod.fst from by
    apply List.ext_getElem
    · simp
    · intro i h1 h2
      rw [List.getElem_map, List.getElem_set, List.getElem_map]
      split
      · rename_i e; subst e; rfl
      · rfl]
  exact a1
theorem sub_set {α : Type} (l : List α) (i : Nat) (x : α) (h : i < l.length) : ∃ m : List α, (l.set i x).Perm (x :: m) ∧ m.Sublist l := ⟨l.eraseIdx i, set_perm l i h x, List.eraseIdx_sublist l i⟩
/-- a row of its own is laid into the table -/
theorem Bk.lay {go oc : Nat} {p : Value × List Int} (h : Bk w0 (.slice (some ⟨go, 0, none⟩) ps.length oc) ps (inn p :: pre) w) {t : Nat} (ht : t < ps.length) :
    Bk w0 (.slice (some ⟨go, 0, none⟩) ps.length oc) (ps.set t p) pre (w.setCell ⟨go, t, none⟩ p.1) ∧ (∃ u, w.cell? ⟨go, t, none⟩ = some u) ∧ w.frozen? ⟨go, t, none⟩ = false := by
  have hgo := (h.ap.lt go rfl).1
  have hrow := World.ownsRow.cellAt h.row t (by omega)
  refine ⟨⟨h.keep.setCell (p := ⟨go, t, none⟩) hgo _, ?_⟩, ⟨ps[t].1, by rw [hrow]; simp [ht]⟩, World.ownsRow.frozenAt h.row t⟩
  have a2 := h.ap.setRow h.size t p.1
  rw [List.length_set, List.map_set, List.map_set]
  obtain ⟨m, hm1, hm2⟩ := sub_set (ps.map inn) t (inn p) (by simpa using ht)
  have s1 : (inn p :: (m ++ pre)).Sublist (inn p :: (ps.map inn ++ pre)) := (hm2.append_right pre).cons_cons _
  have p1 : (ps.map inn ++ inn p :: pre).Perm (inn p :: (ps.map inn ++ pre)) := List.perm_middle
  have a3 := (a2.perm (p1.cons _)).sub (s1.cons_cons _)
  exact a3.perm (((hm1.append_right pre).symm).cons _)
/-- a new row beside -/
theorem Bk.made {p : Value × List Int} {b : Nat} (h : Bk w0 ov ps pre w) (hg : w.grownBy w' none) (ho : w'.ownsRow b 3 1 p.1 p.2.length (p.2.map (Value.int .i64))) (hb : ∀ k, p.1.ownBlock = some k → w.heap.size ≤ k) : Bk w0 ov ps (inn p :: pre) w' :=
  ⟨h.keep.grown hg h.size (fun _ e => by cases e), (h.ap.more hg (inn p) (ownsRow_base ho (fun _ _ => Nat.zero_le _)) h.size (fun k e => ⟨hb k e, (World.ownsRow.lt ho k e).2⟩)).perm (List.perm_middle (l₁ := rowT 23 1 ov ps.length (ps.map Prod.fst) :: ps.map inn) (l₂ := pre)).symm⟩
end
end Go.Proofs.Ytjdeahdngpccpaa

namespace Go.Proofs.Ytjdeahdngpccpaa
open Go.RowKit

theorem infoIntM : (Try.prog.info? 3).map (fun i => (i.zero, i.size, i.bytes)) = some (some (.int .i64 0), 1, 8) := by kernel_rfl
theorem infoSlM : (Try.prog.info? 23).map (fun i => (i.zero, i.size, i.bytes)) = some (some (.slice none 0 0), 1, 24) := by kernel_rfl
theorem made_rowF (n : Nat) : (madeCells (Value.int .i64 0).cells (n * 1)).toList = (rowF (fun _ => 0) n).map (Value.int .i64) := by
  rw [Nat.mul_one]
  have : (madeCells (Value.int .i64 0).cells n).toList = List.replicate n (.int .i64 0) := toList_madeCells_one _ _
  rw [this, ← rowF_zero, List.map_replicate]

/-- by a letter that leads on -/
theorem steps_more (m : M) (n l i t : Nat) (ht : t < n) (h : m.nx (i : Int) (l : Int) = (t : Int)) : (rowF (m.stepsTo l i) n).set t (m.stepsTo l i t + 1) = rowF (m.stepsTo (l + 1) i) n := by
  refine rowF_set ht ?_ ?_
  · rw [M.stepsTo, sumN, if_pos h]; rfl
  · intro k _ hk
    rw [M.stepsTo, sumN, if_neg (by rw [h]; omega)]
    exact Int.add_zero _
theorem steps_same (m : M) (n l i : Nat) (h : m.nx (i : Int) (l : Int) < 0) : rowF (m.stepsTo l i) n = rowF (m.stepsTo (l + 1) i) n := by
  refine rowF_congr fun j _ => ?_
  rw [M.stepsTo, M.stepsTo, sumN, if_neg (by omega)]
  exact (Int.add_zero _).symm
theorem stepsTo_bd (m : M) (l i j : Nat) : 0 ≤ m.stepsTo l i j ∧ m.stepsTo l i j ≤ l := by
  have := sumN_bd (fun c => if m.nx (i : Int) (c : Int) = (j : Int) then 1 else 0) 1 l (fun c _ => by split <;> omega)
  rw [M.stepsTo]; omega

end Go.Proofs.Ytjdeahdngpccpaa

namespace Go.Proofs.Ytjdeahdngpccpaa
open Go.RowKit

end Go.Proofs.Ytjdeahdngpccpaa

namespace Go.Proofs.Ytjdeahdngpccpaa
open Go.RowKit

theorem mul_walks (m : M) (h : m.ends.length ≤ 48) (k : Nat) (hk : k ≤ 5) : Mul (m.walks k) m.steps := ⟨fun i b j => by
  have h1 := m.walks_bd h k i b
  have h2 := m.steps_bd b j
  have h3 := wbd_le k hk
  have h4 := Int.mul_le_mul h1.2 h2.2 h2.1 (by omega : 0 ≤ wbd k)
  exact ⟨Int.mul_nonneg h1.1 h2.1, by omega⟩⟩
/-- the first part of the diagonal's sum -/
def M.diag (m : M) (k t : Nat) : Int := sumN (fun i => m.walks k i i) t
theorem M.diag_bd (m : M) (h : m.ends.length ≤ 48) (k t : Nat) (hk : k ≤ 5) (ht : t ≤ 48) : 0 ≤ m.diag k t ∧ m.diag k t ≤ 8916100448256 := by
  have hp := wbd_pos k
  have h1 := sumN_bd2 (fun i => m.walks k i i) (wbd k) t ht (by omega) (fun i => m.walks_bd h k i i)
  have h3 := wbd_le k hk
  rw [M.diag]; omega
theorem countWalks_yes {m : M} {r : Nat} (h : m.ok = true) (g : ringNum ((r : Int) + 1) = true) : countWalks m ((r : Int) + 1) = m.diag r m.ends.length := by
  rw [countWalks, h, g]
  show m.backs _ = _
  rw [show ((r : Int) + 1).toNat - 1 = r by omega]; rfl
theorem countWalks_no {m : M} {n : Int} (h : (m.ok && ringNum n) = false) : countWalks m n = -1 := by rw [countWalks, h]; rfl
end Go.Proofs.Ytjdeahdngpccpaa

namespace Go.Proofs.Ytjdeahdngpccpaa
open Go.RowKit

theorem made_nils (n : Nat) : (madeCells (Value.slice none 0 0).cells (n * 1)).toList = List.replicate n (.slice none 0 0) := by
  rw [Nat.mul_one]; exact toList_madeCells_one _ _
/-- all rows ahead of a place are done -/
def DoneTo (A : Nat → Nat → Int) (n k : Nat) (ps : List (Value × List Int)) : Prop := ∀ j (hj : j < ps.length), j < k → ps[j].2 = rowF (A j) n
theorem DoneTo.set {A : Nat → Nat → Int} {n k : Nat} {ps : List (Value × List Int)} (h : DoneTo A n k ps) (p : Value × List Int) : DoneTo A n k (ps.set k p) := by
  intro j hj hk
  rw [List.getElem_set_ne (by omega)]
  exact h j (by simpa using hj) hk
theorem DoneTo.next {A : Nat → Nat → Int} {n k : Nat} {ps : List (Value × List Int)} (h : DoneTo A n k ps) (hk : k < ps.length) (e : ps[k].2 = rowF (A k) n) : DoneTo A n (k + 1) ps := by
  intro j hj hk2
  by_cases g : j = k
  · subst g; exact e
  · exact h j hj (by omega)
/-- a table of n rows of which the row k is being filled -/
structure Fill (w0 : World) (go n k : Nat) (A : Nat → Nat → Int) (gr : Nat) (f : Nat → Int) (w : World) : Prop where
  h : ∃ ps : List (Value × List Int), ps.length = n ∧ DoneTo A n k ps ∧ Bk w0 (.slice (some ⟨go, 0, none⟩) n n) ps [] w ∧ ∃ hk : k < ps.length, ps[k] = (.slice (some ⟨gr, 0, none⟩) n n, rowF f n)
section
variable {w0 : World} {go n k : Nat} {A : Nat → Nat → Int} {gr : Nat} {f g : Nat → Int} {w w' : World}
theorem Fill.same (h : Fill w0 go n k A gr f w) (hg : w.grownBy w' none) : Fill w0 go n k A gr f w' := by
  obtain ⟨ps, h1, h2, h3, h4⟩ := h.h
  exact ⟨ps, h1, h2, h3.same hg, h4⟩
theorem Fill.congr (h : Fill w0 go n k A gr f w) (e : rowF f n = rowF g n) : Fill w0 go n k A gr g w := by
  obtain ⟨ps, h1, h2, h3, h4, h5⟩ := h.h
  exact ⟨ps, h1, h2, h3, h4, by rw [h5, e]⟩
theorem Fill.keep (h : Fill w0 go n k A gr f w) : Below w0.heap.size w0 w := by
  obtain ⟨ps, h1, h2, h3, h4⟩ := h.h
  exact h3.keep
theorem Fill.cells (h : Fill w0 go n k A gr f w) (hk : k < n) : w.cell? ⟨go, k, none⟩ = some (.slice (some ⟨gr, 0, none⟩) n n) ∧ ∀ j, j < n → w.cell? ⟨gr, j, none⟩ = some (.int .i64 (f j)) ∧ w.frozen? ⟨gr, j, none⟩ = false := by
  obtain ⟨ps, h1, h2, h3, h4, h5⟩ := h.h
  have hr := h3.row
  rw [h1] at hr
  have hc := World.ownsRow.cellAt hr k (by omega)
  rw [List.getElem?_map, List.getElem?_eq_getElem h4, h5] at hc
  have hi := h3.inner k h4
  rw [h5] at hi
  simp only [rowF_length] at hi
  refine ⟨hc, fun j hj => ⟨?_, World.ownsRow.frozenAt hi j⟩⟩
  rw [World.ownsRow.cellAt hi j (by omega), rowF_cell _ _ _ hj]
theorem Fill.store (h : Fill w0 go n k A gr f w) (j : Nat) (u : Int) (e : (rowF f n).set j u = rowF g n) : Fill w0 go n k A gr g (w.setCell ⟨gr, j, none⟩ (.int .i64 u)) := by
  obtain ⟨ps, h1, h2, h3, h4, h5⟩ := h.h
  have hv : ps[k].1 = .slice (some ⟨gr, 0, none⟩) ps[k].2.length n := by rw [h5]; simp only [rowF_length]
  have := h3.setIn h4 hv j u
  refine ⟨_, by rw [List.length_set, h1], h2.set _, this, by rw [List.length_set]; exact h4, ?_⟩
  rw [List.getElem_set_self, h5]
  simp only [e]
theorem Fill.start {ps : List (Value × List Int)} (h1 : ps.length = n) (h2 : DoneTo A n k ps) (h3 : Bk w0 (.slice (some ⟨go, 0, none⟩) n n) ps (inn (.slice (some ⟨gr, 0, none⟩) n n, rowF f n) :: []) w) (hk : k < n) :
    Fill w0 go n k A gr f (w.setCell ⟨go, k, none⟩ (.slice (some ⟨gr, 0, none⟩) n n)) := by
  subst h1
  have := (h3.lay hk).1
  exact ⟨_, by rw [List.length_set], h2.set _, this, by rw [List.length_set]; exact hk, by rw [List.getElem_set_self]⟩
theorem Fill.done (h : Fill w0 go n k A gr f w) (e : rowF f n = rowF (A k) n) : ∃ ps : List (Value × List Int), ps.length = n ∧ DoneTo A n (k + 1) ps ∧ Bk w0 (.slice (some ⟨go, 0, none⟩) n n) ps [] w := by
  obtain ⟨ps, h1, h2, h3, h4, h5⟩ := h.h
  exact ⟨ps, h1, h2.next h4 (by rw [h5, e]), h3⟩
end

theorem made_part {w : World} {b n : Nat} {f : Nat → Int} (h : w.ownsRow b 3 1 (.slice (some ⟨b, 0, none⟩) n n) n (madeCells (Value.int .i64 0).cells (n * 1)).toList) (e : rowF f n = rowF (fun _ => 0) n) :
    w.ownsRow b 3 1 (.slice (some ⟨b, 0, none⟩) n n) (rowF f n).length ((rowF f n).map (Value.int .i64)) := by
  rw [e, rowF_length, ← made_rowF]; exact h
theorem bk_cell {w0 w : World} {go oc n k : Nat} {ps : List (Value × List Int)} {pre : List Thing} (h : Bk w0 (.slice (some ⟨go, 0, none⟩) n oc) ps pre w) (hk : k < ps.length) : (∃ u, w.cell? ⟨go, k, none⟩ = some u) ∧ w.frozen? ⟨go, k, none⟩ = false := by
  have hr := h.row
  rcases hr.2 with ⟨hv, _⟩ | ⟨g, cap, cur, hv, _⟩
  · cases hv
  · simp only [Value.slice.injEq, Option.some.injEq, Addr.mk.injEq, and_true] at hv
    obtain ⟨rfl, rfl, rfl⟩ := hv
    have hc := World.ownsRow.cellAt hr k (by omega)
    rw [List.getElem?_map, List.getElem?_eq_getElem hk] at hc
    exact ⟨⟨_, hc⟩, World.ownsRow.frozenAt hr k⟩

set_option maxHeartbeats 4000000 in
theorem implSteps_any (m : M) (nv ev : Value) (w : World) (h1 : IsInts w nv m.next) (h2 : IsBools w ev m.ends) (hk : m.ok = true) :
    Calls Try.prog 93 #[.agg #[.int .i64 m.st, nv, ev]] w fun e w' => ∃ v, e = .returned v ∧ IsMat w' v m.ends.length m.steps ∧ Below w.heap.size w w' := by
  obtain ⟨i0, hi, hz0, hz1, hz2⟩ := info_parts infoIntM
  obtain ⟨s0, hs, hy0, hy1, hy2⟩ := info_parts infoSlM
  have hsh := M.ok_shape hk
  have hn48 : m.ends.length ≤ 48 := by omega
  have hn1 : 1 ≤ m.ends.length := by omega
  have HI := Lib.hid (And.intro hi (And.intro hz0 (And.intro hz1 (show i0.bytes * m.ends.length ≤ 281474976710656 by rw [hz2]; omega))))
  have HS := Lib.hid (And.intro hs (And.intro hy0 (And.intro hy1 (show s0.bytes * m.ends.length ≤ 281474976710656 by rw [hy2]; omega))))
  clear hi hz0 hz1 hz2 hs hy0 hy1 hy2
  have HK := Lib.hid hk
  have HSTN := Lib.hid (show m.st = (m.ends.length : Int) by omega)
  have HNX := Lib.hid (fun s l W a h0 h1 l0 l1 => implNextOf_any m s l nv ev W a hk h0 h1 l0 l1)
  have M0 := Lib.hid (MachBox.new (st := m.st) 26 h1 h2)
  have q0 : Hid (Below w.heap.size w (w.alloc (.cells #[.int .i64 m.st, nv, ev] 26))) := Lib.hid ((Below.refl _ _).alloc (Nat.le_refl _) _)
  clear hsh h2 hk h1
  rw [HSTN.out] at M0 q0 HNX ⊢
  have y0 := M0.out.c0
  have y1 := M0.out.c1
  have y2 := M0.out.c2
  have hsz0 : (w.alloc (.cells #[.int .i64 (m.ends.length : Int), nv, ev] 26)).heap.size = w.heap.size + 1 := by simp
  go_enter Try.func93, Try.ntmps93
  go_upto_region 1 with fail
  generalize hW0 : (w.alloc (.cells #[.int .i64 (m.ends.length : Int), nv, ev] 26)) = W0 at *
  generalize hR : w.heap.size = R at *
  have HW0 := Lib.hid hW0
  have HR := Lib.hid hR
  have HSZ := Lib.hid hsz0
  clear hW0 hR hsz0
  go_wp2_with (at_make; refine wpList_make_full _ rfl _ _ 75 rfl W0.heap.size 23 s0 (.slice none 0 0) 1 Try.underlying75 HS.out.1 HS.out.2.1 HS.out.2.2.1 .i64 .i64 _ _ m.ends.length rfl rfl rfl rfl HS.out.2.2.2 (by unfold maxLen; omega) (Nat.le_refl _) ?_; intro w1 hown1 hgrow1; have z1 := hgrow1.cell y0 (by simp))
  rw [made_nils] at hown1
  have B0 := Lib.hid (bk_start W0 m.ends.length hown1 hgrow1)
  clear hown1 hgrow1 y0 y1 y2 z1
  generalize hgo : W0.heap.size = go at *
  clear hgo
  go_loopw [4, 5, 6, 12] (fun _ _ _ iv wr => ∃ (k : Nat) (ki : Int) (ps : List (Value × List Int)), ki = (k : Int) ∧ k ≤ m.ends.length ∧ iv = .int .i64 ki ∧ ps.length = m.ends.length ∧ DoneTo m.steps m.ends.length k ps ∧ Bk W0 (.slice (some ⟨go, 0, none⟩) m.ends.length m.ends.length) ps [] wr) (fun _ _ _ iv _ => m.ends.length - (intOf iv).toNat)
  case atStart => exact ⟨0, 0, _, rfl, Nat.zero_le _, rfl, List.length_replicate, fun j _ hj => absurd hj (Nat.not_lt_zero j), B0.out⟩
  case round =>
    obtain ⟨k, ki, ps, hki, hkn, rfl, hpl, hrows, hB⟩ := hrel
    have B1 := Lib.hid hB
    have HPL := Lib.hid hpl
    have HRW := Lib.hid hrows
    have HKI := Lib.hid hki
    have M1 := Lib.hid (M0.out.below hB.keep)
    have y0 := M1.out.c0
    have hq : IntKind.i64.wrap (ki + 1) = ki + 1 := IntWalk.i64_in _ (by omega)
    clear hB hrows hpl
    by_cases hlt : k < m.ends.length
    · have hltI : ki < (m.ends.length : Int) := by omega
      have hk0 : 0 ≤ ki := by omega
      have hkt : ki.toNat = k := by omega
      clear hki
      go_wp2_with (at_make; refine wpList_make_full _ rfl _ _ 23 rfl wr.heap.size 3 i0 (.int .i64 0) 1 Try.underlying23 HI.out.1 HI.out.2.1 HI.out.2.2.1 .i64 .i64 _ _ m.ends.length rfl rfl rfl rfl HI.out.2.2.2 (by unfold maxLen; omega) (Nat.le_refl _) ?_; intro w1 hown1 hgrow1; have B2 := Lib.hid (B1.out.made (p := (.slice (some ⟨wr.heap.size, 0, none⟩) m.ends.length m.ends.length, rowF (m.stepsTo 0 k) m.ends.length)) hgrow1 (made_part hown1 rfl) (fun j e => by cases e; exact Nat.le_refl _)); obtain ⟨⟨uO, cO⟩, fO⟩ := bk_cell B2.out (by rw [HPL.out]; exact hlt); clear hown1 hgrow1 y0)
      have F0 := Lib.hid (Fill.start HPL.out HRW.out B2.out hlt)
      clear B2 cO fO
      generalize wr.heap.size = gr at *
      go_loopw [5, 6, 21] (fun _ _ lv wr2 => ∃ (l : Nat) (li : Int), li = (l : Int) ∧ l ≤ 3 ∧ lv = .int .i64 li ∧ Fill W0 go m.ends.length k m.steps gr (m.stepsTo l k) wr2) (fun _ _ lv _ => 3 - (intOf lv).toNat)
      case atStart => exact ⟨0, 0, rfl, by omega, rfl, F0.out⟩
      case round =>
        obtain ⟨l, li, hli, hl3, rfl, hF⟩ := hrel
        have F1 := Lib.hid hF
        have HLI := Lib.hid hli
        have M3 := Lib.hid (M0.out.below hF.keep)
        have y0 := M3.out.c0
        have y1 := M3.out.c1
        have y2 := M3.out.c2
        clear hF
        have hq2 : IntKind.i64.wrap (li + 1) = li + 1 := IntWalk.i64_in _ (by omega)
        by_cases hl : l < 3
        · have hlI : li < 3 := by omega
          have HC := Lib.hid (HNX.out ki li wr M3.out.ints (by omega) hltI (by omega) (by omega))
          have hnb := M.nx_bd HK.out ki li (by rw [HSTN.out]; exact hltI) (by omega) (by omega)
          rw [HSTN.out] at hnb
          have HN := Lib.hid (show m.nx (k : Int) (l : Int) = m.nx ki li by rw [← HKI.out, ← HLI.out])
          clear hli
          generalize m.nx ki li = d at *
          by_cases hd : 0 ≤ d
          · obtain ⟨t, rfl⟩ := Int.eq_ofNat_of_zero_le hd
            have htn : t < m.ends.length := by omega
            have htd : (t : Int) < (m.ends.length : Int) := by omega
            have htm : ((t : Int) != -1) = true := by simp
            have HST := Lib.hid (steps_more m m.ends.length l k t htn HN.out)
            have hbd := stepsTo_bd m l k t
            have hq5 : IntKind.i64.wrap (m.stepsTo l k t + 1) = m.stepsTo l k t + 1 := IntWalk.i64_in _ (by omega)
            have HSS := Lib.hid (fun W (h : Fill W0 go m.ends.length k m.steps gr (m.stepsTo l k) W) => h.store t (m.stepsTo l k t + 1) HST.out)
            clear hbd
            go_wp2_with fail
            refine HC.out.mono ?_
            rintro e w3 ⟨rfl, hb3⟩
            have F3 := Lib.hid (F1.out.same (grown_below hb3))
            obtain ⟨c1, c2⟩ := F3.out.cells hlt
            have c3 := (c2 t htn).1
            have c4 := (c2 t htn).2
            have F4 := Lib.hid (HSS.out _ F3.out)
            generalize m.stepsTo l k t = z at *
            clear hb3 c2 y0 y1 y2
            go_wp2_with fail
            go_roundw
            case rel => exact ⟨l + 1, li + 1, by have := HLI.out; omega, by omega, by first | rfl | rw [hq2], F4.out⟩
            case measure => simp [intOf]; have := HLI.out; omega
          · have HST := Lib.hid (steps_same m m.ends.length l k (by rw [HN.out]; omega))
            obtain rfl : d = -1 := by omega
            clear hd
            go_wp2_with fail
            refine HC.out.mono ?_
            rintro e w3 ⟨rfl, hb3⟩
            have F3 := Lib.hid ((F1.out.same (grown_below hb3)).congr HST.out)
            clear hb3 y0 y1 y2
            go_wp2_with fail
            go_roundw
            case rel => exact ⟨l + 1, li + 1, by have := HLI.out; omega, by omega, by first | rfl | rw [hq2], F3.out⟩
            case measure => simp [intOf]; have := HLI.out; omega
        · obtain rfl : l = 3 := by omega
          have hnl : ¬ li < 3 := by omega
          obtain ⟨ps2, d1, d2, d3⟩ := F1.out.done (rowF_congr fun j _ => m.stepsTo_three k j)
          have D := Lib.hid (And.intro d1 (And.intro d2 d3))
          clear hli d1 d2 d3 y0 y1 y2
          go_wp2_with fail
          go_roundw
          case rel => exact ⟨k + 1, ki + 1, ps2, by have := HKI.out; omega, by omega, by first | rfl | rw [hq], D.out.1, D.out.2.1, D.out.2.2⟩
          case measure => simp [intOf]; have := HKI.out; omega
    · have hnlt : ¬ ki < (m.ends.length : Int) := by omega
      have hkn2 : k = m.ends.length := by omega
      clear hki
      go_wp2_with fail
      go_ret
      refine ⟨_, rfl, B1.out.mat HPL.out hn1 (fun j hj => HRW.out j hj (by rw [hkn2, ← HPL.out]; exact hj)), ?_⟩
      have hb := B1.out.keep
      rw [← HW0.out, ← HR.out] at *
      exact ((Below.refl w.heap.size w).alloc (Nat.le_refl _) _).trans (hb.mono (by simp))
end Go.Proofs.Ytjdeahdngpccpaa

namespace Go.Proofs.Ytjdeahdngpccpaa
open Go.RowKit

/-- the sums of the first b products, and of one more in the first t places -/
def partF (A B : Nat → Nat → Int) (i b t j : Nat) : Int := sumN (fun c => A i c * B c j) (if j < t then b + 1 else b)
theorem partF_step (A B : Nat → Nat → Int) (n i b t : Nat) (ht : t < n) : (rowF (partF A B i b t) n).set t (sumN (fun c => A i c * B c t) b + A i b * B b t) = rowF (partF A B i b (t + 1)) n := by
  refine rowF_set ht ?_ ?_
  · rw [partF, if_pos (Nat.lt_succ_self t)]; rfl
  · intro k _ hk
    rw [partF, partF]
    by_cases h : k < t
    · rw [if_pos h, if_pos (by omega)]
    · rw [if_neg h, if_neg (by omega)]
theorem partF_at (A B : Nat → Nat → Int) (i b t : Nat) : partF A B i b t t = sumN (fun c => A i c * B c t) b := by rw [partF, if_neg (Nat.lt_irrefl t)]
theorem partF_end (A B : Nat → Nat → Int) (n i b : Nat) : rowF (partF A B i b n) n = rowF (partF A B i (b + 1) 0) n := rowF_congr fun j hj => by
  rw [partF, partF, if_pos hj, if_neg (Nat.not_lt_zero j)]
theorem partF_zero (A B : Nat → Nat → Int) (n i : Nat) : rowF (partF A B i 0 0) n = rowF (fun _ => 0) n := rowF_congr fun j _ => by
  rw [partF, if_neg (Nat.not_lt_zero j)]; rfl
theorem partF_all (A B : Nat → Nat → Int) (n i : Nat) : rowF (partF A B i n 0) n = rowF (prodM A B n i) n := rowF_congr fun j _ => by
  rw [partF, if_neg (Nat.not_lt_zero j)]; rfl

set_option maxHeartbeats 4000000 in
theorem implTimes_any (A B : Nat → Nat → Int) (n : Nat) (va vb : Value) (w : World) (ha : IsMat w va n A) (hb : IsMat w vb n B) (hn1 : 1 ≤ n) (hn48 : n ≤ 48) (hm : Mul A B) :
    Calls Try.prog 94 #[va, vb] w fun e w' => ∃ v, e = .returned v ∧ IsMat w' v n (prodM A B n) ∧ Below w.heap.size w w' := by
  obtain ⟨i0, hi, hz0, hz1, hz2⟩ := info_parts infoIntM
  obtain ⟨s0, hs, hy0, hy1, hy2⟩ := info_parts infoSlM
  have HI := Lib.hid (And.intro hi (And.intro hz0 (And.intro hz1 (show i0.bytes * n ≤ 281474976710656 by rw [hz2]; omega))))
  have HS := Lib.hid (And.intro hs (And.intro hy0 (And.intro hy1 (show s0.bytes * n ≤ 281474976710656 by rw [hy2]; omega))))
  clear hi hz0 hz1 hz2 hs hy0 hy1 hy2
  have HA := Lib.hid ha
  have HB := Lib.hid hb
  have HM := Lib.hid hm
  obtain ⟨ga, ca, rfl, -, -⟩ := ha
  obtain ⟨gb, cb, rfl, -, -⟩ := hb
  clear hm
  go_enter Try.func94, Try.ntmps94
  go_wp2_with (at_make; refine wpList_make_full _ rfl _ _ 75 rfl w.heap.size 23 s0 (.slice none 0 0) 1 Try.underlying75 HS.out.1 HS.out.2.1 HS.out.2.2.1 .i64 .i64 _ _ n rfl rfl rfl rfl HS.out.2.2.2 (by unfold maxLen; omega) (Nat.le_refl _) ?_; intro w1 hown1 hgrow1)
  rw [made_nils] at hown1
  have B0 := Lib.hid (bk_start w n hown1 hgrow1)
  clear hown1 hgrow1
  generalize hgo : w.heap.size = go at *
  have HGO := Lib.hid hgo
  clear hgo
  go_loopw [6, 7, 8, 14] (fun _ _ _ iv wr => ∃ (k : Nat) (ki : Int) (ps : List (Value × List Int)), ki = (k : Int) ∧ k ≤ n ∧ iv = .int .i64 ki ∧ ps.length = n ∧ DoneTo (prodM A B n) n k ps ∧ Bk w (.slice (some ⟨go, 0, none⟩) n n) ps [] wr) (fun _ _ _ iv _ => n - (intOf iv).toNat)
  case atStart => exact ⟨0, 0, _, rfl, Nat.zero_le _, rfl, List.length_replicate, fun j _ hj => absurd hj (Nat.not_lt_zero j), B0.out⟩
  case round =>
    obtain ⟨k, ki, ps, hki, hkn, rfl, hpl, hrows, hB⟩ := hrel
    have B1 := Lib.hid hB
    have HPL := Lib.hid hpl
    have HRW := Lib.hid hrows
    have HKI := Lib.hid hki
    have hq : IntKind.i64.wrap (ki + 1) = ki + 1 := IntWalk.i64_in _ (by omega)
    clear hB hrows hpl B0
    by_cases hlt : k < n
    · have hltI : ki < (n : Int) := by omega
      have hk0 : 0 ≤ ki := by omega
      have hkt : ki.toNat = k := by omega
      clear hki
      go_wp2_with (at_make; refine wpList_make_full _ rfl _ _ 23 rfl wr.heap.size 3 i0 (.int .i64 0) 1 Try.underlying23 HI.out.1 HI.out.2.1 HI.out.2.2.1 .i64 .i64 _ _ n rfl rfl rfl rfl HI.out.2.2.2 (by unfold maxLen; omega) (Nat.le_refl _) ?_; intro w1 hown1 hgrow1; have B2 := Lib.hid (B1.out.made (p := (.slice (some ⟨wr.heap.size, 0, none⟩) n n, rowF (partF A B k 0 0) n)) hgrow1 (made_part hown1 (partF_zero A B n k)) (fun j e => by cases e; exact Nat.le_refl _)); obtain ⟨⟨uO, cO⟩, fO⟩ := bk_cell B2.out (by rw [HPL.out]; exact hlt); clear hown1 hgrow1)
      have F0 := Lib.hid (Fill.start HPL.out HRW.out B2.out hlt)
      clear B2 cO fO
      generalize wr.heap.size = gr at *
      go_loopw [7, 8, 25] (fun _ _ bv wr2 => ∃ (b : Nat) (bi : Int), bi = (b : Int) ∧ b ≤ n ∧ bv = .int .i64 bi ∧ Fill w go n k (prodM A B n) gr (partF A B k b 0) wr2) (fun _ _ bv _ => n - (intOf bv).toNat)
      case atStart => exact ⟨0, 0, rfl, Nat.zero_le _, rfl, F0.out⟩
      case round =>
        obtain ⟨b, bi, hbi, hbn, rfl, hF⟩ := hrel
        have F1 := Lib.hid hF
        have HBI := Lib.hid hbi
        clear hF F0
        have hq2 : IntKind.i64.wrap (bi + 1) = bi + 1 := IntWalk.i64_in _ (by omega)
        by_cases hbl : b < n
        · have hblI : bi < (n : Int) := by omega
          have hb0 : 0 ≤ bi := by omega
          have hbt : bi.toNat = b := by omega
          obtain ⟨c1, -⟩ := F1.out.cells hlt
          clear hbi
          go_wp2_with fail
          clear c1
          go_loopw [8, 33] (fun _ tv wr3 => ∃ (t : Nat) (ti : Int), ti = (t : Int) ∧ t ≤ n ∧ tv = .int .i64 ti ∧ Fill w go n k (prodM A B n) gr (partF A B k b t) wr3) (fun _ tv _ => n - (intOf tv).toNat)
          case atStart => exact ⟨0, 0, rfl, Nat.zero_le _, rfl, F1.out⟩
          case round =>
            obtain ⟨t, ti, hti, htn, rfl, hF⟩ := hrel
            have F2 := Lib.hid hF
            have HTI := Lib.hid hti
            clear hF F1
            have hq3 : IntKind.i64.wrap (ti + 1) = ti + 1 := IntWalk.i64_in _ (by omega)
            by_cases htl : t < n
            · have htlI : ti < (n : Int) := by omega
              have ht0 : 0 ≤ ti := by omega
              have htt : ti.toNat = t := by omega
              obtain ⟨c1, c2⟩ := F2.out.cells hlt
              have c3 := (c2 t htl).1
              have c4 := (c2 t htl).2
              rw [partF_at] at c3
              obtain ⟨ga', ca', e1, -, hra⟩ := HA.out.below (by have := F2.out.keep; exact this)
              obtain ⟨gb', cb', e2, -, hrb⟩ := HB.out.below (by have := F2.out.keep; exact this)
              simp only [Value.slice.injEq, Option.some.injEq, Addr.mk.injEq, and_true, true_and] at e1 e2
              obtain ⟨rfl, rfl⟩ := e1
              obtain ⟨rfl, rfl⟩ := e2
              obtain ⟨gi, ci, d1, -, hc1⟩ := hra k hlt
              obtain ⟨gk, ck, d2, -, hc2⟩ := hrb b hbl
              have d3 := hc1 b hbl
              have d4 := hc2 t htl
              have hp := HM.out.ok k b t
              have hsb := HM.out.sum k t b (by omega)
              have HST := Lib.hid (partF_step A B n k b t htl)
              have hw1 : IntKind.i64.wrap (A k b * B b t) = A k b * B b t := IntWalk.i64_in _ (by omega)
              have hw2 : IntKind.i64.wrap (sumN (fun c => A k c * B c t) b + A k b * B b t) = sumN (fun c => A k c * B c t) b + A k b * B b t := IntWalk.i64_in _ (by omega)
              have HSS := Lib.hid (fun W (h : Fill w go n k (prodM A B n) gr (partF A B k b t) W) => h.store t (sumN (fun c => A k c * B c t) b + A k b * B b t) HST.out)
              have HFD := Lib.hid (HSS.out _ (F2.out.same (grown_drew wr none)))
              clear hra hrb hc1 hc2 hp hsb HSS HST c2 hti
              generalize A k b = x at *
              generalize B b t = y at *
              generalize sumN (fun c => A k c * B c t) b = z at *
              go_wp2_with fail
              go_region
              all_goals
                go_wp2_with fail
                go_roundw
                case rel => exact ⟨t + 1, ti + 1, by have := HTI.out; omega, by omega, by first | rfl | rw [hq3], HFD.out⟩
                case measure => simp [intOf]; have := HTI.out; omega
            · have htn2 : t = n := by omega
              have htnl : ¬ ti < (n : Int) := by omega
              have F3 : Hid (Fill w go n k (prodM A B n) gr (partF A B k (b + 1) 0) wr) := Lib.hid (by
                have := F2.out
                rw [htn2] at this
                exact this.congr (partF_end A B n k b))
              clear hti
              go_wp2_with fail
              go_roundw
              case rel => exact ⟨b + 1, bi + 1, by have := HBI.out; omega, by omega, by first | rfl | rw [hq2], F3.out⟩
              case measure => simp [intOf]; have := HBI.out; omega
        · have hbn2 : b = n := by omega
          have hbnl : ¬ bi < (n : Int) := by omega
          obtain ⟨ps2, d1, d2, d3⟩ := F1.out.done (by rw [hbn2]; exact partF_all A B n k)
          have D := Lib.hid (And.intro d1 (And.intro d2 d3))
          clear hbi d1 d2 d3
          go_wp2_with fail
          go_roundw
          case rel => exact ⟨k + 1, ki + 1, ps2, by have := HKI.out; omega, by omega, by first | rfl | rw [hq], D.out.1, D.out.2.1, D.out.2.2⟩
          case measure => simp [intOf]; have := HKI.out; omega
    · have hnlt : ¬ ki < (n : Int) := by omega
      have hkn2 : k = n := by omega
      clear hki
      go_wp2_with fail
      go_ret
      exact ⟨_, rfl, B1.out.mat HPL.out hn1 (fun j hj => HRW.out j hj (by rw [hkn2, ← HPL.out]; exact hj)), B1.out.keep⟩
end Go.Proofs.Ytjdeahdngpccpaa

namespace Go.Proofs.Ytjdeahdngpccpaa
open Go.RowKit

set_option maxHeartbeats 4000000 in
theorem implCountWalks_any (m : M) (n : Int) (nv ev : Value) (w : World) (h1 : IsInts w nv m.next) (h2 : IsBools w ev m.ends) (hst : (Lit.int .i64 m.st).wf = true) :
    Calls Try.prog 44 #[.agg #[.int .i64 m.st, nv, ev], .int .i64 n] w fun e w' => e = .returned (.int .i64 (countWalks m n)) ∧ Below w.heap.size w w' := by
  have M0 := Lib.hid (MachBox.new (st := m.st) 26 h1 h2)
  have q0 : Hid (Below w.heap.size w (w.alloc (.cells #[.int .i64 m.st, nv, ev] 26))) := Lib.hid ((Below.refl _ _).alloc (Nat.le_refl _) _)
  have HIN := Lib.hid (fun W => ringLettersOk_any n W)
  clear h1 h2
  go_enter Try.func44, Try.ntmps44
  go_wp2_with fail
  refine (implMachineOk_any m nv ev _ M0.out.ints M0.out.bools hst).mono ?_
  rintro e w1 ⟨rfl, hb1⟩
  have M1 := Lib.hid (M0.out.below hb1)
  have q1 := Lib.hid (q0.out.trans (hb1.mono q0.out.size))
  clear hb1 M0
  have y10 := M1.out.c0
  have y11 := M1.out.c1
  have y12 := M1.out.c2
  by_cases hk : m.ok = true
  · have HK := Lib.hid hk
    have hsh := M.ok_shape hk
    have HSTN := Lib.hid (show m.st = (m.ends.length : Int) by omega)
    have hn48 : m.ends.length ≤ 48 := by omega
    have hn1 : 1 ≤ m.ends.length := by omega
    have HST := Lib.hid (fun W a b => implSteps_any m nv ev W a b hk)
    have HTM := Lib.hid (fun k hk5 va vb W a b => implTimes_any (m.walks k) m.steps m.ends.length va vb W a b hn1 hn48 (mul_walks m hn48 k hk5))
    rw [hk]
    by_cases hr : ringNum n = true
    · obtain ⟨r, rfl, hr5⟩ := ringNum_nat hr
      have HE := Lib.hid (countWalks_yes hk hr)
      have HIN2 : Hid (∀ W, Calls Try.prog 92 #[.int .i64 ((r : Int) + 1)] W fun e w' => e = .returned (.bool true) ∧ W = w') := Lib.hid (fun W => by
        have := HIN.out W
        rwa [hr] at this)
      have HDB := Lib.hid (fun t ht => m.diag_bd hn48 r t hr5 ht)
      generalize hri : (r : Int) = ri at *
      have HRI := Lib.hid hri
      clear hk hr hsh HIN hri
      go_wp2_with (go_at_call 92; refine (HIN2.out _).mono ?_; rintro e w2 ⟨rfl, rfl⟩)
      refine (HST.out _ M1.out.ints M1.out.bools).mono ?_
      rintro e w2 ⟨v2, rfl, hv2, hb2⟩
      have V2 := Lib.hid hv2
      have M2 := Lib.hid (M1.out.below hb2)
      have q2 := Lib.hid (q1.out.trans (hb2.mono q1.out.size))
      obtain ⟨g2, c2, rfl⟩ := hv2.slice
      clear hv2 hb2 y10 y11 y12
      have hri0 : 0 ≤ ri := by have := HRI.out; omega
      have hri5 : ri ≤ 5 := by have := HRI.out; omega
      have hq0 : wrap64 ri = ri := by unfold wrap64; omega
      go_wp2_with fail
      go_loopw [6, 22] (fun nv2 kv wr => ∃ (k : Nat) (ki : Int), ki = (k : Int) ∧ k ≤ r ∧ kv = .int .i64 ki ∧ IsMat wr nv2 m.ends.length (m.walks k) ∧ Below w2.heap.size w2 wr) (fun _ kv _ => 7 - (intOf kv).toNat)
      case atStart => exact ⟨0, 0, rfl, Nat.zero_le _, rfl, V2.out, Below.refl _ _⟩
      case round =>
        obtain ⟨k, ki, hki, hkr, rfl, hmat, hb⟩ := hrel
        have HB := Lib.hid hb
        have HMT := Lib.hid hmat
        have HKI := Lib.hid hki
        obtain ⟨g4, c4, rfl⟩ := hmat.slice
        have hq : IntKind.i64.wrap (ki + 1) = ki + 1 := IntWalk.i64_in _ (by omega)
        have hri := HRI.out
        clear hb hmat
        by_cases hlt : k < r
        · have hltI : ki < ri := by omega
          clear hki hri
          go_wp2_with fail
          refine (HTM.out k (by omega) _ _ _ HMT.out (V2.out.below HB.out)).mono ?_
          rintro e w5 ⟨v5, rfl, hv5, hb5⟩
          have V5 := Lib.hid hv5
          have HB5 := Lib.hid (HB.out.trans (hb5.mono HB.out.size))
          obtain ⟨g5, c5, rfl⟩ := hv5.slice
          clear hv5 hb5
          go_wp2_with fail
          go_roundw
          case rel => exact ⟨k + 1, ki + 1, by have := HKI.out; omega, by omega, by first | rfl | rw [hq], V5.out, HB5.out⟩
          case measure => simp [intOf]; have := HKI.out; omega
        · have hnlt : ¬ ki < ri := by omega
          have hkr2 : k = r := by omega
          subst hkr2
          clear hki hri
          have QE := Lib.hid (q2.out.trans (HB.out.mono q2.out.size))
          go_wp2_with fail
          go_loopw [7, 8, 30] (fun sv _ iv wr9 => ∃ (t : Nat) (ti : Int), ti = (t : Int) ∧ t ≤ m.ends.length ∧ iv = .int .i64 ti ∧ sv = .int .i64 (m.diag k t) ∧ wr9 = wr) (fun _ _ iv _ => m.ends.length - (intOf iv).toNat)
          case atStart => exact ⟨0, 0, rfl, Nat.zero_le _, rfl, rfl, rfl⟩
          case round =>
            obtain ⟨t, ti, hti, htn, rfl, rfl, rfl⟩ := hrel
            have HTI := Lib.hid hti
            have hq : IntKind.i64.wrap (ti + 1) = ti + 1 := IntWalk.i64_in _ (by omega)
            by_cases hlt : t < m.ends.length
            · have hltI : ti < (m.ends.length : Int) := by omega
              have ht0 : 0 ≤ ti := by omega
              have htt : ti.toNat = t := by omega
              obtain ⟨ga', ca', e1, -, hra⟩ := HMT.out
              simp only [Value.slice.injEq, Option.some.injEq, Addr.mk.injEq, and_true, true_and] at e1
              obtain ⟨rfl, rfl⟩ := e1
              obtain ⟨gi, ci, c1, -, hc1⟩ := hra t hlt
              have c5 := hc1 t hlt
              have hb1 := HDB.out t (by omega)
              have hb2 := HDB.out (t + 1) (by omega)
              have HSU : Hid (m.diag k (t + 1) = m.diag k t + m.walks k t t) := Lib.hid rfl
              rw [HSU.out] at hb2
              have hw : IntKind.i64.wrap (m.diag k t + m.walks k t t) = m.diag k t + m.walks k t t := IntWalk.i64_in _ (by omega)
              clear hti hra hc1 hb1 hb2
              generalize m.diag k t = z at *
              generalize m.walks k t t = y at *
              go_wp2_with fail
              go_roundw
              case rel => exact ⟨t + 1, ti + 1, by have := HTI.out; omega, by omega, by first | rfl | rw [hq], by rw [HSU.out], by first | rfl | trivial⟩
              case measure => simp [intOf]; have := HTI.out; omega
            · have hnl : ¬ ti < (m.ends.length : Int) := by omega
              have htn2 : t = m.ends.length := by omega
              clear hti
              have HFE : Hid (countWalks m (ri + 1) = m.diag k t) := Lib.hid (by rw [HE.out, htn2])
              generalize m.diag k t = z at *
              go_wp2_with fail
              go_ret
              exact ⟨ret_int (by first | exact HFE.out.symm | (rw [HRI.out]; exact HFE.out.symm)), QE.out⟩
    · have hrf : ringNum n = false := by simpa using hr
      have HE := Lib.hid (countWalks_no (m := m) (n := n) (by rw [hrf, Bool.and_false]))
      have HIN2 : Hid (∀ W, Calls Try.prog 92 #[.int .i64 n] W fun e w' => e = .returned (.bool false) ∧ W = w') := Lib.hid (fun W => by
        have := HIN.out W
        rwa [hrf] at this)
      clear hk hr hsh HIN hrf
      go_wp2_with (go_at_call 92; refine (HIN2.out _).mono ?_; rintro e w2 ⟨rfl, rfl⟩)
      go_ret
      exact ⟨ret_int HE.out.symm, q1.out⟩
  · have hkf : m.ok = false := by simpa using hk
    have HE := Lib.hid (countWalks_no (m := m) (n := n) (by rw [hkf, Bool.false_and]))
    rw [hkf]
    clear hk hkf
    go_wp2_with fail
    go_ret
    exact ⟨ret_int HE.out.symm, q1.out⟩
end Go.Proofs.Ytjdeahdngpccpaa

namespace Go.Proofs.Ytjdeahdngpccpaa

theorem sumN_congr {f g : Nat → Int} {k : Nat} (h : ∀ i, i < k → f i = g i) : sumN f k = sumN g k := by
  induction k with
  | zero => rfl
  | succ k ih => rw [sumN, sumN, ih (fun i hi => h i (by omega)), h k (by omega)]
theorem sumN_add (f g : Nat → Int) (k : Nat) : sumN (fun i => f i + g i) k = sumN f k + sumN g k := by
  induction k with
  | zero => rfl
  | succ k ih => simp only [sumN, ih]; omega
theorem sumN_const (c : Int) (k : Nat) : sumN (fun _ => c) k = k * c := by
  induction k with
  | zero => simp [sumN]
  | succ k ih => simp only [sumN, ih]; grind
theorem sumN_nonneg (f : Nat → Int) (k : Nat) (h : ∀ i, i < k → 0 ≤ f i) : 0 ≤ sumN f k := by
  induction k with
  | zero => exact Int.le_refl _
  | succ k ih =>
    have h1 := ih (fun i hi => h i (by omega))
    have h2 := h k (by omega)
    rw [sumN]; omega
theorem sumN_le (f g : Nat → Int) (k : Nat) (h : ∀ i, i < k → f i ≤ g i) : sumN f k ≤ sumN g k := by
  induction k with
  | zero => exact Int.le_refl _
  | succ k ih =>
    have h1 := ih (fun i hi => h i (by omega))
    have h2 := h k (by omega)
    rw [sumN, sumN]; omega
theorem sumN_one (f : Nat → Int) (k t : Nat) (ht : t < k) (h : ∀ i, i < k → i ≠ t → f i = 0) : sumN f k = f t := by
  induction k with
  | zero => omega
  | succ k ih =>
    rw [sumN]
    by_cases e : t = k
    · subst e
      have : sumN f t = sumN (fun _ => 0) t := sumN_congr fun i hi => h i (by omega) (by omega)
      rw [this, sumN_const]; omega
    · rw [ih (by omega) (fun i hi he => h i (by omega) he), h k (by omega) (by omega)]; omega
/-- a sum over words -/
def sumW (f : List UInt8 → Int) : List (List UInt8) → Int
  | [] => 0
  | w :: ws => f w + sumW f ws
theorem cntOf_sum (p : List UInt8 → Bool) (ws : List (List UInt8)) : cntOf p ws = sumW (fun w => if p w = true then 1 else 0) ws := by
  induction ws with
  | nil => rfl
  | cons w ws ih => rw [cntOf, sumW, ih]
theorem sumW_congr {f g : List UInt8 → Int} {ws : List (List UInt8)} (h : ∀ w ∈ ws, f w = g w) : sumW f ws = sumW g ws := by
  induction ws with
  | nil => rfl
  | cons w ws ih => rw [sumW, sumW, h w (by simp), ih (fun x hx => h x (by simp [hx]))]
theorem sumW_add (f g : List UInt8 → Int) (ws : List (List UInt8)) : sumW (fun w => f w + g w) ws = sumW f ws + sumW g ws := by
  induction ws with
  | nil => rfl
  | cons w ws ih => simp only [sumW, ih]; omega
theorem sumW_mul (f : List UInt8 → Int) (c : Int) (ws : List (List UInt8)) : sumW (fun w => f w * c) ws = sumW f ws * c := by
  induction ws with
  | nil => simp [sumW]
  | cons w ws ih => simp only [sumW, ih]; grind
theorem sumW_le {f g : List UInt8 → Int} {ws : List (List UInt8)} (h : ∀ w ∈ ws, f w ≤ g w) : sumW f ws ≤ sumW g ws := by
  induction ws with
  | nil => exact Int.le_refl _
  | cons w ws ih =>
    have h1 := h w (by simp)
    have h2 := ih (fun x hx => h x (by simp [hx]))
    rw [sumW, sumW]; omega
theorem sumN_sumW (f : Nat → List UInt8 → Int) (k : Nat) (ws : List (List UInt8)) : sumN (fun i => sumW (f i) ws) k = sumW (fun w => sumN (fun i => f i w) k) ws := by
  induction ws with
  | nil => simp only [sumW]; rw [sumN_const]; simp
  | cons w ws ih => simp only [sumW, sumN_add, ih]
theorem goes_one (m : M) (s : Int) (w : List UInt8) (c : UInt8) : m.goes s (w ++ [c]) = m.nx (m.goes s w) (letterOf (c.toNat : Int)) := by
  rw [M.goes_append]; rfl
/-- the walks are the words that lead so -/
theorem walks_words {m : M} (hm : m.ok = true) (k i j : Nat) (hi : i < m.ends.length) (hj : j < m.ends.length) : m.walks k i j = cntOf (fun w => decide (m.goes i w = j)) (wordsL (k + 1)) := by
  have hs := M.ok_shape hm
  have hl3 : letterOf ((114 : UInt8).toNat : Int) = 0 ∧ letterOf ((100 : UInt8).toNat : Int) = 1 ∧ letterOf ((110 : UInt8).toNat : Int) = 2 := by decide
  induction k generalizing j with
  | zero =>
    have e : wordsL (0 + 1) = [[114], [100], [110]] := rfl
    rw [e]
    have g : ∀ c : UInt8, m.goes i [c] = m.nx i (letterOf (c.toNat : Int)) := fun c => rfl
    simp only [cntOf, g, hl3, M.walks, M.steps, decide_eq_true_eq]
    omega
  | succ k ih =>
    have hflat : wordsL (k + 1 + 1) = (wordsL (k + 1)).flatMap fun w => [w ++ [114], w ++ [100], w ++ [110]] := rfl
    rw [hflat, cntOf_flat]
    simp only [goes_one, hl3]
    rw [cntOf_sum, cntOf_sum, cntOf_sum, ← sumW_add, ← sumW_add]
    have h1 : m.walks (k + 1) i j = sumN (fun b => sumW (fun w => (if decide (m.goes i w = b) = true then 1 else 0) * m.steps b j) (wordsL (k + 1))) m.ends.length := by
      rw [M.walks]
      refine sumN_congr fun b hb => ?_
      rw [ih b hb, cntOf_sum, sumW_mul]
    rw [h1, sumN_sumW]
    refine sumW_congr fun w hw => ?_
    have hall := (wordsL_mem _ w hw).2
    have hbd := M.goes_bd hm i w (by omega) (by omega) hall
    by_cases hneg : m.goes i w < 0
    · have e1 : m.goes i w = -1 := by omega
      have : sumN (fun b => (if decide (m.goes i w = (b : Int)) = true then 1 else 0) * m.steps b j) m.ends.length = sumN (fun _ => 0) m.ends.length := sumN_congr fun b _ => by
        rw [if_neg (by simp; omega), Int.zero_mul]
      rw [this, sumN_const, Int.mul_zero, e1]
      simp only [M.nx_neg m (-1) _ (by omega : (-1 : Int) < 0), decide_eq_true_eq]
      rw [if_neg (by omega)]; rfl
    · obtain ⟨b, hb⟩ := Int.eq_ofNat_of_zero_le (show 0 ≤ m.goes i w by omega)
      rw [sumN_one _ _ b (by omega) (fun t _ he => by rw [if_neg (by simp; omega), Int.zero_mul])]
      rw [hb]
      simp only [decide_true, if_true, Int.one_mul, M.steps, decide_eq_true_eq]
/-- how many states a word leads back to themselves -/
def backAt (m : M) (l : List UInt8) (t : Nat) : Int := sumN (fun s => if m.goes (s : Int) l = (s : Int) then 1 else 0) t
/-- how many pairs of a word and a state lead back, of the first so many words -/
def backTo (m : M) (L way : Nat) : Int := sumN (fun v => backAt m (digits L v) m.ends.length) way
/-- each ring of words is led back from some state: there are no more of them than walks -/
theorem necks_walks {m : M} (hm : m.ok = true) (r : Nat) : cntOf (neckB m) (wordsL (r + 1)) ≤ m.backs r := by
  have hs := M.ok_shape hm
  unfold M.backs
  have e : sumN (fun i => m.walks r i i) m.ends.length = sumN (fun i => sumW (fun w => if decide (m.goes (i : Int) w = (i : Int)) = true then 1 else 0) (wordsL (r + 1))) m.ends.length :=
    sumN_congr fun i hi => by rw [walks_words hm r i i hi hi, cntOf_sum]
  rw [e, sumN_sumW, cntOf_sum]
  refine sumW_le fun w hw => ?_
  by_cases hn : neckB m w = true
  · rw [if_pos hn]
    simp only [neckB, Bool.and_eq_true, decide_eq_true_eq] at hn
    obtain ⟨s, s0, s1, hg⟩ := (ringL_iff m w (by omega)).1 hn.2
    obtain ⟨t, rfl⟩ := Int.eq_ofNat_of_zero_le s0
    have h1 : (fun i : Nat => (if decide (m.goes (i : Int) w = (i : Int)) = true then (1 : Int) else 0)) t = 1 := by simp [hg]
    have h2 : sumN (fun i => if i = t then (1 : Int) else 0) m.ends.length = 1 := by
      rw [sumN_one _ _ t (by omega) (fun i _ he => if_neg he), if_pos rfl]
    refine Int.le_trans (Int.le_of_eq h2.symm) (sumN_le _ _ _ fun i _ => ?_)
    by_cases he : i = t
    · subst he; rw [if_pos rfl]; exact Int.le_of_eq h1.symm
    · rw [if_neg he]; split <;> omega
  · rw [if_neg hn]
    exact sumN_nonneg _ _ fun i _ => by split <;> omega
end Go.Proofs.Ytjdeahdngpccpaa

namespace Go.Proofs.Ytjdeahdngpccpaa
open Go.RowKit

/-- what drawing a machine and a number returns -/
def WalkRes (w : World) (e : Ending) (w' : World) : Prop :=
  ∃ (m : M) (a3 a4 : Option Addr) (c3 c4 : Nat) (n : Int), e = .returned (.tuple #[.agg #[.int .i64 m.st, .slice a3 m.next.length c3, .slice a4 m.ends.length c4], .int .i64 n]) ∧ m.small ∧ 0 ≤ n ∧ n ≤ 10 ∧
    IsInts w' (.slice a3 m.next.length c3) m.next ∧ IsBools w' (.slice a4 m.ends.length c4) m.ends ∧ Below w.heap.size w w'

theorem n_walks {v1 x y : Int} (a0 : 0 ≤ v1) (a1 : v1 < 4) (hx : 0 ≤ x ∧ x ≤ 6) (hy : 0 ≤ y ∧ y ≤ 1) :
    0 ≤ IntKind.i64.wrap (IntKind.i64.wrap (IntKind.i64.wrap (1 + v1) + x) - y) ∧ IntKind.i64.wrap (IntKind.i64.wrap (IntKind.i64.wrap (1 + v1) + x) - y) ≤ 10 := by
  rw [IntWalk.i64_in (1 + v1) (by omega), IntWalk.i64_in (1 + v1 + x) (by omega), IntWalk.i64_in (1 + v1 + x - y) (by omega)]; omega

theorem n_CountNecklaces {v1 v2 v3 : Int} (a0 : 0 ≤ v1) (a1 : v1 < 4) (b0 : 0 ≤ v2) (b1 : v2 < 40) (c0 : 0 ≤ v3) (c1 : v3 < 40) :
    0 ≤ IntKind.i64.wrap (IntKind.i64.wrap (IntKind.i64.wrap (1 + v1) + IntKind.i64.wrap (IntKind.i64.wrap (v2.tdiv 39) * 6)) - IntKind.i64.wrap (v3.tdiv 39)) ∧ IntKind.i64.wrap (IntKind.i64.wrap (IntKind.i64.wrap (1 + v1) + IntKind.i64.wrap (IntKind.i64.wrap (v2.tdiv 39) * 6)) - IntKind.i64.wrap (v3.tdiv 39)) ≤ 10 := by
  have hb : v2 / 39 = 0 ∨ v2 / 39 = 1 := by omega
  have hc : v3 / 39 = 0 ∨ v3 / 39 = 1 := by omega
  have hx : 0 ≤ IntKind.i64.wrap (IntKind.i64.wrap (v2.tdiv 39) * 6) ∧ IntKind.i64.wrap (IntKind.i64.wrap (v2.tdiv 39) * 6) ≤ 6 := by
    rw [Int.tdiv_eq_ediv_of_nonneg b0]
    rcases hb with hb | hb <;> rw [hb] <;> decide
  have hy : 0 ≤ IntKind.i64.wrap (v3.tdiv 39) ∧ IntKind.i64.wrap (v3.tdiv 39) ≤ 1 := by
    rw [Int.tdiv_eq_ediv_of_nonneg c0]
    rcases hc with hc | hc <;> rw [hc] <;> decide
  exact n_walks a0 a1 hx hy

set_option maxHeartbeats 1600000 in
theorem drawCountNecklaces_any (a : Option Addr) (len cap : Nat) (zs : List Int) (w : World) (h : IsRow .u8 w a len cap zs) :
    Calls Try.prog 47 #[.slice a len cap] w (WalkRes w) := by
  have H0 := h.belowC ((Below.refl w.heap.size w).alloc (Nat.le_refl _) (.cells #[.int .i64 0, .slice none 0 0, .slice none 0 0] 26))
  have HO := Lib.hid (l20Open_any a len cap zs _ H0)
  clear H0 h
  go_enter Try.func47, Try.ntmps47
  go_wp2_with fail
  refine HO.out.mono ?_
  clear HO
  rintro e w1 ⟨a1, len1, cap1, rfl, hR, hb1⟩
  simp only [World.size_alloc] at hR hb1
  have hRR := hR.hR
  have c0 : w1.cell? ⟨w.heap.size, 0, none⟩ = some (.int .i64 0) := (hb1.cell (p := ⟨w.heap.size, 0, none⟩) (Nat.lt_succ_self _)).trans (World.cell?_alloc_new w _ _ 0)
  have c1 : w1.cell? ⟨w.heap.size, 1, none⟩ = some (.slice none 0 0) := (hb1.cell (p := ⟨w.heap.size, 1, none⟩) (Nat.lt_succ_self _)).trans (World.cell?_alloc_new w _ _ 1)
  have c2 : w1.cell? ⟨w.heap.size, 2, none⟩ = some (.slice none 0 0) := (hb1.cell (p := ⟨w.heap.size, 2, none⟩) (Nat.lt_succ_self _)).trans (World.cell?_alloc_new w _ _ 2)
  have f0 : ∀ i, w1.frozen? ⟨w.heap.size, i, none⟩ = false := fun i => (hb1.frozen (p := ⟨w.heap.size, i, none⟩) (Nat.lt_succ_self _)).trans (World.frozen?_alloc_new w _ _ i)
  have hbw : Below w.heap.size w w1 := ((Below.refl w.heap.size w).alloc (Nat.le_refl _) _).trans (hb1.mono (Nat.le_succ _))
  clear hb1
  have HR0 : Hid (∀ W, KeepsBut (w.heap.size + 1) w1 W → W.cell? ⟨w.heap.size, 0, none⟩ = some (.int .i64 0) ∧ W.cell? ⟨w.heap.size, 1, none⟩ = some (.slice none 0 0) ∧ W.cell? ⟨w.heap.size, 2, none⟩ = some (.slice none 0 0) ∧ W.frozen? ⟨w.heap.size, 0, none⟩ = false ∧ W.frozen? ⟨w.heap.size, 1, none⟩ = false ∧ W.frozen? ⟨w.heap.size, 2, none⟩ = false) := Lib.hid (fun W hK =>
    ⟨(hK.cell (p := ⟨w.heap.size, 0, none⟩) (by show w.heap.size < _; omega) (by show w.heap.size ≠ _; omega)).trans c0,
     (hK.cell (p := ⟨w.heap.size, 1, none⟩) (by show w.heap.size < _; omega) (by show w.heap.size ≠ _; omega)).trans c1,
     (hK.cell (p := ⟨w.heap.size, 2, none⟩) (by show w.heap.size < _; omega) (by show w.heap.size ≠ _; omega)).trans c2,
     (hK.frozen (p := ⟨w.heap.size, 0, none⟩) (by show w.heap.size < _; omega) (by show w.heap.size ≠ _; omega)).trans (f0 0),
     (hK.frozen (p := ⟨w.heap.size, 1, none⟩) (by show w.heap.size < _; omega) (by show w.heap.size ≠ _; omega)).trans (f0 1),
     (hK.frozen (p := ⟨w.heap.size, 2, none⟩) (by show w.heap.size < _; omega) (by show w.heap.size ≠ _; omega)).trans (f0 2)⟩)
  clear c0 c1 c2 f0
  go_wp2_with fail
  refine (l20Counted_any _ _ a1 len1 cap1 0 w1 hR (by omega)).mono ?_
  rintro e w2 ⟨m, a3, a4, c3, c4, n0, rfl, hm, -, k', -, hk2, hO⟩
  have HM := Lib.hid hm
  have O2 : Hid (OwR (w.heap.size + 1) (w.heap.size + 1) a1 len1 cap1 w1 k' [rowT 3 1 (.slice a3 m.next.length c3) m.next.length (m.next.map (Value.int .i64)), rowT 4 1 (.slice a4 m.ends.length c4) m.ends.length (m.ends.map Value.bool), cellsT w2.heap.size #[.int .i64 m.st, .slice a3 m.next.length c3, .slice a4 m.ends.length c4] 26] (w2.alloc (.cells #[.int .i64 m.st, .slice a3 m.next.length c3, .slice a4 m.ends.length c4] 26))) :=
    Lib.hid ((hO.box #[.int .i64 m.st, .slice a3 m.next.length c3, .slice a4 m.ends.length c4] 26).perm (List.perm_append_comm (l₁ := [_]) (l₂ := [_, _])))
  have HKB := Lib.hid (show k' ≤ 300 by omega)
  have hs2 := hO.size
  have FIN : ∀ P, OwR (w.heap.size + 1) (w.heap.size + 1) a1 len1 cap1 w1 (k' + 3) [rowT 3 1 (.slice a3 m.next.length c3) m.next.length (m.next.map (Value.int .i64)), rowT 4 1 (.slice a4 m.ends.length c4) m.ends.length (m.ends.map Value.bool), cellsT w2.heap.size #[.int .i64 m.st, .slice a3 m.next.length c3, .slice a4 m.ends.length c4] 26] P → ∀ W, W = ((P.setCell ⟨w.heap.size, 0, none⟩ (.int .i64 m.st)).setCell ⟨w.heap.size, 1, none⟩ (.slice a3 m.next.length c3)).setCell ⟨w.heap.size, 2, none⟩ (.slice a4 m.ends.length c4) →
      IsInts W (.slice a3 m.next.length c3) m.next ∧ IsBools W (.slice a4 m.ends.length c4) m.ends ∧ Below w.heap.size w W := by
    rintro P hP W rfl
    have hA := hP.ap
    have hbw2 : Below w.heap.size w P := hbw.trans (hP.keep.below (by omega) (by omega))
    have hr : ∀ k, some w.heap.size = some k → k < w1.heap.size := fun k e => by cases e; omega
    have hA2 := ((hA.other (grown_setCell P w.heap.size 0 (.int .i64 m.st)) hr).other (grown_setCell _ w.heap.size 1 (.slice a3 m.next.length c3)) hr).other (grown_setCell _ w.heap.size 2 (.slice a4 m.ends.length c4)) hr
    exact ⟨IsInts.of_owns hA2.head, IsBools.of_owns hA2.tail.head, ((hbw2.setCell (p := ⟨w.heap.size, 0, none⟩) (Nat.le_refl _) _).setCell (p := ⟨w.heap.size, 1, none⟩) (Nat.le_refl _) _).setCell (p := ⟨w.heap.size, 2, none⟩) (Nat.le_refl _) _⟩
  have FI := Lib.hid FIN
  clear FIN hO hm hk2 hR hbw
  go_upto_region 3 with fail
  generalize (w2.alloc (.cells #[.int .i64 m.st, .slice a3 m.next.length c3, .slice a4 m.ends.length c4] 26)) = W2 at *
  generalize hB4 : w2.heap.size = B4 at *
  generalize hR0 : w.heap.size = R0 at *
  generalize hB : R0 + 1 = B at *
  have hne1 : B4 ≠ R0 := by omega
  have hne2 : R0 ≠ B4 := by omega
  obtain ⟨y00, y01, y02, -⟩ := O2.out.tri 2 (by simp) rfl
  obtain ⟨m00, m01, m02, x00, x01, x02⟩ := HR0.out _ O2.out.keep
  have OD := Lib.hid O2.out.drew
  have HRE := Lib.hid hR0
  clear hB4 hR0 hs2 hRR hB
  go_region_held3 (fun w' => w'.cell? ⟨B4, 0, none⟩ = some (.int .i64 m.st) ∧ w'.cell? ⟨B4, 1, none⟩ = some (.slice a3 m.next.length c3) ∧ w'.cell? ⟨B4, 2, none⟩ = some (.slice a4 m.ends.length c4))
    (refine ⟨?_, ?_, ?_⟩ <;> go_simp)
    (first | (go_at_call 81; (first | (refine (pick_any B B a1 len1 cap1 (k' + 2) 40 _ P2.out.rd (by have := HKB.out; omega) (by omega) (by omega)).mono ?_; rintro e p3 ⟨v3, rfl, q30, q31, hR3, hK3⟩; have P3 := Lib.hid (P2.out.picked hR3 hK3); have q32 := q31 (by omega); obtain ⟨y30, y31, y32, -⟩ := P3.out.tri 2 (by simp) rfl; obtain ⟨m30, m31, m32, x30, x31, x32⟩ := HR0.out _ P3.out.keep; clear q31 hR3 hK3) | (refine (pick_any B B a1 len1 cap1 (k' + 1) 40 _ P1.out.rd (by have := HKB.out; omega) (by omega) (by omega)).mono ?_; rintro e p2 ⟨v2, rfl, q20, q21, hR2, hK2⟩; have P2 := Lib.hid (P1.out.picked hR2 hK2); have q22 := q21 (by omega); obtain ⟨y20, y21, y22, -⟩ := P2.out.tri 2 (by simp) rfl; obtain ⟨m20, m21, m22, x20, x21, x22⟩ := HR0.out _ P2.out.keep; clear q21 hR2 hK2) | (refine (pick_any B B a1 len1 cap1 k' 4 _ OD.out.rd (by have := HKB.out; omega) (by omega) (by omega)).mono ?_; rintro e p1 ⟨v1, rfl, q10, q11, hR1, hK1⟩; have P1 := Lib.hid (OD.out.picked hR1 hK1); have q12 := q11 (by omega); obtain ⟨y10, y11, y12, -⟩ := P1.out.tri 2 (by simp) rfl; obtain ⟨m10, m11, m12, x10, x11, x12⟩ := HR0.out _ P1.out.keep; clear q11 hR1 hK1))))
  all_goals
    go_wp2
    obtain ⟨r1, r6, r2⟩ := FI.out _ P3.out _ rfl
    have r3 : (((p3.setCell ⟨R0, 0, none⟩ (.int .i64 m.st)).setCell ⟨R0, 1, none⟩ (.slice a3 m.next.length c3)).setCell ⟨R0, 2, none⟩ (.slice a4 m.ends.length c4)).cell? ⟨R0, 0, none⟩ = some (.int .i64 m.st) := by go_simp
    have r4 : (((p3.setCell ⟨R0, 0, none⟩ (.int .i64 m.st)).setCell ⟨R0, 1, none⟩ (.slice a3 m.next.length c3)).setCell ⟨R0, 2, none⟩ (.slice a4 m.ends.length c4)).cell? ⟨R0, 1, none⟩ = some (.slice a3 m.next.length c3) := by go_simp
    have r5 : (((p3.setCell ⟨R0, 0, none⟩ (.int .i64 m.st)).setCell ⟨R0, 1, none⟩ (.slice a3 m.next.length c3)).setCell ⟨R0, 2, none⟩ (.slice a4 m.ends.length c4)).cell? ⟨R0, 2, none⟩ = some (.slice a4 m.ends.length c4) := by go_simp
    refine bodyPost_ret (v := .tuple #[.agg #[.int .i64 m.st, .slice a3 m.next.length c3, .slice a4 m.ends.length c4], .int .i64 (IntKind.i64.wrap (IntKind.i64.wrap (IntKind.i64.wrap (1 + v1) + IntKind.i64.wrap (IntKind.i64.wrap (v2.tdiv 39) * 6)) - IntKind.i64.wrap (v3.tdiv 39)))]) ?_ rfl ⟨m, _, _, _, _, _, rfl, HM.out, (n_CountNecklaces q10 q12 q20 q22 q30 q32).1, (n_CountNecklaces q10 q12 q20 q22 q30 q32).2, r1, r6, (by rw [HRE.out]; exact r2)⟩
    simp [results, Try.results47, go_sem, r3, r4, r5]
end Go.Proofs.Ytjdeahdngpccpaa

namespace Go.Proofs.Ytjdeahdngpccpaa
open Go.RowKit

theorem befR_skip {a b : ByteArray} {k : Nat} (h : k < a.size) (g : k < b.size) (e : a[k] = b[k]) : befR (a.data.toList.drop k) (b.data.toList.drop k) = befR (a.data.toList.drop (k + 1)) (b.data.toList.drop (k + 1)) := by
  have ha : k < a.data.toList.length := by rw [len_data]; exact h
  have hb : k < b.data.toList.length := by rw [len_data]; exact g
  rw [List.drop_eq_getElem_cons ha, List.drop_eq_getElem_cons hb, befR]
  exact if_pos e
theorem befR_part {a b : ByteArray} {k : Nat} (h : k < a.size) (g : k < b.size) (e : ¬ a[k] = b[k]) : befR (a.data.toList.drop k) (b.data.toList.drop k) = decide (letterOf (a[k].toNat : Int) < letterOf (b[k].toNat : Int)) := by
  have ha : k < a.data.toList.length := by rw [len_data]; exact h
  have hb : k < b.data.toList.length := by rw [len_data]; exact g
  rw [List.drop_eq_getElem_cons ha, List.drop_eq_getElem_cons hb, befR]
  exact if_neg e
theorem befR_end (a b : ByteArray) : befR (a.data.toList.drop a.size) (b.data.toList.drop a.size) = false := by
  rw [List.drop_of_length_le (by rw [len_data]; exact Nat.le_refl _)]; rfl

set_option maxHeartbeats 800000 in
theorem specBefore_any (a b : ByteArray) (w : World) (hl : a.size = b.size) (hs : a.size ≤ 14) :
    Calls Try.prog 131 #[.string a, .string b] w fun e w' => e = .returned (.bool (befR a.data.toList b.data.toList)) ∧ ∃ n, w' = w.drewN n := by
  go_enter Try.func131, Try.ntmps131
  go_wp2_with fail
  go_loopw [5] (fun i wr => ∃ k : Nat, k ≤ a.size ∧ i = .int .i64 k ∧ befR (a.data.toList.drop k) (b.data.toList.drop k) = befR a.data.toList b.data.toList ∧ ∃ n, wr = w.drewN n) (fun i _ => a.size - (intOf i).toNat)
  case atStart => exact ⟨0, Nat.zero_le _, rfl, rfl, 0, rfl⟩
  case round =>
    obtain ⟨k, hk, rfl, hb, n, rfl⟩ := hrel
    have HB := Lib.hid hb
    clear hb
    by_cases hlt : k < a.size
    · have hlt2 : k < b.size := by omega
      by_cases he : a[k] = b[k]
      · have hb' : ((a[k].toNat : Int) != (b[k].toNat : Int)) = false := by rw [bne, u8_beq, he]; simp
        have HS := Lib.hid (befR_skip hlt hlt2 he)
        clear he
        go_wp2_with fail
        go_quiet (fail)
        go_wp2_with fail
        go_roundw
        case rel => exact ⟨k + 1, by omega, by go_num, by rw [← HS.out, HB.out], _, rfl⟩
        case measure => simp [intOf]; omega
      · have hb' : ((a[k].toNat : Int) != (b[k].toNat : Int)) = true := by rw [bne, u8_beq]; simpa using he
        have HS := Lib.hid (befR_part hlt hlt2 he)
        clear he
        go_wp2_with fail
        go_quiet (fail)
        go_wp2_with fail
        go_region_with (go_at_call 86; refine (l1Letter_any _ _).mono ?_; rintro e w' ⟨rfl, rfl⟩)
        all_goals
          go_wp2_with fail
          go_ret
          exact ⟨ret_bool (by rw [← HB.out, HS.out]), _, rfl⟩
    · obtain rfl : k = a.size := by omega
      have HE := Lib.hid (befR_end a b)
      go_wp2_with fail
      go_ret
      exact ⟨ret_bool (by rw [← HB.out, HE.out]), n, rfl⟩

theorem word_size {s : ByteArray} (h : wordOk s = true) : s.data.toList.length ≤ 14 := by rw [len_data]; exact wordOk_size h
theorem leastTo_size {s : ByteArray} (k : Nat) : (txtOf (leastTo s.data.toList k)).size = s.size := by rw [txtOf_size, leastTo_length, len_data]
theorem leastRoll_yes {s : ByteArray} (h : wordOk s = true) : leastRoll s = txtOf (leastTo s.data.toList (s.size - 1)) := by rw [leastRoll, if_pos h, leastR, len_data]
theorem leastRoll_no {s : ByteArray} (h : wordOk s = false) : leastRoll s = ⟨#[]⟩ := by rw [leastRoll, h]; rfl
theorem leastTo_succ {l : List UInt8} {k : Nat} {b : Bool} (h : befR (rt (k + 1) l) (leastTo l k) = b) : leastTo l (k + 1) = if b = true then rt (k + 1) l else leastTo l k := by rw [leastTo, h]

set_option maxHeartbeats 1600000 in
theorem specLeastRoll_any (s : ByteArray) (w : World) (hs : s.size ≤ maxLen) :
    Calls Try.prog 102 #[.string s] w fun e w' => e = .returned (.string (leastRoll s)) ∧ ∃ n, w' = w.drewN n := by
  by_cases hw : wordOk s = true
  · have h14 := wordOk_size hw
    have HW := Lib.hid hw
    have HE := Lib.hid (leastRoll_yes hw)
    have HC : Hid (Calls Try.prog 39 #[.string s] w fun e w' => e = .returned (.bool true) ∧ w = w') := Lib.hid (by have := specWordOk_any s w hs; rwa [hw] at this)
    clear hw hs
    go_enter Try.func102, Try.ntmps102
    go_wp2_with (go_at_call 39; refine HC.out.mono ?_; rintro e w' ⟨rfl, rfl⟩)
    go_loopw [3, 4, 5] (fun b i _ wr => ∃ (k : Nat) (ki : Int), ki = (k : Int) ∧ k ≤ s.size - 1 ∧ i = .int .i64 (ki + 1) ∧ b = .string (txtOf (leastTo s.data.toList k)) ∧ ∃ n, wr = w.drewN n) (fun _ i _ _ => s.size - (intOf i).toNat)
    case atStart => exact ⟨0, 0, rfl, Nat.zero_le _, rfl, by rw [leastTo, txtOf_data], 0, rfl⟩
    case round =>
      obtain ⟨k, ki, hki, hk, rfl, rfl, n, rfl⟩ := hrel
      have HKI := Lib.hid hki
      have hq : IntKind.i64.wrap (ki + 1 + 1) = ki + 1 + 1 := IntWalk.i64_in _ (by omega)
      by_cases hlt : k + 1 < s.size
      · have hltI : ki + 1 < (s.size : Int) := by omega
        have h0 : 0 ≤ ki + 1 := by omega
        have hle : ki + 1 ≤ (s.size : Int) := by omega
        have htn : (ki + 1).toNat = k + 1 := by omega
        have HR := Lib.hid (rolled_str s (k + 1) (by omega))
        have hsz : (txtOf (rt (k + 1) s.data.toList)).size = s.size := by rw [txtOf_size, rt_length, len_data]
        have HB := Lib.hid (fun W => specBefore_any (txtOf (rt (k + 1) s.data.toList)) (txtOf (leastTo s.data.toList k)) W (by rw [hsz, leastTo_size]) (by rw [hsz]; exact h14))
        cases hb : befR (rt (k + 1) s.data.toList) (leastTo s.data.toList k) with
        | true =>
          have HL := Lib.hid (leastTo_succ hb)
          rw [txtOf_list, txtOf_list, hb] at HB
          clear hki hb hsz hlt
          go_wp2_with fail
          go_quiet (fail)
          rw [HR.out]
          go_wp2_with (go_at_call 131; refine (HB.out _).mono ?_; rintro e w' ⟨rfl, n2, rfl⟩)
          go_roundw
          case rel => exact ⟨k + 1, ki + 1, by have := HKI.out; omega, by omega, by first | rfl | rw [hq], by rw [HL.out]; rfl, _, rfl⟩
          case measure => simp [intOf]; have := HKI.out; omega
        | false =>
          have HL := Lib.hid (leastTo_succ hb)
          rw [txtOf_list, txtOf_list, hb] at HB
          clear hki hb hsz hlt
          go_wp2_with fail
          go_quiet (fail)
          rw [HR.out]
          go_wp2_with (go_at_call 131; refine (HB.out _).mono ?_; rintro e w' ⟨rfl, n2, rfl⟩)
          go_roundw
          case rel => exact ⟨k + 1, ki + 1, by have := HKI.out; omega, by omega, by first | rfl | rw [hq], by rw [HL.out]; rfl, _, rfl⟩
          case measure => simp [intOf]; have := HKI.out; omega
      · have hnlt : ¬ ki + 1 < (s.size : Int) := by omega
        obtain rfl : k = s.size - 1 := by omega
        clear hki hlt
        go_wp2_with fail
        go_ret
        exact ⟨ret_str HE.out.symm, n, rfl⟩
  · have hwf : wordOk s = false := by simpa using hw
    have HE := Lib.hid (leastRoll_no hwf)
    have HC : Hid (Calls Try.prog 39 #[.string s] w fun e w' => e = .returned (.bool false) ∧ w = w') := Lib.hid (by have := specWordOk_any s w hs; rwa [hwf] at this)
    clear hw hwf hs
    go_enter Try.func102, Try.ntmps102
    go_wp2_with (go_at_call 39; refine HC.out.mono ?_; rintro e w' ⟨rfl, rfl⟩)
    go_ret
    exact ⟨ret_str HE.out.symm, 0, rfl⟩

theorem rollsOf_yes {s : ByteArray} (h : wordOk s = true) : rollsOf s = (per s.data.toList : Int) := by rw [rollsOf, if_pos h]
theorem rollsOf_no {s : ByteArray} (h : wordOk s = false) : rollsOf s = -1 := by rw [rollsOf, h]; rfl
end Go.Proofs.Ytjdeahdngpccpaa

namespace Go.Proofs.Ytjdeahdngpccpaa
open Go.RowKit

/-- two words of letters, compared by their first letters that differ -/
def ordOf : List UInt8 → List UInt8 → Int
  | a :: xs, b :: bs => if letterOf (a.toNat : Int) = letterOf (b.toNat : Int) then ordOf xs bs else if letterOf (a.toNat : Int) < letterOf (b.toNat : Int) then -1 else 1
  | _, _ => 0
theorem ordOf_befR (a b : List UInt8) (ha : allL a = true) (hb : allL b = true) : decide (ordOf a b < 0) = befR a b := by
  induction a generalizing b with
  | nil => rfl
  | cons x xs ih =>
    cases b with
    | nil => rfl
    | cons y ys =>
      simp only [allL, List.all_cons, Bool.and_eq_true] at ha hb
      rw [ordOf, befR]
      by_cases h : letterOf (x.toNat : Int) = letterOf (y.toNat : Int)
      · rw [if_pos h, if_pos (letter_inj ha.1 hb.1 h)]
        exact ih ys ha.2 hb.2
      · have hxy : ¬ x = y := fun e => h (by rw [e])
        rw [if_neg h, if_neg hxy]
        by_cases g : letterOf (x.toNat : Int) < letterOf (y.toNat : Int)
        · rw [if_pos g, decide_eq_true g]; rfl
        · rw [if_neg g, decide_eq_false g]; rfl
/-- what cmp.Compare says of two numbers -/
def cmpI (x y : Int) : Int := if x < y then -1 else if y < x then 1 else 0
theorem isNaN_any (x : Int) (w : World) : Calls Try.prog 145 #[.int .i64 x] w fun e w' => e = .returned (.bool false) ∧ w = w' := by
  go_enter Try.func145, Try.ntmps145
  go_wp2_with fail
  go_ret
  exact ⟨ret_bool (by simp), rfl⟩
theorem compare_any (x y : Int) (w : World) : Calls Try.prog 134 #[.int .i64 x, .int .i64 y] w fun e w' => e = .returned (.int .i64 (cmpI x y)) ∧ w = w' := by
  by_cases h1 : x < y
  · have H := Lib.hid (show cmpI x y = -1 by rw [cmpI, if_pos h1])
    go_enter Try.func134, Try.ntmps134
    go_wp2_with (go_at_call 145; refine (isNaN_any _ _).mono ?_; rintro e w' ⟨rfl, rfl⟩)
    go_ret
    exact ⟨ret_int H.out.symm, rfl⟩
  · by_cases h2 : y < x
    · have H := Lib.hid (show cmpI x y = 1 by rw [cmpI, if_neg h1, if_pos h2])
      go_enter Try.func134, Try.ntmps134
      go_wp2_with (go_at_call 145; refine (isNaN_any _ _).mono ?_; rintro e w' ⟨rfl, rfl⟩)
      go_ret
      exact ⟨ret_int H.out.symm, rfl⟩
    · have H := Lib.hid (show cmpI x y = 0 by rw [cmpI, if_neg h1, if_neg h2])
      go_enter Try.func134, Try.ntmps134
      go_wp2_with (go_at_call 145; refine (isNaN_any _ _).mono ?_; rintro e w' ⟨rfl, rfl⟩)
      go_ret
      exact ⟨ret_int H.out.symm, rfl⟩

theorem ordOf_skip {a b : ByteArray} {k : Nat} (h : k < a.size) (g : k < b.size) (e : cmpI (letterOf (a[k].toNat : Int)) (letterOf (b[k].toNat : Int)) = 0) : ordOf (a.data.toList.drop k) (b.data.toList.drop k) = ordOf (a.data.toList.drop (k + 1)) (b.data.toList.drop (k + 1)) := by
  have ha : k < a.data.toList.length := by rw [len_data]; exact h
  have hb : k < b.data.toList.length := by rw [len_data]; exact g
  rw [List.drop_eq_getElem_cons ha, List.drop_eq_getElem_cons hb, ordOf]
  have e1 : a.data.toList[k] = a[k] := rfl
  have e2 : b.data.toList[k] = b[k] := rfl
  rw [e1, e2, if_pos]
  rw [cmpI] at e
  split at e
  · cases e
  · split at e
    · cases e
    · omega
theorem ordOf_part {a b : ByteArray} {k : Nat} (h : k < a.size) (g : k < b.size) (e : ¬ cmpI (letterOf (a[k].toNat : Int)) (letterOf (b[k].toNat : Int)) = 0) : ordOf (a.data.toList.drop k) (b.data.toList.drop k) = cmpI (letterOf (a[k].toNat : Int)) (letterOf (b[k].toNat : Int)) := by
  have ha : k < a.data.toList.length := by rw [len_data]; exact h
  have hb : k < b.data.toList.length := by rw [len_data]; exact g
  rw [List.drop_eq_getElem_cons ha, List.drop_eq_getElem_cons hb, ordOf]
  have e1 : a.data.toList[k] = a[k] := rfl
  have e2 : b.data.toList[k] = b[k] := rfl
  rw [e1, e2]
  rw [cmpI] at e ⊢
  split at e
  · rename_i h1; rw [if_neg (by omega), if_pos h1, if_pos h1]
  · rename_i h1
    split at e
    · rename_i h2; rw [if_neg (by omega), if_neg h1, if_neg h1, if_pos h2]
    · exact absurd rfl e
theorem ordOf_end (a b : ByteArray) : ordOf (a.data.toList.drop a.size) (b.data.toList.drop a.size) = 0 := by
  rw [List.drop_of_length_le (by rw [len_data]; exact Nat.le_refl _)]; rfl

set_option maxHeartbeats 1600000 in
theorem implOrder_any (a b : ByteArray) (w : World) (hl : a.size = b.size) (hs : a.size ≤ 14) (ha : allL a.data.toList = true) (hb : allL b.data.toList = true) :
    Calls Try.prog 107 #[.string a, .string b] w fun e w' => e = .returned (.int .i64 (ordOf a.data.toList b.data.toList)) ∧ ∃ n, w' = w.drewN n := by
  have HA := Lib.hid (show wordOk a = true by simp [wordOk, ha]; omega)
  have HB := Lib.hid (show wordOk b = true by simp [wordOk, hb]; omega)
  clear ha hb
  go_enter Try.func107, Try.ntmps107
  go_wp2_with fail
  go_loopw [5, 6, 9] (fun _ _ i wr => ∃ k : Nat, k ≤ a.size ∧ i = .int .i64 k ∧ ordOf (a.data.toList.drop k) (b.data.toList.drop k) = ordOf a.data.toList b.data.toList ∧ ∃ n, wr = w.drewN n) (fun _ _ i _ => a.size - (intOf i).toNat)
  case atStart => exact ⟨0, Nat.zero_le _, rfl, rfl, 0, rfl⟩
  case round =>
    obtain ⟨k, hk, rfl, hb, n, rfl⟩ := hrel
    have HO := Lib.hid hb
    clear hb
    by_cases hlt : k < a.size
    · have hlt2 : k < b.size := by omega
      have HC1 := Lib.hid (idxLetter_any a[k] (wordOk_at HA.out k hlt))
      have HC2 := Lib.hid (idxLetter_any b[k] (wordOk_at HB.out k hlt2))
      by_cases he : cmpI (letterOf (a[k].toNat : Int)) (letterOf (b[k].toNat : Int)) = 0
      · have HS := Lib.hid (ordOf_skip hlt hlt2 he)
        have HC3 := Lib.hid (compare_any (letterOf (a[k].toNat : Int)) (letterOf (b[k].toNat : Int)))
        rw [he] at HC3
        clear he
        go_wp2_with fail
        go_region_with (first | (go_at_call 121; (first | with_reducible refine (HC1.out _).mono ?_ | with_reducible refine (HC2.out _).mono ?_); rintro e w' ⟨rfl, rfl⟩) | (go_at_call 134; refine (HC3.out _).mono ?_; rintro e w' ⟨rfl, rfl⟩))
        all_goals
          go_wp2_with fail
          go_roundw
          case rel => exact ⟨k + 1, by omega, by go_num, by rw [← HS.out, HO.out], _, rfl⟩
          case measure => simp [intOf]; omega
      · have HS := Lib.hid (ordOf_part hlt hlt2 he)
        have HC3 := Lib.hid (compare_any (letterOf (a[k].toNat : Int)) (letterOf (b[k].toNat : Int)))
        generalize cmpI (letterOf (a[k].toNat : Int)) (letterOf (b[k].toNat : Int)) = c at *
        have hbz : (c == 0) = false := by simpa using he
        clear he
        go_wp2_with fail
        go_region_with (first | (go_at_call 121; (first | with_reducible refine (HC1.out _).mono ?_ | with_reducible refine (HC2.out _).mono ?_); rintro e w' ⟨rfl, rfl⟩) | (go_at_call 134; refine (HC3.out _).mono ?_; rintro e w' ⟨rfl, rfl⟩))
        all_goals
          go_wp2_with fail
          go_ret
          exact ⟨ret_int (by rw [← HO.out, HS.out]), _, rfl⟩
    · obtain rfl : k = a.size := by omega
      have HE := Lib.hid (ordOf_end a b)
      go_wp2_with fail
      go_ret
      exact ⟨ret_int (by rw [← HO.out, HE.out]), n, rfl⟩

/-- the first rolls of a word, as values -/
def rollsV (l : List UInt8) (n : Nat) : List Value := (List.range n).map fun k => .string (txtOf (rt k l))
theorem rollsV_more (l : List UInt8) (n : Nat) : rollsV l (n + 1) = rollsV l n ++ [.string (txtOf (rt n l))] := by simp [rollsV, List.range_succ]
theorem rollsV_at (l : List UInt8) (n k : Nat) (h : k < n) : (rollsV l n)[k]? = some (.string (txtOf (rt k l))) := by simp [rollsV, h]
/-- a row of the first rolls -/
def RollRow (w : World) (v : Value) (l : List UInt8) (n : Nat) : Prop := ∃ g cap, v = .slice (some ⟨g, 0, none⟩) n cap ∧ g < w.heap.size ∧ ∀ k, k < n → w.cell? ⟨g, k, none⟩ = some (.string (txtOf (rt k l)))
theorem RollRow.below {w w' : World} {v : Value} {l : List UInt8} {n : Nat} (h : RollRow w v l n) (hb : Below w.heap.size w w') : RollRow w' v l n := by
  obtain ⟨g, cap, rfl, h1, h2⟩ := h
  exact ⟨g, cap, rfl, Nat.lt_of_lt_of_le h1 hb.size, fun k hk => (hb.cell (p := ⟨g, k, none⟩) h1).trans (h2 k hk)⟩
theorem RollRow.of {w : World} {v : Value} {l : List UInt8} {n : Nat} (h : w.ownsRow 0 9 1 v n (rollsV l n)) (hn : 0 < n) : RollRow w v l n := by
  rcases h.2 with ⟨rfl, hz⟩ | ⟨g, cap, cur, rfl, _⟩
  · omega
  · exact ⟨g, cap, rfl, (World.ownsRow.lt h g rfl).2, fun k hk => (World.ownsRow.cellAt h k (by omega)).trans (rollsV_at l n k hk)⟩
theorem cellR (w : World) (u : Value) (t : TypeId) : ∀ j x, [u][j]? = some x → (w.alloc (.cells #[u] t)).cell? ((⟨w.heap.size, 0, none⟩ : Addr).add j) = some x := by
  intro j x h
  cases j with
  | zero =>
    simp only [List.getElem?_cons_zero, Option.some.injEq] at h
    subst h
    exact World.cell?_alloc_new w _ t 0
  | succ j => simp at h
theorem infoStrR : (Try.prog.info? 9).map (fun i => (i.zero, i.size, i.bytes)) = some (some (.string ⟨#[]⟩), 1, 16) := by kernel_rfl

set_option maxHeartbeats 1600000 in
theorem implRolls_any (s : ByteArray) (w : World) (hw : wordOk s = true) :
    Calls Try.prog 106 #[.string s] w fun e w' => ∃ v, e = .returned v ∧ RollRow w' v s.data.toList (max s.size 1) ∧ Below w.heap.size w w' := by
  obtain ⟨u0, hu, hz0, hz1, hz2⟩ := info_parts infoStrR
  have HU := Lib.hid (And.intro hu (And.intro hz0 (And.intro hz1 hz2)))
  clear hu hz0 hz1 hz2
  have h14 := wordOk_size hw
  have HW := Lib.hid hw
  have HRB := Lib.hid (fun (k : Nat) (hk : k ≤ s.size) W => implRolledBy_any s (k : Int) W (Nat.le_trans h14 (by unfold maxLen; omega)))
  have O0 := Lib.hid ((Own.nil w).lit 9 #[.string s] 1 rfl (by unfold maxLen; omega))
  have HR0 : Hid (rollsV s.data.toList 1 = [.string s]) := Lib.hid (by simp [rollsV, rt, txtOf_data])
  clear hw
  go_enter Try.func106, Try.ntmps106
  go_wp2_with fail
  go_loopw [3, 4, 5, 6] (fun v i _ _ wr => ∃ (k : Nat) (ki : Int), ki = (k : Int) ∧ 1 ≤ k ∧ (k ≤ s.size ∨ k = 1) ∧ i = .int .i64 ki ∧ Own w [rowT 9 1 v k (rollsV s.data.toList k)] wr) (fun _ i _ _ _ => s.size - (intOf i).toNat)
  case atStart => exact ⟨1, 1, rfl, Nat.le_refl _, .inr rfl, rfl, by rw [HR0.out]; exact O0.out⟩
  case round =>
    obtain ⟨k, ki, hki, hk1, hk, rfl, hO⟩ := hrel
    obtain ⟨wa, wc, rfl⟩ := ownsRow_slice (hO.row 0 (by simp) rfl)
    have O1 := Lib.hid hO
    have HKI := Lib.hid hki
    have hq : IntKind.i64.wrap (ki + 1) = ki + 1 := IntWalk.i64_in _ (by omega)
    by_cases hlt : k < s.size
    · have hltI : ki < (s.size : Int) := by omega
      have HC := Lib.hid (HRB.out k (by omega))
      obtain ⟨r1, r2⟩ := rolledStr_word HW.out k (by omega)
      rw [r1, r2, ← hki] at HC
      clear hki hk hO r1 r2
      go_wp2_with fail
      refine (HC.out _).mono ?_
      rintro e w1 ⟨rfl, n1, rfl⟩
      have O2 := Lib.hid (O1.out.drewN n1)
      have HM := Lib.hid (rollsV_more s.data.toList k)
      generalize (wr.drewN n1) = W1 at *
      go_wp2_with (at_builtin; refine wpList_append_lies _ rfl _ _ 93 rfl 0 9 u0 (.string ⟨#[]⟩) 1 16 Try.underlying93 HU.out.1 HU.out.2.1 HU.out.2.2.1 HU.out.2.2.2 rfl (by decide) (.slice wa k wc) k (rollsV s.data.toList k) rfl ((O2.out.row 0 (by simp) rfl).alloc _) ⟨W1.heap.size, 0, none⟩ 1 1 [.string (txtOf (rt k s.data.toList))] rfl rfl (cellR _ _ _) (by simp [Value.oneCell']) (by omega) (by unfold maxLen; omega) (by omega) (Nat.zero_le _) _ rfl ?_; intro g9 cp w6 hown hgrow hat hlt3; have O5 := Lib.hid (O2.out.push (i := 0) (by simp) rfl hgrow hown hat); clear hown hgrow hat hlt3)
      go_roundw
      case rel => exact ⟨k + 1, ki + 1, by have := HKI.out; omega, by omega, .inl (by omega), by first | rfl | rw [hq], by rw [HM.out]; exact O5.out⟩
      case measure => simp [intOf]; have := HKI.out; omega
    · have hnlt : ¬ ki < (s.size : Int) := by omega
      have hkm : k = max s.size 1 := by rcases hk with h | h <;> omega
      clear hki hk hO
      go_wp2_with fail
      go_ret
      refine ⟨_, rfl, ?_, O1.out.keep⟩
      rw [← hkm]
      exact RollRow.of (O1.out.row 0 (by simp) rfl) (by omega)

set_option maxHeartbeats 1600000 in
theorem implMin_any (l : List UInt8) (n : Nat) (v : Value) (w : World) (hl : allL l = true) (h14 : l.length ≤ 14) (hn : 0 < n) (hn2 : n ≤ 14) (h : RollRow w v l n) :
    Calls Try.prog 105 #[v, .func (.func 107) #[] #[]] w fun e w' => e = .returned (.string (txtOf (leastTo l (n - 1)))) ∧ ∃ n, w' = w.drewN n := by
  obtain ⟨g, cap, rfl, hg, hc⟩ := h
  have HC := Lib.hid hc
  have c0 := hc 0 hn
  rw [rt, show txtOf l = txtOf (leastTo l 0) from rfl] at c0
  have HL := Lib.hid hl
  have hn1 : ¬ (n : Int) < 1 := by omega
  have hn0 : (0 : Int) < (n : Int) := by omega
  clear hc hl
  go_enter Try.func105, Try.ntmps105
  go_wp2_with fail
  go_loopw [5, 6] (fun b i wr => ∃ (k : Nat) (ki : Int), ki = (k : Int) + 1 ∧ k + 1 ≤ n ∧ i = .int .i64 ki ∧ b = .string (txtOf (leastTo l k)) ∧ ∃ m, wr = w.drewN m) (fun _ i _ => n - (intOf i).toNat)
  case atStart => exact ⟨0, 1, rfl, by omega, rfl, rfl, 0, rfl⟩
  case round =>
    obtain ⟨k, ki, hki, hk, rfl, rfl, m, rfl⟩ := hrel
    have HKI := Lib.hid hki
    have hq : IntKind.i64.wrap (ki + 1) = ki + 1 := IntWalk.i64_in _ (by omega)
    clear c0
    by_cases hlt : k + 1 < n
    · have hltI : ki < (n : Int) := by omega
      have h0 : 0 ≤ ki := by omega
      have htn : ki.toNat = k + 1 := by omega
      have c1 : ∀ q, (w.drewN q).cell? ⟨g, k + 1, none⟩ = some (.string (txtOf (rt (k + 1) l))) := fun _ => HC.out (k + 1) hlt
      have HO := Lib.hid (fun W => implOrder_any (txtOf (rt (k + 1) l)) (txtOf (leastTo l k)) W (by rw [txtOf_size, txtOf_size, rt_length, leastTo_length]) (by rw [txtOf_size, rt_length]; exact h14) (by rw [txtOf_list, rt_all]; exact HL.out) (by rw [txtOf_list]; obtain ⟨j, _, e⟩ := leastTo_is l k; rw [e, rt_all]; exact HL.out))
      have hdec := ordOf_befR (rt (k + 1) l) (leastTo l k) (by rw [rt_all]; exact HL.out) (by obtain ⟨j, _, e⟩ := leastTo_is l k; rw [e, rt_all]; exact HL.out)
      rw [txtOf_list, txtOf_list] at HO
      generalize ordOf (rt (k + 1) l) (leastTo l k) = o at *
      cases hb : befR (rt (k + 1) l) (leastTo l k) with
      | true =>
        have HS := Lib.hid (leastTo_succ hb)
        rw [hb, decide_eq_true_eq] at hdec
        clear hki hb
        go_wp2_with (go_at_call 107; refine (HO.out _).mono ?_; rintro e w' ⟨rfl, n2, rfl⟩)
        go_roundw
        case rel => exact ⟨k + 1, ki + 1, by have := HKI.out; omega, by omega, by first | rfl | rw [hq], by rw [HS.out]; rfl, _, by first | rfl | exact World.drewN_drewN _ _ _⟩
        case measure => simp [intOf]; have := HKI.out; omega
      | false =>
        have HS := Lib.hid (leastTo_succ hb)
        rw [hb, decide_eq_false_iff_not] at hdec
        clear hki hb
        go_wp2_with (go_at_call 107; refine (HO.out _).mono ?_; rintro e w' ⟨rfl, n2, rfl⟩)
        go_roundw
        case rel => exact ⟨k + 1, ki + 1, by have := HKI.out; omega, by omega, by first | rfl | rw [hq], by rw [HS.out]; rfl, _, by first | rfl | exact World.drewN_drewN _ _ _⟩
        case measure => simp [intOf]; have := HKI.out; omega
    · have hnlt : ¬ ki < (n : Int) := by omega
      have hkn : n - 1 = k := by omega
      clear hki
      go_wp2_with fail
      go_ret
      exact ⟨ret_str (by first | rfl | rw [hkn]), m, rfl⟩

set_option maxHeartbeats 800000 in
theorem implLeastRoll_any (s : ByteArray) (w : World) (hs : s.size ≤ maxLen) :
    Calls Try.prog 51 #[.string s] w fun e w' => e = .returned (.string (leastRoll s)) ∧ Below w.heap.size w w' := by
  by_cases hw : wordOk s = true
  · have h14 := wordOk_size hw
    have HE := Lib.hid (leastRoll_yes hw)
    have HC : Hid (Calls Try.prog 67 #[.string s] w fun e w' => e = .returned (.bool true) ∧ w = w') := Lib.hid (by have := implWordOk_any s w hs; rwa [hw] at this)
    have HR := Lib.hid (fun W => implRolls_any s W hw)
    have HM := Lib.hid (fun v W h => implMin_any s.data.toList (max s.size 1) v W (wordOk_all hw) (word_size hw) (by omega) (by omega) h)
    clear hw hs
    go_enter Try.func51, Try.ntmps51
    go_wp2_with (go_at_call 67; refine HC.out.mono ?_; rintro e w' ⟨rfl, rfl⟩)
    refine (HR.out _).mono ?_
    rintro e w1 ⟨v, rfl, hrow, hb1⟩
    have HROW := Lib.hid hrow
    obtain ⟨g, cap, rfl, -, -⟩ := hrow
    have HB1 := Lib.hid hb1
    clear hb1
    go_wp2_with fail
    refine (HM.out _ _ HROW.out).mono ?_
    rintro e w2 ⟨rfl, n2, rfl⟩
    go_wp2_with fail
    go_ret
    exact ⟨ret_str (by rw [HE.out, show max s.size 1 - 1 = s.size - 1 by omega]), below_drewN HB1.out _⟩
  · have hwf : wordOk s = false := by simpa using hw
    have HE := Lib.hid (leastRoll_no hwf)
    have HC : Hid (Calls Try.prog 67 #[.string s] w fun e w' => e = .returned (.bool false) ∧ w = w') := Lib.hid (by have := implWordOk_any s w hs; rwa [hwf] at this)
    clear hw hwf hs
    go_enter Try.func51, Try.ntmps51
    go_wp2_with (go_at_call 67; refine HC.out.mono ?_; rintro e w' ⟨rfl, rfl⟩)
    go_ret
    exact ⟨ret_str HE.out.symm, Below.refl _ _⟩
end Go.Proofs.Ytjdeahdngpccpaa

namespace Go.Proofs.Ytjdeahdngpccpaa
open Go.RowKit

set_option maxHeartbeats 1600000 in
theorem implIndex_any (l : List UInt8) (n at0 : Nat) (v : Value) (w : World) (hat : at0 < n) (hn2 : n ≤ 14) (h : RollRow w v l n) :
    Calls Try.prog 109 #[v, .string (txtOf (rt at0 l))] w fun e w' => (∃ i : Nat, e = .returned (.int .i64 i) ∧ (i = at0 ↔ at0 < per l)) ∧ w = w' := by
  obtain ⟨g, cap, rfl, hg, hc⟩ := h
  have HC := Lib.hid hc
  have HAT := Lib.hid hat
  clear hc
  go_enter Try.func109, Try.ntmps109
  go_wp2_with fail
  go_loop [5, 8] (fun _ i => ∃ k : Nat, k ≤ at0 ∧ i = .int .i64 k ∧ ∀ j, j < k → rt j l ≠ rt at0 l) (fun _ i => n - (intOf i).toNat)
  case atStart => exact ⟨0, Nat.zero_le _, rfl, fun j hj => absurd hj (Nat.not_lt_zero j)⟩
  case round =>
    obtain ⟨k, hk, rfl, hno⟩ := hrel
    have HNO := Lib.hid hno
    clear hno
    have hlt : k < n := by omega
    have c1 := HC.out k hlt
    by_cases he : rt k l = rt at0 l
    · have hb : ((txtOf (rt at0 l)).toList == (txtOf (rt k l)).toList) = true := by rw [ByteArray.toList_eq, ByteArray.toList_eq, txtOf_list, txtOf_list, beq_iff_eq, he]
      have HV : Hid (k = at0 ↔ at0 < per l) := Lib.hid (by
        constructor
        · rintro rfl
          by_cases g : k < per l
          · exact g
          · have := per_old l k g
            exact absurd this.2 (HNO.out _ this.1)
        · intro g
          by_cases g2 : k = at0
          · exact g2
          · exact absurd he (per_new l at0 g k (by omega)))
      clear he
      go_wp2_with fail
      go_ret
      exact ⟨⟨k, rfl, HV.out⟩, rfl⟩
    · have hb : ((txtOf (rt at0 l)).toList == (txtOf (rt k l)).toList) = false := by rw [ByteArray.toList_eq, ByteArray.toList_eq, txtOf_list, txtOf_list, beq_eq_false_iff_ne]; exact fun e => he e.symm
      have hne : k ≠ at0 := fun e => he (by rw [e])
      have HE := Lib.hid he
      clear he
      go_wp2_with fail
      go_round
      case rel => exact ⟨k + 1, by omega, by go_num, fun j hj => by
        by_cases e : j = k
        · subst e; exact HE.out
        · exact HNO.out j (by omega)⟩
      case measure => simp [intOf]; omega

theorem rollsClosure_any (l : List UInt8) (n k : Nat) (a : Addr) (v : Value) (w : World) (hk : k < n) (hn2 : n ≤ 14) (hc : w.cell? a = some v) (h : RollRow w v l n) :
    Calls Try.prog 108 #[.int .i64 (k : Int), .string (txtOf (rt k l)), .pointer (some a)] w fun e w' => e = .returned (.bool (decide (k < per l))) ∧ w = w' := by
  have HI := Lib.hid (implIndex_any l n k v w hk hn2 h)
  obtain ⟨g, cap, rfl, -, -⟩ := h
  go_enter Try.func108, Try.ntmps108
  go_wp2_with fail
  refine HI.out.mono ?_
  rintro e w1 ⟨⟨i, rfl, hi⟩, rfl⟩
  have HV : Hid (((i : Int) == (k : Int)) = decide (k < per l)) := Lib.hid (by
    rw [Bool.eq_iff_iff, beq_iff_eq, decide_eq_true_eq, ← hi]; omega)
  clear hi
  go_wp2_with fail
  go_ret
  exact ⟨ret_bool HV.out, rfl⟩

set_option maxHeartbeats 1600000 in
theorem countRolls_any (l : List UInt8) (n : Nat) (a : Addr) (v : Value) (w : World) (hn2 : n ≤ 14) (hc : w.cell? a = some v) (h : RollRow w v l n) :
    Calls Try.prog 99 #[v, .func (.func 108) #[] #[.pointer (some a)]] w
      fun e w' => e = .returned (.int .i64 (cntTo (fun i => decide (i < per l)) n)) ∧ w = w' := by
  have HCL := Lib.hid (fun k hk => rollsClosure_any l n k a v w hk hn2 hc h)
  obtain ⟨g, cap, rfl, hg, hcl⟩ := h
  have HC := Lib.hid hcl
  clear hcl hc
  go_enter Try.func99, Try.ntmps99
  go_wp2_with fail
  go_loop [5, 6, 7, 10] (fun m _ _ i => ∃ k : Nat, k ≤ n ∧ i = .int .i64 k ∧ m = .int .i64 (cntTo (fun i => decide (i < per l)) k)) (fun _ _ _ i => n - (intOf i).toNat)
  case atStart => exact ⟨0, Nat.zero_le _, rfl, rfl⟩
  case round =>
    obtain ⟨k, hk, rfl, rfl⟩ := hrel
    have hbd := cntTo_bd (fun i => decide (i < per l)) k
    by_cases hlt : k < n
    · have c1 := HC.out k hlt
      have HK := Lib.hid (HCL.out k hlt)
      by_cases hp : k < per l
      · have HS := Lib.hid (cntTo_yes (fun i => decide (i < per l)) k (by simpa using hp))
        rw [decide_eq_true hp] at HK
        clear hp
        generalize cntTo (fun i => decide (i < per l)) k = m at *
        go_wp2_with (go_at_call 108; refine HK.out.mono ?_; rintro e w' ⟨rfl, rfl⟩)
        go_round
        case rel => exact ⟨k + 1, by omega, by go_num, by rw [HS.out]⟩
        case measure => simp [intOf]; omega
      · have HS := Lib.hid (cntTo_no (fun i => decide (i < per l)) k (by simpa using hp))
        rw [decide_eq_false hp] at HK
        clear hp
        generalize cntTo (fun i => decide (i < per l)) k = m at *
        go_wp2_with (go_at_call 108; refine HK.out.mono ?_; rintro e w' ⟨rfl, rfl⟩)
        go_round
        case rel => exact ⟨k + 1, by omega, by go_num, by rw [HS.out]⟩
        case measure => simp [intOf]; omega
    · obtain rfl : k = n := by omega
      go_wp2_with fail
      go_ret
      exact ⟨rfl, rfl⟩

set_option maxHeartbeats 800000 in
theorem implRollsOf_any (s : ByteArray) (w : World) (hs : s.size ≤ maxLen) :
    Calls Try.prog 52 #[.string s] w fun e w' => e = .returned (.int .i64 (rollsOf s)) ∧ Below w.heap.size w w' := by
  by_cases hw : wordOk s = true
  · have h14 := wordOk_size hw
    have HE : Hid (rollsOf s = cntTo (fun i => decide (i < per s.data.toList)) (max s.size 1)) := Lib.hid (by
      have := per_count s.data.toList
      rw [len_data] at this
      rw [rollsOf_yes hw, this])
    have HC : Hid (Calls Try.prog 67 #[.string s] w fun e w' => e = .returned (.bool true) ∧ w = w') := Lib.hid (by have := implWordOk_any s w hs; rwa [hw] at this)
    have HR := Lib.hid (fun W => implRolls_any s W hw)
    have HM := Lib.hid (fun a v W c h => countRolls_any s.data.toList (max s.size 1) a v W (by omega) c h)
    clear hw hs
    go_enter Try.func52, Try.ntmps52
    go_wp2_with (go_at_call 67; refine HC.out.mono ?_; rintro e w' ⟨rfl, rfl⟩)
    refine (HR.out _).mono ?_
    rintro e w1 ⟨v, rfl, hrow, hb1⟩
    have HROW := Lib.hid hrow
    obtain ⟨g, cap, rfl, -, -⟩ := hrow
    have HB1 := Lib.hid hb1
    clear hb1
    have HM2 := Lib.hid (HM.out ⟨w1.heap.size, 0, none⟩ _ (w1.alloc (.cells #[.slice (some ⟨g, 0, none⟩) (max s.size 1) cap] 93)) (World.cell?_alloc_new w1 _ _ 0) (HROW.out.below ((Below.refl _ _).alloc (Nat.le_refl _) _)))
    go_wp2_with fail
    refine HM2.out.mono ?_
    rintro e w2 ⟨rfl, rfl⟩
    go_wp2_with fail
    go_ret
    exact ⟨ret_int HE.out.symm, HB1.out.alloc HB1.out.size _⟩
  · have hwf : wordOk s = false := by simpa using hw
    have HE := Lib.hid (rollsOf_no hwf)
    have HC : Hid (Calls Try.prog 67 #[.string s] w fun e w' => e = .returned (.bool false) ∧ w = w') := Lib.hid (by have := implWordOk_any s w hs; rwa [hwf] at this)
    clear hw hwf hs
    go_enter Try.func52, Try.ntmps52
    go_wp2_with (go_at_call 67; refine HC.out.mono ?_; rintro e w' ⟨rfl, rfl⟩)
    go_ret
    exact ⟨ret_int HE.out.symm, Below.refl _ _⟩
end Go.Proofs.Ytjdeahdngpccpaa

namespace Go.Proofs.Ytjdeahdngpccpaa
open Go.RowKit

/-- a letter by its number -/
def lettB (l : Nat) : UInt8 := if l = 0 then 114 else if l = 1 then 100 else 110
theorem letts_at (l : Nat) (h : l < 3) : (⟨#[114, 100, 110]⟩ : ByteArray).extract l (l + 1) = txtOf [lettB l] := by
  have : l = 0 ∨ l = 1 ∨ l = 2 := by omega
  rcases this with rfl | rfl | rfl <;> rfl
theorem letts_run (l : Nat) (li : Int) (h : l < 3) (e : li = (l : Int)) (w : World) :
    (Instr.slice 9 (.string ⟨#[114, 100, 110]⟩) (some (.int .i64 li)) (some (.int .i64 (li + 1))) none).run Try.prog w = .ok (.string (txtOf [lettB l])) w := by
  subst e
  have hs : (⟨#[114, 100, 110]⟩ : ByteArray).size = 3 := rfl
  have := run_slice_string (P := Try.prog) (w := w) 9 ⟨#[114, 100, 110]⟩ .i64 .i64 (l : Int) ((l : Int) + 1) Try.underlying9 (by omega) (by omega) (by rw [hs]; omega)
  rw [this, show ((l : Int) + 1).toNat = l + 1 from by omega, Int.toNat_natCast, letts_at l h]
theorem txt_more (w : List UInt8) (c : UInt8) : txtOf w ++ txtOf [c] = txtOf (w ++ [c]) := by
  apply bytes_ext
  rw [ByteArray.data_append, Array.toList_append, txtOf_list, txtOf_list, txtOf_list]
theorem txt_word {l : List UInt8} {n : Nat} (h : l.length = n) (ha : allL l = true) (hn : n ≤ 6) : wordOk (txtOf l) = true := by
  simp only [wordOk, Bool.and_eq_true, decide_eq_true_eq]
  rw [txtOf_list, txtOf_size]
  exact ⟨ha, by omega⟩
theorem neck_is {m : M} {l : List UInt8} {n : Nat} (hm : m.ok = true) (h : l.length = n) (ha : allL l = true) (h1 : 1 ≤ n) (hn : n ≤ 6) : leastRoll (txtOf l) = txtOf (leastR l) ∧ ringOk m (txtOf l) = decide (0 ≤ ringL m l) := by
  have hw := txt_word h ha hn
  refine ⟨by rw [leastRoll, if_pos hw, txtOf_list], ?_⟩
  rw [ringOk, ringState_yes hm hw (by rw [txtOf_size]; omega), txtOf_list]
theorem txt_beq (a b : List UInt8) : ((txtOf a).toList == (txtOf b).toList) = decide (a = b) := by
  rw [ByteArray.toList_eq, ByteArray.toList_eq, txtOf_list, txtOf_list, Bool.eq_iff_iff, beq_iff_eq, decide_eq_true_eq]
theorem countNecks_yes {m : M} {r : Nat} (h : m.ok = true) (g : ringNum (r : Int) = true) : countNecks m (r : Int) = cntTo (fun way => neckB m (digits r way)) (3 ^ r) := by
  rw [countNecks, h, g, words_count]; rfl
theorem countNecks_no {m : M} {n : Int} (h : (m.ok && ringNum n) = false) : countNecks m n = -1 := by rw [countNecks, h]; rfl
theorem pow3_le (r k : Nat) (h : k ≤ r) (hr : r ≤ 6) : 1 ≤ 3 ^ k ∧ 3 ^ k ≤ 3 ^ r ∧ 3 ^ r ≤ 729 := by
  refine ⟨Nat.pow_pos (by omega), Nat.pow_le_pow_right (by omega) h, ?_⟩
  have := Nat.pow_le_pow_right (n := 3) (by omega) hr
  exact this
theorem digit_div (k way : Nat) : way / 3 ^ k / 3 = way / 3 ^ (k + 1) := by rw [Nat.div_div_eq_div_mul, Nat.pow_succ]
theorem digits_lett (k way : Nat) : digits (k + 1) way = digits k way ++ [lettB (way / 3 ^ k % 3)] := rfl

set_option maxHeartbeats 4000000 in
theorem specCountNecklaces_any (m : M) (n : Int) (nv ev : Value) (w : World) (h1 : IsInts w nv m.next) (h2 : IsBools w ev m.ends) (hst : (Lit.int .i64 m.st).wf = true) :
    Calls Try.prog 49 #[.agg #[.int .i64 m.st, nv, ev], .int .i64 n] w fun e w' => e = .returned (.int .i64 (countNecks m n)) ∧ Below w.heap.size w w' := by
  have M0 := Lib.hid (MachBox.new (st := m.st) 26 h1 h2)
  have q0 : Hid (Below w.heap.size w (w.alloc (.cells #[.int .i64 m.st, nv, ev] 26))) := Lib.hid ((Below.refl _ _).alloc (Nat.le_refl _) _)
  have HIN := Lib.hid (fun W => l1In_any n 1 6 W)
  clear h1 h2
  go_enter Try.func49, Try.ntmps49
  go_wp2_with fail
  refine (specMachineOk_any m nv ev _ M0.out.ints M0.out.bools hst).mono ?_
  rintro e w1 ⟨rfl, hb1⟩
  have M1 := Lib.hid (M0.out.below hb1)
  have q1 := Lib.hid (q0.out.trans (hb1.mono q0.out.size))
  clear hb1 M0
  have y10 := M1.out.c0
  have y11 := M1.out.c1
  have y12 := M1.out.c2
  by_cases hk : m.ok = true
  · have HK := Lib.hid hk
    rw [hk]
    by_cases hr : ringNum n = true
    · obtain ⟨r0, hr0, hr5⟩ := ringNum_nat hr
      obtain ⟨r, hrn⟩ : ∃ r : Nat, n = (r : Int) := ⟨n.toNat, by omega⟩
      have hr1 : 1 ≤ r := by omega
      have hr6 : r ≤ 6 := by omega
      have HE := Lib.hid (show countNecks m n = cntTo (fun way => neckB m (digits r way)) (3 ^ r) by rw [hrn]; exact countNecks_yes hk (by rw [← hrn]; exact hr))
      have HIN2 : Hid (∀ W, Calls Try.prog 66 #[.int .i64 n, .int .i64 1, .int .i64 6] W fun e w' => e = .returned (.bool true) ∧ W = w') := Lib.hid (fun W => by
        have := HIN.out W
        rwa [show (decide ((1 : Int) ≤ n) && decide (n ≤ 6)) = true from hr] at this)
      have HRN := Lib.hid hrn
      have hP := Lib.hid (pow3_le r r (Nat.le_refl _) hr6)
      have HP := Lib.hid (fun k hk => pow3_le r k hk hr6)
      generalize hP3 : 3 ^ r = P3 at *
      have HP3 := Lib.hid hP3
      clear hk hr hr0 hr5 HIN hrn hP3
      go_wp2_with (go_at_call 66; refine (HIN2.out _).mono ?_; rintro e w2 ⟨rfl, rfl⟩)
      clear y10 y11 y12
      go_loopw [5, 6] (fun av kv wr => ∃ (k : Nat) (ki ai : Int), ki = (k : Int) ∧ k ≤ r ∧ kv = .int .i64 ki ∧ av = .int .i64 ai ∧ ai = ((3 ^ k : Nat) : Int) ∧ wr = w1) (fun _ kv _ => 7 - (intOf kv).toNat)
      case atStart => exact ⟨0, 0, 1, rfl, Nat.zero_le _, rfl, rfl, rfl, rfl⟩
      case round =>
        obtain ⟨k, ki, ai, hki, hkr, rfl, rfl, hai, rfl⟩ := hrel
        have HKI := Lib.hid hki
        have HAI := Lib.hid hai
        have hn := HRN.out
        have hp := HP.out k hkr
        have ha0 : 0 ≤ ai := by omega
        have ha1 : ai ≤ 729 := by omega
        have hq : IntKind.i64.wrap (ki + 1) = ki + 1 := IntWalk.i64_in _ (by omega)
        have hq2 : IntKind.i64.wrap (ai * 3) = ai * 3 := IntWalk.i64_in _ (by omega)
        clear hai hp
        by_cases hlt : k < r
        · have hltI : ki < n := by omega
          clear hki hn
          go_wp2_with fail
          go_roundw
          case rel => exact ⟨k + 1, ki + 1, ai * 3, by have := HKI.out; omega, by omega, by first | rfl | rw [hq], by first | rfl | rw [hq2], by rw [HAI.out, Nat.pow_succ]; omega, by first | rfl | trivial⟩
          case measure => simp [intOf]; have := HKI.out; omega
        · have hnlt : ¬ ki < n := by omega
          have hkr2 : k = r := by omega
          have HAP : Hid (ai = (P3 : Int)) := Lib.hid (by rw [HAI.out, hkr2, HP3.out])
          clear hki hn
          go_wp2_with fail
          go_loopw [7, 8, 9, 10, 11] (fun cv wv _ _ _ wr => ∃ (t : Nat) (ti : Int), ti = (t : Int) ∧ t ≤ P3 ∧ wv = .int .i64 ti ∧ cv = .int .i64 (cntTo (fun way => neckB m (digits r way)) t) ∧ MachBox w.heap.size m.st nv m.next ev m.ends wr ∧ Below w.heap.size w wr) (fun _ wv _ _ _ _ => P3 - (intOf wv).toNat)
          case atStart => exact ⟨0, 0, rfl, Nat.zero_le _, rfl, rfl, M1.out, q1.out⟩
          case round =>
            obtain ⟨t, ti, hti, htP, rfl, rfl, hX, hQ⟩ := hrel
            have MK := Lib.hid hX
            have QK := Lib.hid hQ
            have HTI := Lib.hid hti
            have hap := HAP.out
            have hPm := hP.out.2.2
            have hq3 : IntKind.i64.wrap (ti + 1) = ti + 1 := IntWalk.i64_in _ (by omega)
            clear hX hQ
            by_cases htl : t < P3
            · have htlI : ti < ai := by omega
              clear hti hap
              go_wp2_with fail
              go_loopw [9, 10, 11] (fun sv lv jv wr2 => ∃ (j : Nat) (ji li : Int), ji = (j : Int) ∧ j ≤ r ∧ jv = .int .i64 ji ∧ sv = .string (txtOf (digits j t)) ∧ lv = .int .i64 li ∧ li = ((t / 3 ^ j : Nat) : Int) ∧ MachBox w.heap.size m.st nv m.next ev m.ends wr2 ∧ Below w.heap.size w wr2) (fun _ _ jv _ => 7 - (intOf jv).toNat)
              case atStart => exact ⟨0, 0, ti, rfl, Nat.zero_le _, rfl, rfl, rfl, by rw [HTI.out, Nat.pow_zero, Nat.div_one], MK.out, QK.out⟩
              case round =>
                obtain ⟨j, ji, li, hji, hjr, rfl, rfl, rfl, hli, hX, hQ⟩ := hrel
                have ML := Lib.hid hX
                have QL := Lib.hid hQ
                have HJI := Lib.hid hji
                have HLI := Lib.hid hli
                have hlt3 : t / 3 ^ j ≤ t := Nat.div_le_self _ _
                have hq4 : IntKind.i64.wrap (ji + 1) = ji + 1 := IntWalk.i64_in _ (by omega)
                have hl0 : 0 ≤ li := by rw [hli]; exact Int.natCast_nonneg _
                have hl1 : li ≤ 729 := by rw [hli]; exact Int.le_trans (Int.ofNat_le.2 (show t / 3 ^ j ≤ 729 from Nat.le_trans hlt3 (by omega))) (by decide)
                clear hX hQ
                by_cases hjl : j < r
                · have hjlI : ji < n := by have := HRN.out; omega
                  have hdl : t / 3 ^ j % 3 < 3 := Nat.mod_lt _ (by omega)
                  generalize hdi : ((t / 3 ^ j % 3 : Nat) : Int) = di at *
                  have hmod1 : li.tmod 3 = di := by rw [hli, ← hdi]; rfl
                  have hmod2 : li % 3 = di := by omega
                  have hdiv1 : li.tdiv 3 = ((t / 3 ^ (j + 1) : Nat) : Int) := by rw [hli, ← digit_div]; rfl
                  have hdiv2 : li / 3 = ((t / 3 ^ (j + 1) : Nat) : Int) := by rw [hli, ← digit_div]; rfl
                  have hL := fun W => letts_run (t / 3 ^ j % 3) di hdl hdi.symm W
                  have hd0 : 0 ≤ di := by omega
                  have hd2 : di ≤ 2 := by omega
                  have hq5 : IntKind.i64.wrap (di + 1) = di + 1 := IntWalk.i64_in _ (by omega)
                  have hle2 : t / 3 ^ (j + 1) ≤ t := Nat.div_le_self _ _
                  have HTM := Lib.hid (txt_more (digits j t) (lettB (t / 3 ^ j % 3)))
                  rw [← digits_lett] at HTM
                  have hszd : (txtOf (digits j t)).size ≤ 6 := by rw [txtOf_size, digits_length]; omega
                  have hszl : (txtOf [lettB (t / 3 ^ j % 3)]).size = 1 := by rw [txtOf_size]; rfl
                  generalize hl2 : ((t / 3 ^ (j + 1) : Nat) : Int) = l2 at *
                  have HL2 := Lib.hid hl2
                  have hl20 : 0 ≤ l2 := by rw [← hl2]; exact Int.natCast_nonneg _
                  have hl21 : l2 ≤ 729 := by rw [← hl2]; exact Int.le_trans (Int.ofNat_le.2 (show t / 3 ^ (j + 1) ≤ 729 from Nat.le_trans hle2 (by omega))) (by decide)
                  generalize lettB (t / 3 ^ j % 3) = lb at *
                  clear hli hji hdi hdl hl2
                  generalize hdn : txtOf (digits (j + 1) t) = dn at *
                  have HDN := Lib.hid hdn
                  clear hdn
                  generalize txtOf (digits j t) = dt at *
                  go_wp2_with fail
                  go_roundw
                  case rel => exact ⟨j + 1, ji + 1, l2, by have := HJI.out; omega, by omega, by first | rfl | rw [hq4], by first | rfl | rw [HDN.out, HTM.out] | rw [HTM.out], by first | rfl | trivial, HL2.out.symm, ML.out, QL.out⟩
                  case measure => simp [intOf]; have := HJI.out; omega
                · have hjr2 : j = r := by omega
                  have hjnl : ¬ ji < n := by have := HRN.out; omega
                  subst hjr2
                  obtain ⟨HLR, HRK⟩ := neck_is HK.out (digits_length j t) (digits_all j t) hr1 hr6
                  have hszd : (txtOf (digits j t)).size ≤ maxLen := by rw [txtOf_size, digits_length]; unfold maxLen; omega
                  have HC1 := Lib.hid (fun W => specLeastRoll_any (txtOf (digits j t)) W hszd)
                  have HC2 := Lib.hid (fun W a b => specRingOk_any m (txtOf (digits j t)) nv ev W a b hst hszd)
                  rw [HLR] at HC1
                  rw [HRK] at HC2
                  have hbq := txt_beq (leastR (digits j t)) (digits j t)
                  have y10 := ML.out.c0
                  have y11 := ML.out.c1
                  have y12 := ML.out.c2
                  have hcb := cntTo_bd (fun way => neckB m (digits j way)) t
                  clear hji hli HLR HRK hszd
                  by_cases he : leastR (digits j t) = digits j t
                  · rw [decide_eq_true he] at hbq
                    cases hg : decide (0 ≤ ringL m (digits j t)) with
                    | true =>
                      have HS := Lib.hid (cntTo_yes (fun way => neckB m (digits j way)) t (by show (decide _ && decide _) = true; rw [decide_eq_true he, hg]; rfl))
                      rw [hg] at HC2
                      rw [he] at *
                      generalize txtOf (digits j t) = dt at *
                      generalize cntTo (fun way => neckB m (digits j way)) t = cn at *
                      clear hg he
                      have hq6 : IntKind.i64.wrap (cn + 1) = cn + 1 := IntWalk.i64_in _ (by omega)
                      go_wp2_with (first | (go_at_call 102; refine (HC1.out _).mono ?_; rintro e w5 ⟨rfl, n5, rfl⟩; have M5 := Lib.hid (ML.out.below (below_drewN (Below.refl _ _) n5)); have Q5 := Lib.hid (below_drewN QL.out n5); have z10 := M5.out.c0; have z11 := M5.out.c1; have z12 := M5.out.c2) | (go_at_call 103; refine (HC2.out _ M5.out.ints M5.out.bools).mono ?_; rintro e w6 ⟨rfl, hb6⟩; have M6 := Lib.hid (M5.out.below hb6); have Q6 := Lib.hid (Q5.out.trans (hb6.mono Q5.out.size)); clear hb6))
                      go_roundw
                      case rel => exact ⟨t + 1, ti + 1, by have := HTI.out; omega, by omega, by first | rfl | rw [hq3], by rw [HS.out], M6.out, Q6.out⟩
                      case measure => simp [intOf]; have := HTI.out; omega
                    | false =>
                      have HS := Lib.hid (cntTo_no (fun way => neckB m (digits j way)) t (by show (decide _ && decide _) = false; rw [hg, Bool.and_false]))
                      rw [hg] at HC2
                      rw [he] at *
                      generalize txtOf (digits j t) = dt at *
                      generalize cntTo (fun way => neckB m (digits j way)) t = cn at *
                      clear hg he
                      go_wp2_with (first | (go_at_call 102; refine (HC1.out _).mono ?_; rintro e w5 ⟨rfl, n5, rfl⟩; have M5 := Lib.hid (ML.out.below (below_drewN (Below.refl _ _) n5)); have Q5 := Lib.hid (below_drewN QL.out n5); have z10 := M5.out.c0; have z11 := M5.out.c1; have z12 := M5.out.c2) | (go_at_call 103; refine (HC2.out _ M5.out.ints M5.out.bools).mono ?_; rintro e w6 ⟨rfl, hb6⟩; have M6 := Lib.hid (M5.out.below hb6); have Q6 := Lib.hid (Q5.out.trans (hb6.mono Q5.out.size)); clear hb6))
                      go_roundw
                      case rel => exact ⟨t + 1, ti + 1, by have := HTI.out; omega, by omega, by first | rfl | rw [hq3], by rw [HS.out], M6.out, Q6.out⟩
                      case measure => simp [intOf]; have := HTI.out; omega
                  · rw [decide_eq_false he] at hbq
                    have HS := Lib.hid (cntTo_no (fun way => neckB m (digits j way)) t (by show (decide _ && decide _) = false; rw [decide_eq_false he, Bool.false_and]))
                    generalize txtOf (leastR (digits j t)) = dl at *
                    generalize txtOf (digits j t) = dt at *
                    generalize cntTo (fun way => neckB m (digits j way)) t = cn at *
                    clear he
                    go_wp2_with (go_at_call 102; refine (HC1.out _).mono ?_; rintro e w5 ⟨rfl, n5, rfl⟩; have M5 := Lib.hid (ML.out.below (below_drewN (Below.refl _ _) n5)); have Q5 := Lib.hid (below_drewN QL.out n5))
                    go_roundw
                    case rel => exact ⟨t + 1, ti + 1, by have := HTI.out; omega, by omega, by first | rfl | rw [hq3], by rw [HS.out], M5.out, Q5.out⟩
                    case measure => simp [intOf]; have := HTI.out; omega
            · have htnl : ¬ ti < ai := by omega
              have htP2 : t = P3 := by omega
              clear hti hap
              have HFE : Hid (countNecks m n = cntTo (fun way => neckB m (digits r way)) t) := Lib.hid (by rw [HE.out, htP2])
              generalize cntTo (fun way => neckB m (digits r way)) t = cn at *
              go_wp2_with fail
              go_ret
              exact ⟨ret_int HFE.out.symm, QK.out⟩
    · have hrf : ringNum n = false := by simpa using hr
      have HE := Lib.hid (countNecks_no (m := m) (n := n) (by rw [hrf, Bool.and_false]))
      have HIN2 : Hid (∀ W, Calls Try.prog 66 #[.int .i64 n, .int .i64 1, .int .i64 6] W fun e w' => e = .returned (.bool false) ∧ W = w') := Lib.hid (fun W => by
        have := HIN.out W
        rwa [show (decide ((1 : Int) ≤ n) && decide (n ≤ 6)) = false from hrf] at this)
      clear hk hr HIN hrf
      go_wp2_with (go_at_call 66; refine (HIN2.out _).mono ?_; rintro e w2 ⟨rfl, rfl⟩)
      go_ret
      exact ⟨ret_int HE.out.symm, q1.out⟩
  · have hkf : m.ok = false := by simpa using hk
    have HE := Lib.hid (countNecks_no (m := m) (n := n) (by rw [hkf, Bool.false_and]))
    rw [hkf]
    clear hk hkf
    go_wp2_with fail
    go_ret
    exact ⟨ret_int HE.out.symm, q1.out⟩
end Go.Proofs.Ytjdeahdngpccpaa

namespace Go.Proofs.Ytjdeahdngpccpaa
open Go.RowKit

/-- a row of words, as values -/
def wsV (ws : List (List UInt8)) : List Value := ws.map fun l => .string (txtOf l)
theorem wsV_more (ws : List (List UInt8)) (l : List UInt8) : wsV (ws ++ [l]) = wsV ws ++ [.string (txtOf l)] := by simp [wsV]
theorem wsV_at (ws : List (List UInt8)) (k : Nat) (h : k < ws.length) : (wsV ws)[k]? = some (.string (txtOf ws[k])) := by simp [wsV, h]
/-- words with each letter behind -/
def ext3 (w : List UInt8) : List (List UInt8) := [w ++ [114], w ++ [100], w ++ [110]]
/-- of the first words all, of the next one the first ones -/
def extTo (ws : List (List UInt8)) (j l : Nat) : List (List UInt8) := (ws.take j).flatMap ext3 ++ ((ws.drop j).take 1).flatMap fun w => (ext3 w).take l
theorem extTo_zero (ws : List (List UInt8)) (j : Nat) : extTo ws j 0 = (ws.take j).flatMap ext3 := by simp [extTo]
theorem extTo_next (ws : List (List UInt8)) (j l : Nat) (h : j < ws.length) (hl : l < 3) : extTo ws j (l + 1) = extTo ws j l ++ [ws[j] ++ [lettB l]] := by
  have e : (ws.drop j).take 1 = [ws[j]] := by rw [List.drop_eq_getElem_cons h]; rfl
  rw [extTo, extTo, e, List.append_assoc]
  have : l = 0 ∨ l = 1 ∨ l = 2 := by omega
  rcases this with rfl | rfl | rfl <;> simp [ext3, lettB]
theorem extTo_three (ws : List (List UInt8)) (j : Nat) (h : j < ws.length) : extTo ws j 3 = extTo ws (j + 1) 0 := by
  have e : (ws.drop j).take 1 = [ws[j]] := by rw [List.drop_eq_getElem_cons h]; rfl
  rw [extTo_zero, extTo, e, List.take_succ_eq_append_getElem h, List.flatMap_append]
  simp [ext3]
theorem extTo_all (k : Nat) : extTo (wordsL k) (wordsL k).length 0 = wordsL (k + 1) := by
  rw [extTo_zero, List.take_length]; rfl
theorem extTo_length (ws : List (List UInt8)) (j l : Nat) (h : j ≤ ws.length) (_hl : l ≤ 3) : (extTo ws j l).length ≤ 3 * ws.length + 3 := by
  have h1 : ∀ a : List (List UInt8), (a.flatMap ext3).length = a.length * 3 := by
    intro a
    induction a with
    | nil => rfl
    | cons x xs ih => rw [List.flatMap_cons, List.length_append, ih]; simp [ext3]; omega
  have h2 : ∀ a : List (List UInt8), (a.flatMap fun w => (ext3 w).take l).length ≤ a.length * 3 := by
    intro a
    induction a with
    | nil => simp
    | cons x xs ih =>
      have h9 : ((ext3 x).take l).length ≤ 3 := by rw [List.length_take]; exact Nat.min_le_right _ _
      rw [List.flatMap_cons, List.length_append, List.length_cons]; omega
  have h3 := h2 ((ws.drop j).take 1)
  rw [extTo, List.length_append, h1, List.length_take]
  have : ((ws.drop j).take 1).length ≤ 1 := by rw [List.length_take]; omega
  omega

/-- a row of words in memory -/
def WordRow (w : World) (v : Value) (ws : List (List UInt8)) : Prop := ∃ g cap, v = .slice (some ⟨g, 0, none⟩) ws.length cap ∧ g < w.heap.size ∧ ∀ k (h : k < ws.length), w.cell? ⟨g, k, none⟩ = some (.string (txtOf ws[k]))
theorem WordRow.below {w w' : World} {v : Value} {ws : List (List UInt8)} (h : WordRow w v ws) (hb : Below w.heap.size w w') : WordRow w' v ws := by
  obtain ⟨g, cap, rfl, h1, h2⟩ := h
  exact ⟨g, cap, rfl, Nat.lt_of_lt_of_le h1 hb.size, fun k hk => (hb.cell (p := ⟨g, k, none⟩) h1).trans (h2 k hk)⟩
theorem WordRow.of {w : World} {v : Value} {ws : List (List UInt8)} (h : w.ownsRow 0 9 1 v ws.length (wsV ws)) (hn : 0 < ws.length) : WordRow w v ws := by
  rcases h.2 with ⟨rfl, hz⟩ | ⟨g, cap, cur, rfl, _⟩
  · omega
  · exact ⟨g, cap, rfl, (World.ownsRow.lt h g rfl).2, fun k hk => (World.ownsRow.cellAt h k (by omega)).trans (wsV_at ws k hk)⟩
theorem wordsL_le (k r : Nat) (h : k ≤ r) (hr : r ≤ 6) : 1 ≤ (wordsL k).length ∧ (wordsL k).length ≤ 729 := by
  rw [wordsL_length]
  have := pow3_le r k h hr
  omega

set_option maxHeartbeats 3200000 in
theorem implWords_any (n : Int) (r : Nat) (w : World) (hn : n = (r : Int)) (hr : r ≤ 6) :
    Calls Try.prog 100 #[.int .i64 n] w fun e w' => ∃ v, e = .returned v ∧ WordRow w' v (wordsL r) ∧ Below w.heap.size w w' := by
  obtain ⟨u0, hu, hz0, hz1, hz2⟩ := info_parts infoStrR
  have HU := Lib.hid (And.intro hu (And.intro hz0 (And.intro hz1 hz2)))
  clear hu hz0 hz1 hz2
  have HN := Lib.hid hn
  have hn6 : n ≤ 6 := by omega
  have O0 := Lib.hid ((Own.nil w).lit 9 #[.string ⟨#[]⟩] 1 rfl (by unfold maxLen; omega))
  clear hn
  go_enter Try.func100, Try.ntmps100
  go_wp2_with fail
  go_loopw [3, 4, 6, 7, 10] (fun v _ _ _ iv wr => ∃ (i : Nat) (ii : Int), ii = (i : Int) ∧ i ≤ r ∧ iv = .int .i64 ii ∧ Own w [rowT 9 1 v (wordsL i).length (wsV (wordsL i))] wr) (fun _ _ _ _ iv _ => 7 - (intOf iv).toNat)
  case atStart => exact ⟨0, 0, rfl, Nat.zero_le _, rfl, O0.out⟩
  case round =>
    obtain ⟨i, ii, hii, hir, rfl, hO⟩ := hrel
    have HII := Lib.hid hii
    have O1 := Lib.hid hO
    obtain ⟨wa, wc, rfl⟩ := ownsRow_slice (hO.row 0 (by simp) rfl)
    have hq : IntKind.i64.wrap (ii + 1) = ii + 1 := IntWalk.i64_in _ (by omega)
    clear hO
    by_cases hlt : i < r
    · have hltI : ii < n := by have := HN.out; omega
      obtain ⟨hw1, hw2⟩ := wordsL_le i r hir hr
      have O2 := Lib.hid (O1.out.idle 9)
      have HW := Lib.hid (fun (W : World) (h : W.ownsRow 0 9 1 (.slice wa (wordsL i).length wc) (wordsL i).length (wsV (wordsL i))) => WordRow.of h (by omega))
      generalize hws : wordsL i = ws at *
      have HWS := Lib.hid hws
      have HEX := Lib.hid (extTo_all i)
      rw [hws] at HEX
      clear hii hws
      go_wp2_with fail
      go_loopw [4, 6, 7, 14] (fun lv _ _ jv wr2 => ∃ (j : Nat) (ji : Int), ji = (j : Int) ∧ j ≤ ws.length ∧ jv = .int .i64 ji ∧ Own w [rowT 9 1 lv (extTo ws j 0).length (wsV (extTo ws j 0)), rowT 9 1 (.slice wa ws.length wc) ws.length (wsV ws)] wr2) (fun _ _ _ jv _ => ws.length - (intOf jv).toNat)
      case atStart => exact ⟨0, 0, rfl, Nat.zero_le _, rfl, by rw [show extTo ws 0 0 = [] from by simp [extTo]]; exact O2.out⟩
      case round =>
        obtain ⟨j, ji, hji, hjw, rfl, hO⟩ := hrel
        have HJI := Lib.hid hji
        have O3 := Lib.hid hO
        obtain ⟨la, lc, rfl⟩ := ownsRow_slice (hO.row 0 (by simp) rfl)
        have hq2 : IntKind.i64.wrap (ji + 1) = ji + 1 := IntWalk.i64_in _ (by omega)
        have hrw := HW.out _ (hO.row 1 (by simp) rfl)
        obtain ⟨gw, cw, e1, -, hcw⟩ := hrw
        simp only [Value.slice.injEq, true_and] at e1
        obtain ⟨rfl, rfl⟩ := e1
        clear hO O2
        by_cases hjl : j < ws.length
        · have hjlI : ji < (ws.length : Int) := by omega
          have hj0 : 0 ≤ ji := by omega
          have hjt : ji.toNat = j := by omega
          have c1 := hcw j hjl
          have HST := Lib.hid (fun l hl => extTo_next ws j l hjl hl)
          have HTH := Lib.hid (extTo_three ws j hjl)
          have HLE := Lib.hid (fun l hl => extTo_length ws j l (Nat.le_of_lt hjl) hl)
          have hwd : (txtOf ws[j]).size ≤ 6 := by
            have hm := (wordsL_mem i ws[j] (by rw [HWS.out]; exact List.getElem_mem hjl)).1
            rw [txtOf_size]; omega
          generalize ws[j] = wd at *
          clear hcw hji
          go_wp2_with fail
          clear c1
          go_loopw [4, 7, 18] (fun lv _ kv wr3 => ∃ (l : Nat) (li : Int), li = (l : Int) ∧ l ≤ 3 ∧ kv = .int .i64 li ∧ Own w [rowT 9 1 lv (extTo ws j l).length (wsV (extTo ws j l)), rowT 9 1 (.slice (some ⟨gw, 0, none⟩) ws.length wc) ws.length (wsV ws)] wr3) (fun _ _ kv _ => 3 - (intOf kv).toNat)
          case atStart => exact ⟨0, 0, rfl, by omega, rfl, O3.out⟩
          case round =>
            obtain ⟨l, li, hli, hl3, rfl, hO⟩ := hrel
            have HLI := Lib.hid hli
            have O4 := Lib.hid hO
            obtain ⟨la4, lc4, rfl⟩ := ownsRow_slice (hO.row 0 (by simp) rfl)
            have hq3 : IntKind.i64.wrap (li + 1) = li + 1 := IntWalk.i64_in _ (by omega)
            clear hO O3
            by_cases hll : l < 3
            · have hllI : li < 3 := by omega
              have hL := fun W => letts_run l li hll hli W
              have hl0 : 0 ≤ li := by omega
              have hTM := Lib.hid (txt_more wd (lettB l))
              have HS := Lib.hid (HST.out l hll)
              have hle := HLE.out l (by omega)
              have HMO := Lib.hid (wsV_more (extTo ws j l) (wd ++ [lettB l]))
              rw [← hTM.out] at HMO
              have hex : (extTo ws j l).length ≤ 3000 := by omega
              generalize hel : (extTo ws j l).length = el at *
              have HEL := Lib.hid hel
              have htl : (txtOf [lettB l]).size = 1 := by rw [txtOf_size]; rfl
              generalize txtOf [lettB l] = tl at *
              generalize txtOf wd = td at *
              clear hli hel
              go_wp2_with (at_builtin; refine wpList_append_lies _ rfl _ _ 93 rfl 0 9 u0 (.string ⟨#[]⟩) 1 16 Try.underlying93 HU.out.1 HU.out.2.1 HU.out.2.2.1 HU.out.2.2.2 rfl (by decide) (.slice la4 el lc4) el (wsV (extTo ws j l)) rfl ((O4.out.row 0 (by simp) rfl).alloc _) ⟨wr.heap.size, 0, none⟩ 1 1 [.string (td ++ tl)] rfl rfl (cellR _ _ _) (by simp [Value.oneCell']) (by omega) (by unfold maxLen; omega) (by omega) (Nat.zero_le _) _ rfl ?_; intro g9 cp w6 hown hgrow hat hlt3; have O5 := Lib.hid (O4.out.push (i := 0) (by simp) rfl hgrow hown hat); clear hown hgrow hat hlt3)
              go_roundw
              case rel => exact ⟨l + 1, li + 1, by have := HLI.out; omega, by omega, by first | rfl | rw [hq3], by rw [HS.out, HMO.out, List.length_append, HEL.out]; exact O5.out⟩
              case measure => simp [intOf]; have := HLI.out; omega
            · have hnl : ¬ li < 3 := by omega
              obtain rfl : l = 3 := by omega
              rw [HTH.out] at O4
              rw [HTH.out]
              clear hli
              go_wp2_with fail
              go_roundw
              case rel => exact ⟨j + 1, ji + 1, by have := HJI.out; omega, by omega, by first | rfl | rw [hq2], O4.out⟩
              case measure => simp [intOf]; have := HJI.out; omega
        · have hnl : ¬ ji < (ws.length : Int) := by omega
          obtain rfl : j = ws.length := by omega
          rw [HEX.out] at O3
          rw [HEX.out]
          have O5 := Lib.hid (O3.out.sub (us := [rowT 9 1 (.slice la (wordsL (i + 1)).length lc) (wordsL (i + 1)).length (wsV (wordsL (i + 1)))]) (by simp))
          clear hji hcw
          go_wp2_with fail
          go_roundw
          case rel => exact ⟨i + 1, ii + 1, by have := HII.out; omega, by omega, by first | rfl | rw [hq], O5.out⟩
          case measure => simp [intOf]; have := HII.out; omega
    · have hnlt : ¬ ii < n := by have := HN.out; omega
      obtain rfl : i = r := by omega
      have hpos := (wordsL_le i i (Nat.le_refl _) hr).1
      clear hii
      go_wp2_with fail
      go_ret
      exact ⟨_, rfl, WordRow.of (O1.out.row 0 (by simp) rfl) hpos, O1.out.keep⟩
end Go.Proofs.Ytjdeahdngpccpaa

namespace Go.Proofs.Ytjdeahdngpccpaa
open Go.RowKit

theorem cntOf_take (p : List UInt8 → Bool) (ws : List (List UInt8)) (k : Nat) (h : k < ws.length) : cntOf p (ws.take (k + 1)) = cntOf p (ws.take k) + if p ws[k] = true then 1 else 0 := by
  rw [List.take_succ_eq_append_getElem h, cntOf_append]
  simp [cntOf]

set_option maxHeartbeats 1600000 in
theorem neckClosure_any (m : M) (B : Nat) (i : Int) (l : List UInt8) (n : Nat) (nv ev : Value) (w : World) (hM : MachBox B m.st nv m.next ev m.ends w) (hk : m.ok = true) (hst : (Lit.int .i64 m.st).wf = true) (hl : l.length = n) (ha : allL l = true) (h1 : 1 ≤ n) (h6 : n ≤ 6) :
    Calls Try.prog 101 #[.int .i64 i, .string (txtOf l), .pointer (some ⟨B, 0, none⟩)] w fun e w' => e = .returned (.bool (neckB m l)) ∧ Below w.heap.size w w' := by
  obtain ⟨HLR, HRK⟩ := neck_is hk hl ha h1 h6
  have hszd : (txtOf l).size ≤ maxLen := by rw [txtOf_size]; unfold maxLen; omega
  have HC1 := Lib.hid (fun W => implLeastRoll_any (txtOf l) W hszd)
  have HC2 := Lib.hid (fun W a b => implRingOk_any m (txtOf l) nv ev W a b hst hszd)
  rw [HLR] at HC1
  rw [HRK] at HC2
  have hbq := txt_beq (leastR l) l
  have HN : Hid (neckB m l = (decide (leastR l = l) && decide (0 ≤ ringL m l))) := Lib.hid rfl
  have MM := Lib.hid hM
  clear hM hk HLR HRK hszd
  by_cases he : leastR l = l
  · rw [decide_eq_true he] at hbq HN
    rw [he] at HC1 hbq
    generalize decide (0 ≤ ringL m l) = g at *
    generalize txtOf l = dt at *
    clear he
    go_enter Try.func101, Try.ntmps101
    go_wp2_with (first | (go_at_call 51; refine (HC1.out _).mono ?_; rintro e w5 ⟨rfl, hb5⟩; have M5 := Lib.hid (MM.out.below hb5); have Q5 := Lib.hid hb5; clear hb5; have z10 := M5.out.c0; have z11 := M5.out.c1; have z12 := M5.out.c2) | (go_at_call 50; refine (HC2.out _ M5.out.ints M5.out.bools).mono ?_; rintro e w6 ⟨rfl, hb6⟩; have Q6 := Lib.hid (Q5.out.trans (hb6.mono Q5.out.size)); clear hb6))
    go_ret
    exact ⟨ret_bool (by rw [HN.out, Bool.true_and]), Q6.out⟩
  · rw [decide_eq_false he] at hbq HN
    generalize txtOf (leastR l) = dl at *
    generalize txtOf l = dt at *
    clear he
    go_enter Try.func101, Try.ntmps101
    go_wp2_with (go_at_call 51; refine (HC1.out _).mono ?_; rintro e w5 ⟨rfl, hb5⟩; have Q5 := Lib.hid hb5; clear hb5)
    go_ret
    exact ⟨ret_bool (by rw [HN.out, Bool.false_and]), Q5.out⟩

set_option maxHeartbeats 1600000 in
theorem countNeck_any (m : M) (B : Nat) (n : Nat) (v nv ev : Value) (w : World) (hM : MachBox B m.st nv m.next ev m.ends w) (hk : m.ok = true) (hst : (Lit.int .i64 m.st).wf = true) (h1 : 1 ≤ n) (h6 : n ≤ 6) (h : WordRow w v (wordsL n)) :
    Calls Try.prog 99 #[v, .func (.func 101) #[] #[.pointer (some ⟨B, 0, none⟩)]] w
      fun e w' => e = .returned (.int .i64 (cntOf (neckB m) (wordsL n))) ∧ Below w.heap.size w w' := by
  have HCL := Lib.hid (fun l (hl : l ∈ wordsL n) i W a => neckClosure_any m B i l n nv ev W a hk hst (wordsL_mem n l hl).1 (wordsL_mem n l hl).2 h1 h6)
  have HW := Lib.hid h
  have MM := Lib.hid hM
  have hle := (wordsL_le n n (Nat.le_refl _) h6).2
  obtain ⟨g, cap, rfl, -, -⟩ := h
  clear hM hk h1 h6
  generalize wordsL n = ws at *
  go_enter Try.func99, Try.ntmps99
  go_wp2_with fail
  go_loopw [5, 6, 7, 10] (fun c _ _ i wr => ∃ (k : Nat) (ki : Int), ki = (k : Int) ∧ k ≤ ws.length ∧ i = .int .i64 ki ∧ c = .int .i64 (cntOf (neckB m) (ws.take k)) ∧ Below w.heap.size w wr) (fun _ _ _ i _ => ws.length - (intOf i).toNat)
  case atStart => exact ⟨0, 0, rfl, Nat.zero_le _, rfl, rfl, Below.refl _ _⟩
  case round =>
    obtain ⟨k, ki, hki, hk, rfl, rfl, hb⟩ := hrel
    have HB := Lib.hid hb
    have HKI := Lib.hid hki
    have hbd := cntOf_bd (neckB m) (ws.take k)
    have hbl : (ws.take k).length ≤ 729 := by rw [List.length_take]; omega
    have hq : IntKind.i64.wrap (ki + 1) = ki + 1 := IntWalk.i64_in _ (by omega)
    clear hb
    by_cases hlt : k < ws.length
    · have hltI : ki < (ws.length : Int) := by omega
      have hk0 : 0 ≤ ki := by omega
      have hkt : ki.toNat = k := by omega
      obtain ⟨g', cap', e1, -, hc⟩ := HW.out.below HB.out
      simp only [Value.slice.injEq, Option.some.injEq, Addr.mk.injEq, and_true, true_and] at e1
      obtain ⟨rfl, rfl⟩ := e1
      have c1 := hc k hlt
      have HK := Lib.hid (fun W a => HCL.out ws[k] (List.getElem_mem hlt) ki W a)
      have HST := Lib.hid (cntOf_take (neckB m) ws k hlt)
      clear hc hki
      generalize hx : cntOf (neckB m) (ws.take k) = c at *
      clear hx
      cases hn : neckB m ws[k] with
      | true =>
        have HS := Lib.hid (HST.out.trans (by rw [hn]; rfl : _ = c + 1))
        rw [hn] at HK
        generalize ws[k] = wd at *
        clear hn
        have hq2 : IntKind.i64.wrap (c + 1) = c + 1 := IntWalk.i64_in _ (by omega)
        go_wp2_with (go_at_call 101; refine (HK.out _ (MM.out.below HB.out)).mono ?_; rintro e w5 ⟨rfl, hb5⟩; have Q5 := Lib.hid (HB.out.trans (hb5.mono HB.out.size)); clear hb5)
        go_roundw
        case rel => exact ⟨k + 1, ki + 1, by have := HKI.out; omega, by omega, by first | rfl | rw [hq], by rw [HS.out], Q5.out⟩
        case measure => simp [intOf]; have := HKI.out; omega
      | false =>
        have HS := Lib.hid (HST.out.trans (by rw [hn, if_neg (by decide)]; exact Int.add_zero _ : _ = c))
        rw [hn] at HK
        generalize ws[k] = wd at *
        clear hn
        go_wp2_with (go_at_call 101; refine (HK.out _ (MM.out.below HB.out)).mono ?_; rintro e w5 ⟨rfl, hb5⟩; have Q5 := Lib.hid (HB.out.trans (hb5.mono HB.out.size)); clear hb5)
        go_roundw
        case rel => exact ⟨k + 1, ki + 1, by have := HKI.out; omega, by omega, by first | rfl | rw [hq], by rw [HS.out], Q5.out⟩
        case measure => simp [intOf]; have := HKI.out; omega
    · have hnlt : ¬ ki < (ws.length : Int) := by omega
      obtain rfl : k = ws.length := by omega
      have HE := Lib.hid (congrArg (cntOf (neckB m)) (List.take_length (l := ws)))
      generalize cntOf (neckB m) (ws.take ws.length) = c at *
      clear hki
      go_wp2_with fail
      go_ret
      exact ⟨ret_int HE.out, HB.out⟩

theorem countNecks_list {m : M} {r : Nat} (h : m.ok = true) (g : ringNum (r : Int) = true) : countNecks m (r : Int) = cntOf (neckB m) (wordsL r) := by
  rw [countNecks, h, g]; rfl

set_option maxHeartbeats 1600000 in
theorem implCountNecklaces_any (m : M) (n : Int) (nv ev : Value) (w : World) (h1 : IsInts w nv m.next) (h2 : IsBools w ev m.ends) (hst : (Lit.int .i64 m.st).wf = true) :
    Calls Try.prog 48 #[.agg #[.int .i64 m.st, nv, ev], .int .i64 n] w fun e w' => e = .returned (.int .i64 (countNecks m n)) ∧ Below w.heap.size w w' := by
  have M0 := Lib.hid (MachBox.new (st := m.st) 26 h1 h2)
  have q0 : Hid (Below w.heap.size w (w.alloc (.cells #[.int .i64 m.st, nv, ev] 26))) := Lib.hid ((Below.refl _ _).alloc (Nat.le_refl _) _)
  have HIN := Lib.hid (fun W => ringLettersOk_any n W)
  clear h1 h2
  go_enter Try.func48, Try.ntmps48
  go_wp2_with fail
  refine (implMachineOk_any m nv ev _ M0.out.ints M0.out.bools hst).mono ?_
  rintro e w1 ⟨rfl, hb1⟩
  have M1 := Lib.hid (M0.out.below hb1)
  have q1 := Lib.hid (q0.out.trans (hb1.mono q0.out.size))
  clear hb1 M0
  by_cases hk : m.ok = true
  · rw [hk]
    by_cases hr : ringNum n = true
    · obtain ⟨r0, hr0, hr5⟩ := ringNum_nat hr
      obtain ⟨r, hrn⟩ : ∃ r : Nat, n = (r : Int) := ⟨n.toNat, by omega⟩
      have HE := Lib.hid (show countNecks m n = cntOf (neckB m) (wordsL r) by rw [hrn]; exact countNecks_list hk (by rw [← hrn]; exact hr))
      have HW := Lib.hid (fun W => implWords_any n r W hrn (by omega))
      have HC := Lib.hid (fun v W a b => countNeck_any m w.heap.size r v nv ev W a hk hst (by omega) (by omega) b)
      rw [hr] at HIN
      clear hk hr hr0 hr5 hrn
      go_wp2_with (go_at_call 92; refine (HIN.out _).mono ?_; rintro e w2 ⟨rfl, rfl⟩)
      refine (HW.out _).mono ?_
      rintro e w3 ⟨v, rfl, hrow, hb3⟩
      have HROW := Lib.hid hrow
      obtain ⟨g, cap, rfl, -, -⟩ := hrow
      have M3 := Lib.hid (M1.out.below hb3)
      have q3 := Lib.hid (q1.out.trans (hb3.mono q1.out.size))
      clear hb3
      go_wp2_with fail
      refine (HC.out _ _ M3.out HROW.out).mono ?_
      rintro e w4 ⟨rfl, hb4⟩
      go_wp2_with fail
      go_ret
      exact ⟨ret_int HE.out.symm, q3.out.trans (hb4.mono q3.out.size)⟩
    · have hrf : ringNum n = false := by simpa using hr
      have HE := Lib.hid (countNecks_no (m := m) (n := n) (by rw [hrf, Bool.and_false]))
      rw [hrf] at HIN
      clear hk hr hrf
      go_wp2_with (go_at_call 92; refine (HIN.out _).mono ?_; rintro e w2 ⟨rfl, rfl⟩)
      go_ret
      exact ⟨ret_int HE.out.symm, q1.out⟩
  · have hkf : m.ok = false := by simpa using hk
    have HE := Lib.hid (countNecks_no (m := m) (n := n) (by rw [hkf, Bool.false_and]))
    rw [hkf]
    clear hk hkf
    go_wp2_with fail
    go_ret
    exact ⟨ret_int HE.out.symm, q1.out⟩
end Go.Proofs.Ytjdeahdngpccpaa

namespace Go.Proofs.Ytjdeahdngpccpaa

/-- each word has one least roll among the words -/
def fibA (L : Nat) : Bool := (wordsL L).all fun w => decide (cntOf (fun l => decide (leastR w = l)) (wordsL L) = 1)
/-- a least roll is that of as many words as it has rolls, another word of none -/
def fibB (L : Nat) : Bool := (wordsL L).all fun l => decide (cntOf (fun w => decide (leastR w = l)) (wordsL L) = if leastR l = l then (per l : Int) else 0)
theorem fib_all : ∀ L, 1 ≤ L → L ≤ 4 → fibA L = true ∧ fibB L = true := by
  have h1 : fibA 1 = true ∧ fibB 1 = true := by decide +kernel
  have h2 : fibA 2 = true ∧ fibB 2 = true := by decide +kernel
  have h3 : fibA 3 = true ∧ fibB 3 = true := by decide +kernel
  have h4 : fibA 4 = true ∧ fibB 4 = true := by decide +kernel
  intro L a b
  obtain rfl | rfl | rfl | rfl : L = 1 ∨ L = 2 ∨ L = 3 ∨ L = 4 := by omega
  · exact h1
  · exact h2
  · exact h3
  · exact h4
theorem sumW_swap (f : List UInt8 → List UInt8 → Int) (us vs : List (List UInt8)) : sumW (fun a => sumW (f a) vs) us = sumW (fun b => sumW (fun a => f a b) us) vs := by
  induction us with
  | nil =>
    simp only [sumW]
    induction vs with
    | nil => rfl
    | cons b vs ih => rw [sumW, ← ih]; rfl
  | cons a us ih => simp only [sumW, ih, sumW_add]
/-- over the least rolls, each times its rolls -/
theorem sum_least (L : Nat) (h1 : 1 ≤ L) (h4 : L ≤ 4) (g : List UInt8 → Int) : sumW (fun w => g (leastR w)) (wordsL L) = sumW (fun l => if leastR l = l then g l * per l else 0) (wordsL L) := by
  obtain ⟨ha, hb⟩ := fib_all L h1 h4
  have HA : ∀ w ∈ wordsL L, cntOf (fun l => decide (leastR w = l)) (wordsL L) = 1 := fun w hw => by simpa using List.all_eq_true.1 ha w hw
  have HB : ∀ l ∈ wordsL L, cntOf (fun w => decide (leastR w = l)) (wordsL L) = if leastR l = l then (per l : Int) else 0 := fun l hl => by simpa using List.all_eq_true.1 hb l hl
  have e1 : sumW (fun w => g (leastR w)) (wordsL L) = sumW (fun w => sumW (fun l => (if decide (leastR w = l) = true then 1 else 0) * g l) (wordsL L)) (wordsL L) := by
    refine sumW_congr fun w hw => ?_
    have e2 : sumW (fun l => (if decide (leastR w = l) = true then 1 else 0) * g l) (wordsL L) = sumW (fun l => (if decide (leastR w = l) = true then 1 else 0) * g (leastR w)) (wordsL L) := by
      refine sumW_congr fun l _ => ?_
      by_cases h : leastR w = l
      · rw [h]
      · simp [h]
    rw [e2, sumW_mul, ← cntOf_sum, HA w hw, Int.one_mul]
  rw [e1, sumW_swap]
  refine sumW_congr fun l hl => ?_
  rw [sumW_mul, ← cntOf_sum, HB l hl]
  split
  · exact Int.mul_comm _ _
  · exact Int.zero_mul _
/-- the rolls of all necklaces together are the rings -/
theorem necks_rings {m : M} (hm : m.ok = true) (L : Nat) (h1 : 1 ≤ L) (h4 : L ≤ 4) : sumW (fun l => if neckB m l = true then (per l : Int) else 0) (wordsL L) = cntOf (fun w => decide (0 ≤ ringL m w)) (wordsL L) := by
  rw [cntOf_sum]
  have e : sumW (fun w => if decide (0 ≤ ringL m w) = true then (1 : Int) else 0) (wordsL L) = sumW (fun w => (fun l => if 0 ≤ ringL m l then (1 : Int) else 0) (leastR w)) (wordsL L) := by
    refine sumW_congr fun w hw => ?_
    obtain ⟨j, _, hj⟩ := leastR_is w
    have := ringL_roll_iff hm w (wordsL_mem L w hw).2 j
    simp only [hj, this, decide_eq_true_eq]
  rw [e, sum_least L h1 h4 (fun l => if 0 ≤ ringL m l then (1 : Int) else 0)]
  refine sumW_congr fun l _ => ?_
  simp only [neckB, Bool.and_eq_true, decide_eq_true_eq]
  by_cases h : leastR l = l
  · by_cases g : 0 ≤ ringL m l <;> simp [h, g]
  · simp [h]
/-- of the first so many words: the rings, the necklaces, their rolls -/
def ringsTo (m : M) (L way : Nat) : Int := cntTo (fun v => decide (0 ≤ ringL m (digits L v))) way
def necksTo (m : M) (L way : Nat) : Int := cntTo (fun v => neckB m (digits L v)) way
def rollsTo (m : M) (L way : Nat) : Int := sumN (fun v => if neckB m (digits L v) = true then (per (digits L v) : Int) else 0) way
theorem sumN_words (k : Nat) (f : List UInt8 → Int) : sumN (fun way => f (digits k way)) (3 ^ k) = sumW f (wordsL k) := by
  have part : ∀ (f : Nat → Int) (a b : Nat), sumN f (a + b) = sumN f a + sumN (fun i => f (a + i)) b := by
    intro f a b
    induction b with
    | zero => simp [sumN]
    | succ b ih => rw [← Nat.add_assoc, sumN, sumN, ih, Int.add_assoc]
  have flat : ∀ (f : List UInt8 → Int) (us : List (List UInt8)), sumW f (us.flatMap fun w => [w ++ [114], w ++ [100], w ++ [110]]) = sumW (fun w => f (w ++ [114])) us + sumW (fun w => f (w ++ [100])) us + sumW (fun w => f (w ++ [110])) us := by
    intro f us
    induction us with
    | nil => rfl
    | cons a us ih =>
      rw [List.flatMap_cons]
      simp only [List.cons_append, List.nil_append, sumW, ih]
      omega
  induction k generalizing f with
  | zero => simp [sumN, sumW, wordsL, digits]
  | succ k ih =>
    have one : ∀ (t : Nat) (c : UInt8), t < 3 → (if t = 0 then (114 : UInt8) else if t = 1 then 100 else 110) = c → sumN (fun way => f (digits (k + 1) (3 ^ k * t + way))) (3 ^ k) = sumW (fun w => f (w ++ [c])) (wordsL k) := by
      intro t c ht hc
      rw [← ih (fun w => f (w ++ [c]))]
      exact sumN_congr (fun i hi => by simp only [digits_split k i t hi ht, hc])
    have g0 := one 0 114 (by omega) rfl
    have g1 := one 1 100 (by omega) rfl
    have g2 := one 2 110 (by omega) rfl
    have hw : wordsL (k + 1) = (wordsL k).flatMap fun w => [w ++ [114], w ++ [100], w ++ [110]] := rfl
    rw [show 3 ^ (k + 1) = 3 ^ k + 3 ^ k + 3 ^ k by rw [Nat.pow_succ]; omega, part, part, hw, flat, ← g0, ← g1, ← g2]
    simp only [Nat.mul_zero, Nat.zero_add, Nat.mul_one]
    congr 1
    exact sumN_congr (fun i _ => by rw [show 3 ^ k * 2 = 3 ^ k + 3 ^ k by omega])
theorem rolls_rings {m : M} (hm : m.ok = true) (L : Nat) (h1 : 1 ≤ L) (h4 : L ≤ 4) : rollsTo m L (3 ^ L) = ringsTo m L (3 ^ L) := by
  unfold rollsTo ringsTo
  rw [sumN_words L (fun w => if neckB m w = true then (per w : Int) else 0), words_count L (fun w => decide (0 ≤ ringL m w)), necks_rings hm L h1 h4]
theorem necksTo_all (m : M) (L : Nat) : necksTo m L (3 ^ L) = cntOf (neckB m) (wordsL L) := words_count L (neckB m)
end Go.Proofs.Ytjdeahdngpccpaa

namespace Go.Proofs.Ytjdeahdngpccpaa
open Go.RowKit

theorem rollsTo_succ (m : M) (L v : Nat) : rollsTo m L (v + 1) = rollsTo m L v + if neckB m (digits L v) = true then (per (digits L v) : Int) else 0 := rfl
theorem neck_parts (m : M) (L v : Nat) (hv : v ≤ 729) (h1 : 1 ≤ L) (hL : L ≤ 6) : (0 ≤ ringsTo m L v ∧ ringsTo m L v ≤ 729) ∧ (0 ≤ necksTo m L v ∧ necksTo m L v ≤ 729) ∧ (0 ≤ rollsTo m L v ∧ rollsTo m L v ≤ 4374) := by
  have e1 := cntTo_bd (fun v => decide (0 ≤ ringL m (digits L v))) v
  have e2 := cntTo_bd (fun v => neckB m (digits L v)) v
  have e3 := sumN_bd (fun v => if neckB m (digits L v) = true then (per (digits L v) : Int) else 0) 6 v (fun i _ => by
    have := per_le (digits L i)
    rw [digits_length] at this
    show 0 ≤ (if neckB m (digits L i) = true then (per (digits L i) : Int) else 0) ∧ (if neckB m (digits L i) = true then (per (digits L i) : Int) else 0) ≤ 6
    split <;> omega)
  have f1 : ringsTo m L v = cntTo (fun v => decide (0 ≤ ringL m (digits L v))) v := rfl
  have f2 : necksTo m L v = cntTo (fun v => neckB m (digits L v)) v := rfl
  have f3 : rollsTo m L v = sumN (fun v => if neckB m (digits L v) = true then (per (digits L v) : Int) else 0) v := rfl
  omega
theorem neck_no (m : M) (L v : Nat) (h : ¬ 0 ≤ ringL m (digits L v)) : ringsTo m L (v + 1) = ringsTo m L v ∧ necksTo m L (v + 1) = necksTo m L v ∧ rollsTo m L (v + 1) = rollsTo m L v := by
  have hn : neckB m (digits L v) = false := by rw [neckB, decide_eq_false h, Bool.and_false]
  refine ⟨cntTo_no _ v (decide_eq_false h), cntTo_no _ v hn, ?_⟩
  rw [rollsTo_succ, hn]; simp
theorem neck_ring (m : M) (L v : Nat) (h : 0 ≤ ringL m (digits L v)) (g : leastR (digits L v) ≠ digits L v) : ringsTo m L (v + 1) = ringsTo m L v + 1 ∧ necksTo m L (v + 1) = necksTo m L v ∧ rollsTo m L (v + 1) = rollsTo m L v := by
  have hn : neckB m (digits L v) = false := by rw [neckB, decide_eq_false g, Bool.false_and]
  refine ⟨cntTo_yes _ v (decide_eq_true h), cntTo_no _ v hn, ?_⟩
  rw [rollsTo_succ, hn]; simp
theorem neck_both (m : M) (L v : Nat) (h : 0 ≤ ringL m (digits L v)) (g : leastR (digits L v) = digits L v) : ringsTo m L (v + 1) = ringsTo m L v + 1 ∧ necksTo m L (v + 1) = necksTo m L v + 1 ∧ rollsTo m L (v + 1) = rollsTo m L v + per (digits L v) := by
  have hn : neckB m (digits L v) = true := by rw [neckB, decide_eq_true h, decide_eq_true g]; rfl
  refine ⟨cntTo_yes _ v (decide_eq_true h), cntTo_yes _ v hn, ?_⟩
  rw [rollsTo_succ, hn]; simp

set_option maxHeartbeats 4000000 in
theorem lawCountNecklaces_walk {w : World} (a : Option Addr) (len cap : Nat) (zs : List Int) (h : IsRow .u8 w a len cap zs) :
    Calls Try.prog 11 #[.slice a len cap] w fun e w' => e = .returned (.bool true) ∧ Below w.heap.size w w' := by
  have HD := Lib.hid (drawCountNecklaces_any a len cap zs w h)
  have hl := rowG_len h
  clear h
  by_cases hbig : 1048576 < len
  · go_enter Try.func11, Try.ntmps11
    go_wp2_with fail
    go_ret
    exact ⟨rfl, Below.refl _ _⟩
  · go_enter Try.func11, Try.ntmps11
    go_wp2_with fail
    refine HD.out.mono ?_
    clear HD
    rintro e w1 ⟨m, a1, a2, c1, c2, n, rfl, hm, hn0, hn10, hi, hb, hB⟩
    have HST := Lib.hid hm.1
    have M0 := Lib.hid (MachBox.new (st := m.st) 26 hi hb)
    have B0 := Lib.hid (hB.alloc hB.size (.cells #[.int .i64 m.st, .slice a1 m.next.length c1, .slice a2 m.ends.length c2] 26))
    clear hi hb hB hm
    go_wp2_with fail
    generalize (w1.alloc (.cells #[.int .i64 m.st, .slice a1 m.next.length c1, .slice a2 m.ends.length c2] 26)) = W1 at *
    generalize w1.heap.size = b at *
    refine (implCountNecklaces_any m n _ _ _ M0.out.ints M0.out.bools HST.out).mono ?_
    rintro e w2 ⟨rfl, hb2⟩
    have M2 := Lib.hid (M0.out.below hb2)
    have B2 := Lib.hid (B0.out.trans (hb2.mono B0.out.size))
    have z0 := M2.out.c0
    have z1 := M2.out.c1
    have z2 := M2.out.c2
    clear hb2 M0 B0
    go_wp2_with fail
    refine (specCountNecklaces_any m n _ _ _ M2.out.ints M2.out.bools HST.out).mono ?_
    rintro e w3 ⟨rfl, hb3⟩
    have M3 := Lib.hid (M2.out.below hb3)
    have B3 := Lib.hid (B2.out.trans (hb3.mono B2.out.size))
    clear hb3 M2 B2 z0 z1 z2
    by_cases hg : (m.ok && ringNum n) = true
    · obtain ⟨hk, hr⟩ : m.ok = true ∧ ringNum n = true := by simpa using hg
      obtain ⟨r, hrn, hr5⟩ := ringNum_nat hr
      have hsh := M.ok_shape hk
      have HOK := Lib.hid hk
      have hn48 : m.ends.length ≤ 48 := by omega
      have hm1 : 1 ≤ m.ends.length := by omega
      obtain ⟨L, hL⟩ : ∃ L, r + 1 = L := ⟨_, rfl⟩
      have HN : Hid (n = (L : Int)) := Lib.hid (by omega)
      have hL1 : 1 ≤ L := by omega
      have hL6 : L ≤ 6 := by omega
      have HZ : Hid (countNecks m n = necksTo m L (3 ^ L)) := Lib.hid (by
        rw [HN.out]; exact countNecks_yes hk (by rw [← HN.out]; exact hr))
      have HY : Hid (countNecks m n ≤ countWalks m n) := Lib.hid (by
        have h1 := necks_walks hk r
        rw [hL, ← necksTo_all, ← HZ.out] at h1
        have h2 : countWalks m n = m.backs r := by rw [hrn, countWalks_yes hk (by rw [← hrn]; exact hr)]; rfl
        rw [h2]; exact h1)
      have hz0 : 0 ≤ countNecks m n := by rw [HZ.out]; exact (neck_parts m L _ (pow3_le L L (Nat.le_refl _) hL6).2.2 hL1 hL6).2.1.1
      have hz1 : ¬ countNecks m n < 0 := by omega
      have HBP := Lib.hid (fun v hv => neck_parts m L v hv hL1 hL6)
      have HRR : Hid (L ≤ 4 → rollsTo m L (3 ^ L) = ringsTo m L (3 ^ L)) := Lib.hid (fun h => rolls_rings hk L hL1 h)
      have HW := Lib.hid (fun W h1 h2 => implCountWalks_any m n (.slice a1 m.next.length c1) (.slice a2 m.ends.length c2) W h1 h2 HST.out)
      have HP := Lib.hid (fun k hk => pow3_le L k hk hL6)
      have hP := Lib.hid (pow3_le L L (Nat.le_refl _) hL6)
      generalize hP3 : 3 ^ L = P3 at *
      have HP3 := Lib.hid hP3
      generalize countNecks m n = z at *
      generalize countWalks m n = y at *
      clear hg hk hr hrn hr5 hL hP3 hsh
      have z0 := M3.out.c0
      have z1 := M3.out.c1
      have z2 := M3.out.c2
      have hdz : decide (z ≤ y) = true := decide_eq_true HY.out
      by_cases h4 : 4 < n
      · go_wp2_with fail
        refine (HW.out _ M3.out.ints M3.out.bools).mono ?_
        rintro e w4 ⟨rfl, hb4⟩
        have Q4 := Lib.hid (B3.out.trans (hb4.mono B3.out.size))
        clear hb4
        go_wp2_with fail
        go_ret
        exact ⟨by first | exact ret_bool hdz | rfl, Q4.out⟩
      · have HR4 := Lib.hid (HRR.out (by have := HN.out; omega))
        go_wp2_with fail
        clear z0 z1 z2
        go_loopw [6, 7] (fun av kv wr => ∃ (k : Nat) (ki ai : Int), ki = (k : Int) ∧ k ≤ L ∧ kv = .int .i64 ki ∧ av = .int .i64 ai ∧ ai = ((3 ^ k : Nat) : Int) ∧ wr = w3) (fun _ kv _ => 7 - (intOf kv).toNat)
        case atStart => exact ⟨0, 0, 1, rfl, Nat.zero_le _, rfl, rfl, rfl, rfl⟩
        case round =>
          obtain ⟨k, ki, ai, hki, hkr, rfl, rfl, hai, rfl⟩ := hrel
          have HKI := Lib.hid hki
          have HAI := Lib.hid hai
          have hn := HN.out
          have hp := HP.out k hkr
          have ha0 : 0 ≤ ai := by omega
          have ha1 : ai ≤ 729 := by omega
          have hq : IntKind.i64.wrap (ki + 1) = ki + 1 := IntWalk.i64_in _ (by omega)
          have hq2 : IntKind.i64.wrap (ai * 3) = ai * 3 := IntWalk.i64_in _ (by omega)
          clear hai hp
          by_cases hlt : k < L
          · have hltI : ki < n := by omega
            clear hki hn
            go_wp2_with fail
            go_roundw
            case rel => exact ⟨k + 1, ki + 1, ai * 3, by have := HKI.out; omega, by omega, by first | rfl | rw [hq], by first | rfl | rw [hq2], by rw [HAI.out, Nat.pow_succ]; omega, by first | rfl | trivial⟩
            case measure => simp [intOf]; have := HKI.out; omega
          · have hnlt : ¬ ki < n := by omega
            have hkr2 : k = L := by omega
            have HAP : Hid (ai = (P3 : Int)) := Lib.hid (by rw [HAI.out, hkr2, HP3.out])
            clear hki hn
            go_wp2_with fail
            go_loopw [8, 9, 10, 11, 12, 13, 14] (fun gv rv cv wv _ _ _ wr => ∃ (t : Nat) (ti : Int), ti = (t : Int) ∧ t ≤ P3 ∧ wv = .int .i64 ti ∧ gv = .int .i64 (ringsTo m L t) ∧ rv = .int .i64 (rollsTo m L t) ∧ cv = .int .i64 (necksTo m L t) ∧ MachBox b m.st (.slice a1 m.next.length c1) m.next (.slice a2 m.ends.length c2) m.ends wr ∧ Below w.heap.size w wr) (fun _ _ _ wv _ _ _ _ => P3 - (intOf wv).toNat)
            case atStart => exact ⟨0, 0, rfl, Nat.zero_le _, rfl, rfl, rfl, rfl, M3.out, B3.out⟩
            case round =>
              obtain ⟨t, ti, hti, htP, rfl, rfl, rfl, rfl, hX, hQ⟩ := hrel
              have MK := Lib.hid hX
              have QK := Lib.hid hQ
              have HTI := Lib.hid hti
              have hap := HAP.out
              have hPm := hP.out.2.2
              have hq3 : IntKind.i64.wrap (ti + 1) = ti + 1 := IntWalk.i64_in _ (by omega)
              clear hX hQ
              by_cases htl : t < P3
              · have htlI : ti < ai := by omega
                clear hti hap
                go_wp2_with fail
                go_loopw [12, 13, 14] (fun sv lv jv wr2 => ∃ (j : Nat) (ji li : Int), ji = (j : Int) ∧ j ≤ L ∧ jv = .int .i64 ji ∧ sv = .string (txtOf (digits j t)) ∧ lv = .int .i64 li ∧ li = ((t / 3 ^ j : Nat) : Int) ∧ MachBox b m.st (.slice a1 m.next.length c1) m.next (.slice a2 m.ends.length c2) m.ends wr2 ∧ Below w.heap.size w wr2) (fun _ _ jv _ => 7 - (intOf jv).toNat)
                case atStart => exact ⟨0, 0, ti, rfl, Nat.zero_le _, rfl, rfl, rfl, by rw [HTI.out, Nat.pow_zero, Nat.div_one], MK.out, QK.out⟩
                case round =>
                  obtain ⟨j, ji, li, hji, hjr, rfl, rfl, rfl, hli, hX, hQ⟩ := hrel
                  have ML := Lib.hid hX
                  have QL := Lib.hid hQ
                  have HJI := Lib.hid hji
                  have HLI := Lib.hid hli
                  have hlt3 : t / 3 ^ j ≤ t := Nat.div_le_self _ _
                  have hq4 : IntKind.i64.wrap (ji + 1) = ji + 1 := IntWalk.i64_in _ (by omega)
                  have hl0 : 0 ≤ li := by rw [hli]; exact Int.natCast_nonneg _
                  have hl1 : li ≤ 729 := by rw [hli]; exact Int.le_trans (Int.ofNat_le.2 (show t / 3 ^ j ≤ 729 from Nat.le_trans hlt3 (by omega))) (by decide)
                  clear hX hQ
                  by_cases hjl : j < L
                  · have hjlI : ji < n := by have := HN.out; omega
                    have hdl : t / 3 ^ j % 3 < 3 := Nat.mod_lt _ (by omega)
                    generalize hdi : ((t / 3 ^ j % 3 : Nat) : Int) = di at *
                    have hmod1 : li.tmod 3 = di := by rw [hli, ← hdi]; rfl
                    have hmod2 : li % 3 = di := by omega
                    have hdiv1 : li.tdiv 3 = ((t / 3 ^ (j + 1) : Nat) : Int) := by rw [hli, ← digit_div]; rfl
                    have hdiv2 : li / 3 = ((t / 3 ^ (j + 1) : Nat) : Int) := by rw [hli, ← digit_div]; rfl
                    have hL := fun W => letts_run (t / 3 ^ j % 3) di hdl hdi.symm W
                    have hd0 : 0 ≤ di := by omega
                    have hd2 : di ≤ 2 := by omega
                    have hq5 : IntKind.i64.wrap (di + 1) = di + 1 := IntWalk.i64_in _ (by omega)
                    have hle2 : t / 3 ^ (j + 1) ≤ t := Nat.div_le_self _ _
                    have HTM := Lib.hid (txt_more (digits j t) (lettB (t / 3 ^ j % 3)))
                    rw [← digits_lett] at HTM
                    have hszd : (txtOf (digits j t)).size ≤ 6 := by rw [txtOf_size, digits_length]; omega
                    have hszl : (txtOf [lettB (t / 3 ^ j % 3)]).size = 1 := by rw [txtOf_size]; rfl
                    generalize hl2 : ((t / 3 ^ (j + 1) : Nat) : Int) = l2 at *
                    have HL2 := Lib.hid hl2
                    have hl20 : 0 ≤ l2 := by rw [← hl2]; exact Int.natCast_nonneg _
                    have hl21 : l2 ≤ 729 := by rw [← hl2]; exact Int.le_trans (Int.ofNat_le.2 (show t / 3 ^ (j + 1) ≤ 729 from Nat.le_trans hle2 (by omega))) (by decide)
                    generalize lettB (t / 3 ^ j % 3) = lb at *
                    clear hli hji hdi hdl hl2
                    generalize hdn : txtOf (digits (j + 1) t) = dn at *
                    have HDN := Lib.hid hdn
                    clear hdn
                    generalize txtOf (digits j t) = dt at *
                    go_wp2_with fail
                    go_roundw
                    case rel => exact ⟨j + 1, ji + 1, l2, by have := HJI.out; omega, by omega, by first | rfl | rw [hq4], by first | rfl | rw [HDN.out, HTM.out] | rw [HTM.out], by first | rfl | trivial, HL2.out.symm, ML.out, QL.out⟩
                    case measure => simp [intOf]; have := HJI.out; omega
                  · have hjr2 : j = L := by omega
                    have hjnl : ¬ ji < n := by have := HN.out; omega
                    subst hjr2
                    obtain ⟨HLR, HRK⟩ := neck_is HOK.out (digits_length j t) (digits_all j t) hL1 hL6
                    have hwd := txt_word (digits_length j t) (digits_all j t) hL6
                    have hszd : (txtOf (digits j t)).size ≤ maxLen := by rw [txtOf_size, digits_length]; unfold maxLen; omega
                    have HC1 := Lib.hid (fun W => implLeastRoll_any (txtOf (digits j t)) W hszd)
                    have HC2 := Lib.hid (fun W h1 h2 => implRingOk_any m (txtOf (digits j t)) (.slice a1 m.next.length c1) (.slice a2 m.ends.length c2) W h1 h2 HST.out hszd)
                    have HC3 := Lib.hid (fun W => implRollsOf_any (txtOf (digits j t)) W hszd)
                    rw [HLR] at HC1
                    rw [HRK] at HC2
                    rw [rollsOf_yes hwd, txtOf_list] at HC3
                    have hbq := txt_beq (leastR (digits j t)) (digits j t)
                    have y0 := ML.out.c0
                    have y1 := ML.out.c1
                    have y2 := ML.out.c2
                    obtain ⟨⟨b1, b2⟩, ⟨b3, b4⟩, b5, b6⟩ := HBP.out t (by omega)
                    have hpl := per_le (digits j t)
                    rw [digits_length] at hpl
                    clear hji hli HLR HRK hszd hwd
                    by_cases hg : 0 ≤ ringL m (digits j t)
                    · rw [decide_eq_true hg] at HC2
                      by_cases he : leastR (digits j t) = digits j t
                      · have HS := Lib.hid (neck_both m j t hg he)
                        rw [decide_eq_true he] at hbq
                        rw [he] at HC1 hbq
                        generalize hpi : (per (digits j t) : Int) = pi at *
                        have hpi0 : 0 ≤ pi := by omega
                        have hpi6 : pi ≤ 6 := by omega
                        generalize txtOf (digits j t) = dt at *
                        generalize ringsTo m j t = gn at *
                        generalize necksTo m j t = cn at *
                        generalize rollsTo m j t = rn at *
                        have hq6 : IntKind.i64.wrap (cn + 1) = cn + 1 := IntWalk.i64_in _ (by omega)
                        have hq7 : IntKind.i64.wrap (gn + 1) = gn + 1 := IntWalk.i64_in _ (by omega)
                        have hq8 : IntKind.i64.wrap (rn + pi) = rn + pi := IntWalk.i64_in _ (by omega)
                        clear hg he hpi hpl b1 b2 b3 b4 b5 b6
                        go_wp2_with fail
                        refine (HC2.out _ ML.out.ints ML.out.bools).mono ?_
                        rintro e w5 ⟨rfl, hb5⟩
                        have M5 := Lib.hid (ML.out.below hb5)
                        have Q5 := Lib.hid (QL.out.trans (hb5.mono QL.out.size))
                        clear hb5
                        go_wp2_with fail
                        refine (HC1.out _).mono ?_
                        rintro e w6 ⟨rfl, hb6⟩
                        have M6 := Lib.hid (M5.out.below hb6)
                        have Q6 := Lib.hid (Q5.out.trans (hb6.mono Q5.out.size))
                        clear hb6
                        go_wp2_with fail
                        refine (HC3.out _).mono ?_
                        rintro e w7 ⟨rfl, hb7⟩
                        have M7 := Lib.hid (M6.out.below hb7)
                        have Q7 := Lib.hid (Q6.out.trans (hb7.mono Q6.out.size))
                        clear hb7
                        go_wp2_with fail
                        go_roundw
                        case rel => exact ⟨t + 1, ti + 1, by have := HTI.out; omega, by omega, by first | rfl | rw [hq3], by rw [HS.out.1], by rw [HS.out.2.2], by rw [HS.out.2.1], M7.out, Q7.out⟩
                        case measure => simp [intOf]; have := HTI.out; omega
                      · have HS := Lib.hid (neck_ring m j t hg he)
                        rw [decide_eq_false he] at hbq
                        generalize txtOf (leastR (digits j t)) = dl at *
                        generalize txtOf (digits j t) = dt at *
                        generalize ringsTo m j t = gn at *
                        generalize necksTo m j t = cn at *
                        generalize rollsTo m j t = rn at *
                        have hq7 : IntKind.i64.wrap (gn + 1) = gn + 1 := IntWalk.i64_in _ (by omega)
                        clear hg he hpl b1 b2 b3 b4 b5 b6
                        go_wp2_with fail
                        refine (HC2.out _ ML.out.ints ML.out.bools).mono ?_
                        rintro e w5 ⟨rfl, hb5⟩
                        have M5 := Lib.hid (ML.out.below hb5)
                        have Q5 := Lib.hid (QL.out.trans (hb5.mono QL.out.size))
                        clear hb5
                        go_wp2_with fail
                        refine (HC1.out _).mono ?_
                        rintro e w6 ⟨rfl, hb6⟩
                        have M6 := Lib.hid (M5.out.below hb6)
                        have Q6 := Lib.hid (Q5.out.trans (hb6.mono Q5.out.size))
                        clear hb6
                        go_wp2_with fail
                        go_roundw
                        case rel => exact ⟨t + 1, ti + 1, by have := HTI.out; omega, by omega, by first | rfl | rw [hq3], by rw [HS.out.1], by rw [HS.out.2.2], by rw [HS.out.2.1], M6.out, Q6.out⟩
                        case measure => simp [intOf]; have := HTI.out; omega
                    · have HS := Lib.hid (neck_no m j t hg)
                      rw [decide_eq_false hg] at HC2
                      generalize txtOf (digits j t) = dt at *
                      generalize ringsTo m j t = gn at *
                      generalize necksTo m j t = cn at *
                      generalize rollsTo m j t = rn at *
                      clear hg hpl b1 b2 b3 b4 b5 b6
                      go_wp2_with fail
                      refine (HC2.out _ ML.out.ints ML.out.bools).mono ?_
                      rintro e w5 ⟨rfl, hb5⟩
                      have M5 := Lib.hid (ML.out.below hb5)
                      have Q5 := Lib.hid (QL.out.trans (hb5.mono QL.out.size))
                      clear hb5
                      go_wp2_with fail
                      go_roundw
                      case rel => exact ⟨t + 1, ti + 1, by have := HTI.out; omega, by omega, by first | rfl | rw [hq3], by rw [HS.out.1], by rw [HS.out.2.2], by rw [HS.out.2.1], M5.out, Q5.out⟩
                      case measure => simp [intOf]; have := HTI.out; omega
              · have htnl : ¬ ti < ai := by omega
                have htP2 : t = P3 := by omega
                have hee : (necksTo m L t == z) = true := by rw [HZ.out, htP2]; simp
                have hgg : (rollsTo m L t == ringsTo m L t) = true := by rw [htP2, HR4.out]; simp
                have y0 := MK.out.c0
                have y1 := MK.out.c1
                have y2 := MK.out.c2
                clear hti hap
                generalize necksTo m L t = cn at *
                generalize rollsTo m L t = rn at *
                generalize ringsTo m L t = gn at *
                go_wp2_with fail
                refine (HW.out _ MK.out.ints MK.out.bools).mono ?_
                rintro e w5 ⟨rfl, hb5⟩
                have Q5 := Lib.hid (QK.out.trans (hb5.mono QK.out.size))
                clear hb5
                go_wp2_with fail
                go_ret
                exact ⟨by first | exact ret_bool hdz | rfl, Q5.out⟩
    · have hg2 : (m.ok && ringNum n) = false := by simpa using hg
      rw [countNecks_no hg2]
      clear hg hg2
      go_wp2_with (go_at_call 18; refine (aliveG_any _).mono ?_; rintro e w' ⟨rfl, rfl⟩)
      go_ret
      exact ⟨rfl, B3.out⟩
end Go.Proofs.Ytjdeahdngpccpaa
