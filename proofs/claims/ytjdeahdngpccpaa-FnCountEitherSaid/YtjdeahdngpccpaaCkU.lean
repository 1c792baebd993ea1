/- The contract of partsUnder. No condition. TermOk of the program and of the model: what each returns, for every row of marks. No condition. spec.MachineOf. No condition. Drawing a machine and a number of letters. No condition. Drawing a machine and a number of letters, to be read: DrawCountWords. No condition. The alive check and the bound of a code's length. No condition. Rolls of a row of letters, the first of them, and how many there are. No program, no condition. Rings of a machine, walks that lead back, and necklaces: plain functions. No program, no condition. Walks that lead back, counted -/
import Derived.Test.YtjdeahdngpccpaaCkA
import Derived.Outline
import Derived.RegionTactic
import Derived.Test.YtjdeahdngpccpaaCkG
import Derived.Deep.CutBlock
import Derived.Test.YtjdeahdngpccpaaCkI
import Derived.Test.YtjdeahdngpccpaaMath
import Derived.Test.YtjdeahdngpccpaaStep
import Derived.Test.YtjdeahdngpccpaaWords
import Derived.Test.YtjdeahdngpccpaaLangWord
import Derived.Deep.AppendLies
import Derived.Test.YtjdeahdngpccpaaAfter
import Derived.Deep.RegionLaw
import Derived.Deep.RegionWith
import Derived.Test.YtjdeahdngpccpaaTakes
import Derived.Test.YtjdeahdngpccpaaPairBase
import Derived.Test.YtjdeahdngpccpaaImplSame
import Derived.Test.YtjdeahdngpccpaaTrim
import Derived.Test.YtjdeahdngpccpaaFromWalk
import Derived.Deep.RegionHeld3

namespace Go.Proofs.Ytjdeahdngpccpaa
open Go.RowKit

def UnderPost (m : Mk) (w : World) (e : Ending) (w' : World) : Prop := ∃ u : Int, e = .returned (.tuple #[.int .i64 u, .bool m.fine]) ∧ (m.fine = true → u = (m.under : Int)) ∧ Below w.heap.size w w'
theorem fine_void {k : Int} {r : Ru} (h : k = 1 ∨ k = 2 ∨ k = 3) : (Mk.mk k r).fine = r.isVoid := by
  rcases h with rfl | rfl | rfl <;> simp [Mk.fine]
theorem isVoid_parts (a : Int) (b c : ByteArray) (d : Int) : (Ru.mk a b c d).isVoid = ((a == 0) && (b.toList == []) && (c.toList == []) && (d == 0)) := by
  have e : ∀ t : ByteArray, noThen t = (t.toList == []) := fun t => by
    rw [ByteArray.toList_eq]
    cases t with
    | mk l => cases l with
      | mk l => cases l <;> simp [noThen]
  have f : ∀ x : Int, decide (x = 0) = (x == 0) := fun x => by by_cases h : x = 0 <;> simp [h]
  simp only [Ru.isVoid, e, f]

end Go.Proofs.Ytjdeahdngpccpaa

namespace Go.Proofs.Ytjdeahdngpccpaa
open Go.RowKit

theorem termOk_long {ts : List Mk} (h : 9 < ts.length) : termOk ts = false := by
  simp only [termOk, Bool.and_eq_false_iff, decide_eq_false_iff_not]
  exact .inl (by omega)
theorem termOk_end {ts : List Mk} {p : Nat} (h : leftOf (ts.take ts.length) 0 = some p) (hl : ts.length ≤ 9) : termOk ts = ((p : Int) == 1) := by
  rw [List.take_length] at h
  have e : decide (ts.length ≤ 9) = true := decide_eq_true hl
  rw [termOk, h, e, Bool.true_and]
  by_cases hp : p = 1
  · subst hp; rfl
  · rw [decide_eq_false (by simpa using hp)]
    have : ((p : Int) == 1) = false := by simp; omega
    rw [this]
theorem leftOf_yes {ts : List Mk} {k p : Nat} (hk : k < ts.length) (h : leftOf (ts.take k) 0 = some p) (hf : ts[k].fine = true) (hu : ts[k].under ≤ p) : leftOf (ts.take (k + 1)) 0 = some (p + 1 - ts[k].under) := by
  rw [leftOf_succ hk h, stepP, if_pos ⟨hf, hu⟩]
theorem leftOf_no {ts : List Mk} {k p : Nat} (hk : k < ts.length) (h : leftOf (ts.take k) 0 = some p) (hf : ¬ (ts[k].fine = true ∧ ts[k].under ≤ p)) : termOk ts = false :=
  termOk_stop (k := k + 1) (by rw [leftOf_succ hk h, stepP, if_neg hf])
theorem left_le {ts : List Mk} {k p : Nat} (hk : k ≤ ts.length) (h : leftOf (ts.take k) 0 = some p) : p ≤ k := by
  have := leftOf_le _ _ _ h
  rw [List.length_take] at this
  omega
set_option maxHeartbeats 1600000 in
theorem specTermOk_any (ms : List Mk) (v : Value) (w : World) (h : IsMarks w v ms) (hl : ms.length ≤ 1048576) :
    Calls Try.prog 136 #[v] w fun e w' => e = .returned (.bool (termOk ms)) ∧ Below w.heap.size w w' := by
  obtain ⟨a, cap, rfl, ha1, ha2, ha⟩ := h
  have HA := Lib.hid ha
  unfold maxLen at ha2
  clear ha
  go_enter Try.func136, Try.ntmps136
  go_wp2_with fail
  go_loopw [3, 4] (fun l i wr => ∃ (k p : Nat), k ≤ ms.length ∧ i = .int .i64 k ∧ l = .int .i64 p ∧ leftOf (ms.take k) 0 = some p ∧ Below w.heap.size w wr) (fun _ i _ => ms.length - (intOf i).toNat)
  case atStart => exact ⟨0, 0, Nat.zero_le _, rfl, rfl, rfl, Below.refl _ _⟩
  case round =>
    obtain ⟨k, p, hk, rfl, rfl, hp, hbel⟩ := hrel
    have hpk := left_le hk hp
    by_cases hlt : k < ms.length
    · obtain ⟨g, off, rfl, hg, hc⟩ := HA.out.resolve_left (fun h => by rw [h] at hlt; exact absurd hlt (Nat.not_lt_zero k))
      obtain ⟨c0, c1, c2, c3, c4⟩ := (hc k hlt).below hbel hg
      have HCK := Lib.hid (fun w' (hb : Below w.heap.size w w') => (hc k hlt).below hb hg)
      have HY := Lib.hid (leftOf_yes hlt hp)
      have HN := Lib.hid (leftOf_no hlt hp)
      have BB := Lib.hid hbel
      clear hc hbel hp
      generalize ms[k] = m at *
      obtain ⟨k1, r1, l1, t1, n1⟩ := m
      have HC2 : Hid (∀ w', Below w.heap.size w w' → w'.cell? ⟨g, off + k * 5, none⟩ = some (.int .i64 k1) ∧ w'.cell? ⟨g, off + k * 5 + 1, none⟩ = some (.int .i64 r1) ∧ w'.cell? ⟨g, off + k * 5 + 2, none⟩ = some (.string l1) ∧ w'.cell? ⟨g, off + k * 5 + 3, none⟩ = some (.string t1) ∧ w'.cell? ⟨g, off + k * 5 + 4, none⟩ = some (.int .i64 n1)) := Lib.hid HCK.out
      clear HCK
      simp only at c0 c1 c2 c3 c4
      by_cases k0 : k1 = 0
      · subst k0
        have HR := Lib.hid (fun W => specRuleOk_any r1 l1 t1 n1 W)
        have hf : (Mk.mk 0 ⟨r1, l1, t1, n1⟩).fine = (Ru.mk r1 l1 t1 n1).ok := by simp [Mk.fine]
        have hu : (Mk.mk 0 ⟨r1, l1, t1, n1⟩).under = 0 := by simp [Mk.under]
        rw [hf, hu] at HY HN
        clear hf hu
        generalize (Ru.mk r1 l1 t1 n1).ok = fb at *
        cases fb with
        | true =>
          have hp2 := Lib.hid (HY.out rfl (Nat.zero_le _))
          go_wp2_with (go_at_call 146; refine (HR.out _).mono ?_; rintro e w2 ⟨rfl, hb2⟩)
          go_roundw
          case rel => exact ⟨k + 1, p + 1 - 0, by omega, by go_num, by go_num, hp2.out, BB.out.trans (hb2.mono BB.out.size)⟩
          case measure => simp [intOf]; omega
        | false =>
          have HE := Lib.hid (HN.out (by simp))
          go_wp2_with (go_at_call 146; refine (HR.out _).mono ?_; rintro e w2 ⟨rfl, hb2⟩; obtain ⟨d0, d1, d2, d3, d4⟩ := HC2.out w2 (BB.out.trans (hb2.mono BB.out.size)))
          go_ret
          exact ⟨ret_bool HE.out.symm, BB.out.trans (hb2.mono BB.out.size)⟩
      · by_cases k123 : k1 = 1 ∨ k1 = 2 ∨ k1 = 3
        · have hf := fine_void (r := ⟨r1, l1, t1, n1⟩) k123
          by_cases hv : (Ru.mk r1 l1 t1 n1).isVoid = true
          · have hve := Ru.isVoid_iff.1 hv
            simp only [Ru.void, Ru.mk.injEq] at hve
            obtain ⟨rfl, rfl, rfl, rfl⟩ := hve
            rw [hf, hv] at HY HN
            clear hf hv k0
            rcases k123 with rfl | rfl | rfl
            · have hu : (Mk.mk 1 ⟨0, ⟨#[]⟩, ⟨#[]⟩, 0⟩).under = 2 := by simp [Mk.under]
              rw [hu] at HY HN
              clear hu
              by_cases h2 : 2 ≤ p
              · have hp2 := Lib.hid (HY.out rfl h2)
                go_wp2_with fail
                go_roundw
                case rel => exact ⟨k + 1, p + 1 - 2, by omega, by go_num, by go_num, hp2.out, BB.out⟩
                case measure => simp [intOf]; omega
              · have HE := Lib.hid (HN.out (fun h => h2 h.2))
                go_wp2_with fail
                go_ret
                exact ⟨ret_bool HE.out.symm, BB.out⟩
            · have hu : (Mk.mk 2 ⟨0, ⟨#[]⟩, ⟨#[]⟩, 0⟩).under = 2 := by simp [Mk.under]
              rw [hu] at HY HN
              clear hu
              by_cases h2 : 2 ≤ p
              · have hp2 := Lib.hid (HY.out rfl h2)
                go_wp2_with fail
                go_roundw
                case rel => exact ⟨k + 1, p + 1 - 2, by omega, by go_num, by go_num, hp2.out, BB.out⟩
                case measure => simp [intOf]; omega
              · have HE := Lib.hid (HN.out (fun h => h2 h.2))
                go_wp2_with fail
                go_ret
                exact ⟨ret_bool HE.out.symm, BB.out⟩
            · have hu : (Mk.mk 3 ⟨0, ⟨#[]⟩, ⟨#[]⟩, 0⟩).under = 1 := by simp [Mk.under]
              rw [hu] at HY HN
              clear hu
              by_cases h2 : 1 ≤ p
              · have hp2 := Lib.hid (HY.out rfl h2)
                go_wp2_with fail
                go_roundw
                case rel => exact ⟨k + 1, p + 1 - 1, by omega, by go_num, by go_num, hp2.out, BB.out⟩
                case measure => simp [intOf]; omega
              · have HE := Lib.hid (HN.out (fun h => h2 h.2))
                go_wp2_with fail
                go_ret
                exact ⟨ret_bool HE.out.symm, BB.out⟩
          · have hv' : (Ru.mk r1 l1 t1 n1).isVoid = false := by simpa using hv
            have HE := Lib.hid (HN.out (by rw [hf, hv']; simp))
            have hvp := isVoid_parts r1 l1 t1 n1
            rw [hv'] at hvp
            have hveq : ∀ W : World, (if r1 = 0 then if l1.toList = [] then if t1.toList = [] then if n1 = 0 then Result.ok (Next.value (Value.bool true)) W else Result.ok (Next.value (Value.bool false)) W else Result.ok (Next.value (Value.bool false)) W else Result.ok (Next.value (Value.bool false)) W else Result.ok (Next.value (Value.bool false)) W) = Result.ok (Next.value (Value.bool false)) W := fun W => by
              by_cases ha : r1 = 0
              · by_cases hb : l1.toList = []
                · by_cases hc : t1.toList = []
                  · by_cases hd : n1 = 0
                    · rw [ha, hb, hc, hd] at hvp; exact absurd hvp (by decide)
                    · simp [ha, hb, hc, hd]
                  · simp [ha, hb, hc]
                · simp [ha, hb]
              · simp [ha]
            clear hf hv hv' hvp k0
            rcases k123 with rfl | rfl | rfl
            · go_wp2_with fail
              go_ret
              exact ⟨ret_bool HE.out.symm, BB.out⟩
            · go_wp2_with fail
              go_ret
              exact ⟨ret_bool HE.out.symm, BB.out⟩
            · go_wp2_with fail
              go_ret
              exact ⟨ret_bool HE.out.symm, BB.out⟩
        · have hf : (Mk.mk k1 ⟨r1, l1, t1, n1⟩).fine = false := by simp only [Mk.fine]; rw [if_neg k0, if_neg k123]
          have HE := Lib.hid (HN.out (by rw [hf]; simp))
          have e1 : (k1 == 0) = false := by simpa using k0
          have e2 : ¬ k1 = 1 := fun h => k123 (.inl h)
          have e3 : ¬ k1 = 2 := fun h => k123 (.inr (.inl h))
          have e4 : ¬ k1 = 3 := fun h => k123 (.inr (.inr h))
          clear hf k123
          go_wp2_with fail
          go_ret
          exact ⟨ret_bool HE.out.symm, BB.out⟩
    · obtain rfl : k = ms.length := by omega
      by_cases h9 : ms.length ≤ 9
      · have HE := Lib.hid (termOk_end hp h9)
        by_cases hp1 : ((p : Int) == 1) = true
        · rw [hp1] at HE
          go_wp2_with fail
          go_ret
          exact ⟨ret_bool (by rw [HE.out]; first | rfl | exact decide_eq_true (by omega) | exact decide_eq_false (by omega)), hbel⟩
        · have hp1' : ((p : Int) == 1) = false := by simpa using hp1
          rw [hp1'] at HE
          clear hp1
          go_wp2_with fail
          go_ret
          exact ⟨ret_bool HE.out.symm, hbel⟩
      · have HE := Lib.hid (termOk_long (by omega : 9 < ms.length))
        by_cases hp1 : ((p : Int) == 1) = true
        · go_wp2_with fail
          go_ret
          exact ⟨ret_bool (by rw [HE.out]; first | rfl | exact decide_eq_true (by omega) | exact decide_eq_false (by omega)), hbel⟩
        · have hp1' : ((p : Int) == 1) = false := by simpa using hp1
          clear hp1
          go_wp2_with fail
          go_ret
          exact ⟨ret_bool HE.out.symm, hbel⟩
end Go.Proofs.Ytjdeahdngpccpaa

namespace Go.Proofs.Ytjdeahdngpccpaa
open Go.RowKit

/-- MachineOf's answer -/
def OfNew (ms : List Mk) (w : World) (e : Ending) (w' : World) : Prop :=
  ∃ (m : M) (b : Bool) (a1 a2 : Option Addr) (c1 c2 : Nat), IsOf ms m b ∧ e = .returned (.tuple #[.agg #[.int .i64 m.st, .slice a1 m.next.length c1, .slice a2 m.ends.length c2], .bool b]) ∧
    Apart w.heap.size [rowT 3 1 (.slice a1 m.next.length c1) m.next.length (m.next.map (Value.int .i64)), rowT 4 1 (.slice a2 m.ends.length c2) m.ends.length (m.ends.map Value.bool)] w' ∧ Below w.heap.size w w'
theorem IsOf.no {ms : List Mk} (h : termOk ms = false) : IsOf ms ⟨0, [], []⟩ false := ⟨fun h' => (by rw [h] at h'; cases h'), fun _ => ⟨rfl, rfl⟩⟩
theorem IsOf.yes {ms : List Mk} {T : Tm} {m : M} (hg : T.good = true) (hp : T.post = ms) (h : TmM T m) (hok : termOk ms = true) : IsOf ms m m.ok := ⟨fun _ => ⟨T, hg, hp, h, rfl⟩, fun h' => (by rw [hok] at h'; cases h')⟩
theorem IsOf.len {ms : List Mk} {m : M} {b : Bool} (h : IsOf ms m b) : m.next.length ≤ 144 ∧ m.ends.length ≤ 48 ∧ (Lit.int .i64 m.st).wf = true ∧ (b = true → m.ok = true) ∧ (b = false → m = ⟨0, [], []⟩) := by
  cases ht : termOk ms with
  | true =>
    obtain ⟨T, h1, h2, h3, rfl⟩ := h.1 ht
    have := h3.len h1
    exact ⟨this.1, this.2, h3.wf h1, fun h => h, fun h => h3.zero h1 h⟩
  | false =>
    obtain ⟨rfl, rfl⟩ := h.2 ht
    exact ⟨Nat.zero_le _, Nat.zero_le _, rfl, fun h => by (cases h), fun _ => rfl⟩

set_option maxHeartbeats 3200000 in
theorem specMachineOf_any (ms : List Mk) (v : Value) (w : World) (h : IsMarks w v ms) (hl : ms.length ≤ 1048576) :
    Calls Try.prog 111 #[v] w (OfNew ms w) := by
  have O0 := Lib.hid ((Own.nil w).box #[.int .i64 0, .slice none 0 0, .slice none 0 0] 26)
  have H1 := Lib.hid (fun W (hb : Below w.heap.size w W) => specTermOk_any ms v W (h.below hb) hl)
  have HLM := Lib.hid (fun W (hb : Below w.heap.size w W) (T : Tm) (hg : T.good = true) (hp : T.post = ms) (h9 : ms.length ≤ 9) => l5Machine_any T hg v W (by rw [hp]; exact h.below hb) (by rw [hp]; exact h9))
  obtain ⟨a, n, c, rfl⟩ := h.slice
  clear h hl
  go_enter Try.func111, Try.ntmps111
  go_upto_region 1 with fail
  generalize hW0 : (w.alloc (.cells #[.int .i64 0, .slice none 0 0, .slice none 0 0] 26)) = W0 at *
  clear hW0
  have H1W := Lib.hid (H1.out _ O0.out.keep)
  go_wp2_with fail
  refine H1W.out.mono ?_
  rintro e w1 ⟨rfl, hb1⟩
  have O1 := Lib.hid (O0.out.below hb1)
  have HLW := Lib.hid (HLM.out _ O1.out.keep)
  have z0 := cellsT_cell (O1.out.cells 0 (by simp) rfl) 0
  have z1 := cellsT_cell (O1.out.cells 0 (by simp) rfl) 1
  have z2 := cellsT_cell (O1.out.cells 0 (by simp) rfl) 2
  have zf := cellsT_frozen (O1.out.cells 0 (by simp) rfl)
  simp only [List.getElem?_toArray, List.getElem?_cons_succ, List.getElem?_cons_zero] at z0 z1 z2
  clear hb1
  cases hk : termOk ms with
  | false =>
    have HI := Lib.hid (IsOf.no hk)
    obtain ⟨f1, f2, r0, r1, r2⟩ := O1.out.fin (us := []) 0 (by simp) rfl (List.nil_sublist _) (x := .int .i64 0) (y := .slice none 0 0) (z := .slice none 0 0) rfl
    have HF := Lib.hid (And.intro ((f1.idle (rowT 4 1 (.slice none 0 0) 0 []) (World.ownsRow_nil _ _ _ _) rfl).idle (rowT 3 1 (.slice none 0 0) 0 []) (World.ownsRow_nil _ _ _ _) rfl) f2)
    clear f1 f2
    generalize hR : w.heap.size = R at *
    go_wp2_with fail
    generalize (((w1.setCell ⟨R, 0, none⟩ (.int .i64 0)).setCell ⟨R, 1, none⟩ (.slice none 0 0)).setCell ⟨R, 2, none⟩ (.slice none 0 0)) = WE at *
    refine bodyPost_ret (v := .tuple #[.agg #[.int .i64 0, .slice none 0 0, .slice none 0 0], .bool false]) ?_ rfl ⟨⟨0, [], []⟩, false, none, none, 0, 0, HI.out, rfl, by rw [hR]; exact HF.out.1, by rw [hR]; exact HF.out.2⟩
    simp [results, Try.results111, go_sem, r0, r1, r2]
  | true =>
    obtain ⟨T, hg, hp, h9⟩ := tree_of hk
    have HLX := Lib.hid (HLW.out T hg hp h9)
    have HIY : Hid (∀ m, TmM T m → IsOf ms m m.ok ∧ (m.ok = false → m = ⟨0, [], []⟩)) := Lib.hid (fun m h => ⟨IsOf.yes hg hp h hk, fun ho => h.zero hg ho⟩)
    clear hg hp h9
    generalize hR : w.heap.size = R at *
    have HR := Lib.hid hR
    clear hR
    go_wp2_with fail
    refine HLX.out.mono ?_
    rintro e w2 ⟨m, a1, a2, d1, d2, hm, rfl, hA2, hb2⟩
    have HI := Lib.hid (HIY.out m hm).1
    have HIZ := Lib.hid (HIY.out m hm).2
    have O2 := Lib.hid (O1.out.join hA2 hb2)
    have O3 := Lib.hid (O2.out.box #[.int .i64 m.st, .slice a1 m.next.length d1, .slice a2 m.ends.length d2] 26)
    clear hm hA2 hb2 z0 z1 z2 zf
    go_upto_region 4 with fail
    generalize hW3 : (w2.alloc (.cells #[.int .i64 m.st, .slice a1 m.next.length d1, .slice a2 m.ends.length d2] 26)) = W3 at *
    clear hW3
    generalize w2.heap.size = B3 at *
    have b0 := cellsT_cell (O3.out.cells 0 (by simp) rfl) 0
    have b1 := cellsT_cell (O3.out.cells 0 (by simp) rfl) 1
    have b2 := cellsT_cell (O3.out.cells 0 (by simp) rfl) 2
    have z0 := cellsT_cell (O3.out.cells 3 (by simp) rfl) 0
    have z1 := cellsT_cell (O3.out.cells 3 (by simp) rfl) 1
    have z2 := cellsT_cell (O3.out.cells 3 (by simp) rfl) 2
    have zf := cellsT_frozen (O3.out.cells 3 (by simp) rfl)
    simp only [List.getElem?_toArray, List.getElem?_cons_succ, List.getElem?_cons_zero] at b0 b1 b2 z0 z1 z2
    cases hmo : m.ok with
    | false =>
      have hmz := HIZ.out hmo
      have HI2 : Hid (IsOf ms ⟨0, [], []⟩ false) := Lib.hid (by have h := HI.out; rw [hmo, hmz] at h; exact h)
      obtain ⟨f1, f2, r0, r1, r2⟩ := O3.out.fin (us := []) 3 (by simp) rfl (List.nil_sublist _) (x := .int .i64 0) (y := .slice none 0 0) (z := .slice none 0 0) rfl
      have HF := Lib.hid (And.intro ((f1.idle (rowT 4 1 (.slice none 0 0) 0 []) (World.ownsRow_nil _ _ _ _) rfl).idle (rowT 3 1 (.slice none 0 0) 0 []) (World.ownsRow_nil _ _ _ _) rfl) f2)
      clear f1 f2 hmz HIZ HI
      rw [hmo] at *
      go_wp2_with fail
      generalize (((W3.setCell ⟨R, 0, none⟩ (.int .i64 0)).setCell ⟨R, 1, none⟩ (.slice none 0 0)).setCell ⟨R, 2, none⟩ (.slice none 0 0)) = WE at *
      refine bodyPost_ret (v := .tuple #[.agg #[.int .i64 0, .slice none 0 0, .slice none 0 0], .bool false]) ?_ rfl ⟨⟨0, [], []⟩, false, none, none, 0, 0, HI2.out, rfl, HF.out.1, HF.out.2⟩
      simp [results, Try.results111, go_sem, r0, r1, r2]
    | true =>
      have HI2 : Hid (IsOf ms m true) := Lib.hid (by have h := HI.out; rwa [hmo] at h)
      obtain ⟨f1, f2, r0, r1, r2⟩ := O3.out.fin (us := [_, _]) 3 (by simp) rfl (List.Sublist.cons _ (List.Sublist.cons_cons _ (List.Sublist.cons_cons _ (List.nil_sublist _)))) (x := .int .i64 m.st) (y := .slice a1 m.next.length d1) (z := .slice a2 m.ends.length d2) rfl
      have HF := Lib.hid (And.intro f1 f2)
      clear f1 f2
      rw [hmo] at *
      go_wp2_with fail
      generalize (((W3.setCell ⟨R, 0, none⟩ (.int .i64 m.st)).setCell ⟨R, 1, none⟩ (.slice a1 m.next.length d1)).setCell ⟨R, 2, none⟩ (.slice a2 m.ends.length d2)) = WE at *
      refine bodyPost_ret (v := .tuple #[.agg #[.int .i64 m.st, .slice a1 m.next.length d1, .slice a2 m.ends.length d2], .bool true]) ?_ rfl ⟨m, true, a1, a2, d1, d2, HI2.out, rfl, HF.out.1, HF.out.2⟩
      simp [results, Try.results111, go_sem, r0, r1, r2]
end Go.Proofs.Ytjdeahdngpccpaa

namespace Go.Proofs.Ytjdeahdngpccpaa
open Go.RowKit

section
variable {B R : Nat} {a : Option Addr} {len cap : Nat} {w0 : World} {k : Nat} {ts us : List Thing} {w w' : World}
theorem OwR.box (h : OwR B R a len cap w0 k ts w) (cs : Array Value) (t : TypeId) : OwR B R a len cap w0 k (cellsT w.heap.size cs t :: ts) (w.alloc (.cells cs t)) :=
  have h1 := h.alloc (.cells cs t)
  ⟨h1.rd, h1.hR, h1.keep, h.ap.more (World.grownBy_alloc w _ none) _ (heap_alloc_new w _) h.size (fun j e => by cases e; simp)⟩
theorem OwR.put {i b : Nat} {cs : Array Value} {t : TypeId} (h : OwR B R a len cap w0 k ts w) (hi : i < ts.length) (he : ts[i] = cellsT b cs t) (j : Nat) (u : Value) :
    OwR B R a len cap w0 k (ts.set i (cellsT b (cs.setIfInBounds j u) t)) (w.setCell ⟨b, j, none⟩ u) := by
  have hlt := h.ap.ltAt i hi
  rw [he] at hlt
  have hb := (hlt b rfl).1
  have hR := h.hR
  exact ⟨h.rd.grown (grown_setCell w b j u) (fun k e => by cases e; omega), h.hR, h.keep.grown (grown_setCell w b j u) (fun k e => by cases e; exact hb), h.ap.setAt i hi he h.size j u⟩
theorem OwR.put3 {i b : Nat} {x0 y0 z0 : Value} {t : TypeId} (h : OwR B R a len cap w0 k ts w) (hi : i < ts.length) (he : ts[i] = cellsT b #[x0, y0, z0] t) (x y z : Value) :
    OwR B R a len cap w0 k (ts.set i (cellsT b #[x, y, z] t)) (((w.setCell ⟨b, 0, none⟩ x).setCell ⟨b, 1, none⟩ y).setCell ⟨b, 2, none⟩ z) := by
  have h1 := h.put hi he 0 x
  have h2 := h1.put (i := i) (b := b) (cs := #[x, y0, z0]) (t := t) (by simpa using hi) (by rw [List.getElem_set_self]; rfl) 1 y
  have h3 := h2.put (i := i) (b := b) (cs := #[x, y, z0]) (t := t) (by simpa using hi) (by rw [List.getElem_set_self]; rfl) 2 z
  rw [List.set_set, List.set_set] at h3
  exact h3
theorem OwR.tri (h : OwR B R a len cap w0 k ts w) (i : Nat) (hi : i < ts.length) {b : Nat} {x y z : Value} {t : TypeId} (he : ts[i] = cellsT b #[x, y, z] t) :
    w.cell? ⟨b, 0, none⟩ = some x ∧ w.cell? ⟨b, 1, none⟩ = some y ∧ w.cell? ⟨b, 2, none⟩ = some z ∧ w.frozen? ⟨b, 0, none⟩ = false ∧ w.frozen? ⟨b, 1, none⟩ = false ∧ w.frozen? ⟨b, 2, none⟩ = false ∧ w0.heap.size ≤ b ∧ b < w.heap.size := by
  have hs := h.ap.at i hi
  have hl := h.ap.ltAt i hi
  rw [he] at hs hl
  exact ⟨cellsT_cell hs 0, cellsT_cell hs 1, cellsT_cell hs 2, cellsT_frozen hs 0, cellsT_frozen hs 1, cellsT_frozen hs 2, hl b rfl⟩
theorem OwR.join {k' : Nat} (h : OwR B R a len cap w0 k ts w) (hr : RdAt B R a len cap k' w') (hk : KeepsBut R w w') (hA : Apart w.heap.size us w') : OwR B R a len cap w0 k' (us ++ ts) w' := by
  have h' := h.picked hr hk
  refine ⟨h'.rd, h'.hR, h'.keep, ⟨fun t ht => ?_, List.pairwise_append.2 ⟨hA.two, h'.ap.two, fun a ha b hb' k e e' => ?_⟩⟩⟩
  · rcases List.mem_append.1 ht with ht | ht
    · exact ⟨(hA.all t ht).1, fun k e => ⟨Nat.le_trans h.size ((hA.all t ht).2 k e).1, ((hA.all t ht).2 k e).2⟩⟩
    · exact h'.ap.all t ht
  · have := ((hA.all a ha).2 k e).1
    have := ((h.ap.all b hb').2 k e').2
    omega
theorem OwR.joinB (h : OwR B R a len cap w0 k ts w) (hb : Below w.heap.size w w') (hA : Apart w.heap.size us w') : OwR B R a len cap w0 k (us ++ ts) w' :=
  h.join (h.rd.keeps hb) (KeepsBut.of_below hb) hA
end
theorem counted_n {v1 v2 v3 : Int} (a0 : 0 ≤ v1) (a1 : v1 < 7) (b0 : 0 ≤ v2) (b1 : v2 < 40) (c0 : 0 ≤ v3) (c1 : v3 < 40) :
    -7 ≤ IntKind.i64.wrap (IntKind.i64.wrap (v1 + IntKind.i64.wrap (IntKind.i64.wrap (v2.tdiv 39) * 5)) - IntKind.i64.wrap (IntKind.i64.wrap (v3.tdiv 39) * 7)) ∧
    IntKind.i64.wrap (IntKind.i64.wrap (v1 + IntKind.i64.wrap (IntKind.i64.wrap (v2.tdiv 39) * 5)) - IntKind.i64.wrap (IntKind.i64.wrap (v3.tdiv 39) * 7)) ≤ 11 := by
  rw [Int.tdiv_eq_ediv_of_nonneg b0, Int.tdiv_eq_ediv_of_nonneg c0]
  have hb : v2 / 39 = 0 ∨ v2 / 39 = 1 := by omega
  have hc : v3 / 39 = 0 ∨ v3 / 39 = 1 := by omega
  have e0 : IntKind.i64.wrap (IntKind.i64.wrap 0 * 5) = 0 := by decide
  have e1 : IntKind.i64.wrap (IntKind.i64.wrap 1 * 5) = 5 := by decide
  have e2 : IntKind.i64.wrap (IntKind.i64.wrap 0 * 7) = 0 := by decide
  have e3 : IntKind.i64.wrap (IntKind.i64.wrap 1 * 7) = 7 := by decide
  rcases hb with hb | hb <;> rcases hc with hc | hc <;> rw [hb, hc] <;> simp only [e0, e1, e2, e3] <;> (rw [IntWalk.i64_in (v1 + _) (by omega), IntWalk.i64_in _ (by omega)]; omega)

/-- a machine, good or not, as large as one may be -/
def M.small (m : M) : Prop := (Lit.int .i64 m.st).wf = true ∧ -100 ≤ m.st ∧ m.st ≤ 100 ∧ m.next.length ≤ 144 ∧ m.ends.length ≤ 48
theorem IsOf.small {ms : List Mk} {m : M} (h : IsOf ms m true) : m.small := by
  have hl := h.len
  have hs := M.ok_shape (hl.2.2.2.1 rfl)
  exact ⟨hl.2.2.1, by omega, by omega, hl.1, hl.2.1⟩
/-- what drawing a machine and a number leaves -/
def CountDrawn (B R : Nat) (a : Option Addr) (len cap k : Nat) (w : World) (e : Ending) (w' : World) : Prop :=
  ∃ (m : M) (a1 a2 : Option Addr) (c1 c2 : Nat) (n : Int), e = .returned (.tuple #[.agg #[.int .i64 m.st, .slice a1 m.next.length c1, .slice a2 m.ends.length c2], .int .i64 n]) ∧ m.small ∧ (-7 ≤ n ∧ n ≤ 11) ∧
    ∃ k', k ≤ k' ∧ k' ≤ k + 200 ∧ OwR B R a len cap w k' [rowT 3 1 (.slice a1 m.next.length c1) m.next.length (m.next.map (Value.int .i64)), rowT 4 1 (.slice a2 m.ends.length c2) m.ends.length (m.ends.map Value.bool)] w'

set_option maxHeartbeats 3200000 in
theorem l20Counted_any (B R : Nat) (a : Option Addr) (len cap k : Nat) (w : World) (H : RdAt B R a len cap k w) (hk : k ≤ 700000) :
    Calls Try.prog 71 #[.pointer (some ⟨R, 0, none⟩)] w (CountDrawn B R a len cap k w) := by
  have O0 := Lib.hid ((OwR.start H).box #[.int .i64 0, .slice none 0 0, .slice none 0 0] 26)
  have HC := Lib.hid (l20Machine_any B R a len cap k 14 _ O0.out.rd (by omega) (by omega) (by omega))
  have hRw := H.hR
  clear H
  go_enter Try.func71, Try.ntmps71
  go_wp2_with fail
  refine HC.out.mono ?_
  clear HC
  rintro e w2 ⟨st, xs, bs, nv, ev, rfl, h0, h1, h2, h3, ⟨k1, hk1, hk2, hR1⟩, hK1, hA⟩
  obtain ⟨a1, c1, rfl⟩ := ownsRow_sliceD hA.head
  obtain ⟨a2, c2, rfl⟩ := ownsRow_sliceD hA.tail.head
  have HM : Hid (M.small ⟨st, xs, bs⟩) := Lib.hid ⟨(WalkArith.wf_i64 (by omega) : (Lit.int .i64 st).wf = true), by show -100 ≤ st; omega, by show st ≤ 100; omega, by show xs.length ≤ 144; omega, by show bs.length ≤ 48; omega⟩
  have O1 : Hid (OwR B R a len cap w k1 [rowT 3 1 (.slice a1 xs.length c1) xs.length (xs.map (Value.int .i64)), rowT 4 1 (.slice a2 bs.length c2) bs.length (bs.map Value.bool), cellsT w.heap.size #[.int .i64 0, .slice none 0 0, .slice none 0 0] 26] w2) := Lib.hid (O0.out.join hR1 hK1 hA)
  have O2 : Hid (OwR B R a len cap w k1 [rowT 3 1 (.slice a1 xs.length c1) xs.length (xs.map (Value.int .i64)), rowT 4 1 (.slice a2 bs.length c2) bs.length (bs.map Value.bool), cellsT w2.heap.size #[.int .i64 st, .slice a1 xs.length c1, .slice a2 bs.length c2] 26, cellsT w.heap.size #[.int .i64 0, .slice none 0 0, .slice none 0 0] 26] (w2.alloc (.cells #[.int .i64 st, .slice a1 xs.length c1, .slice a2 bs.length c2] 26))) :=
    Lib.hid ((O1.out.box #[.int .i64 st, .slice a1 xs.length c1, .slice a2 bs.length c2] 26).perm ((List.perm_append_comm (l₁ := [_]) (l₂ := [_, _])).append_right [_]))
  have HKB := Lib.hid (show k ≤ k1 ∧ k1 ≤ k + 30 ∧ k ≤ 700000 by omega)
  have hlt := (O1.out.tri 2 (by simp) rfl).2.2.2.2.2.2.2
  clear O0 O1 hR1 hK1 hA h0 h1 h2 h3 hk1 hk2 hk
  go_wp2_with fail
  generalize (w2.alloc (.cells #[.int .i64 st, .slice a1 xs.length c1, .slice a2 bs.length c2] 26)) = W2 at *
  generalize w2.heap.size = B4 at *
  refine (pick_any B R a len cap k1 3 _ O2.out.rd (by have := HKB.out; omega) (by omega) (by omega)).mono ?_
  rintro e w3 ⟨v, rfl, hv0, -, hR3, hK3⟩
  have O3 := Lib.hid (O2.out.picked hR3 hK3)
  clear O2 hR3 hK3
  generalize hR0 : w.heap.size = R0 at *
  have hne1 : B4 ≠ R0 := by omega
  have hne2 : R0 ≠ B4 := by omega
  clear hlt
  by_cases hv : v = 0
  · subst hv
    go_wp2_with fail
    refine (l20Term_any B R a len cap (k1 + 1) 0 _ O3.out.rd (by have := HKB.out; omega) (by omega) (by omega)).mono ?_
    rintro e w4 ⟨ms, mv, k4, rfl, hms, hwf, hk3, hk4, hT⟩
    have O4 : Hid (OwR B R a len cap w k4 [rowT 108 5 mv ms.length (cellsM ms), rowT 3 1 (.slice a1 xs.length c1) xs.length (xs.map (Value.int .i64)), rowT 4 1 (.slice a2 bs.length c2) bs.length (bs.map Value.bool), cellsT B4 #[.int .i64 st, .slice a1 xs.length c1, .slice a2 bs.length c2] 26, cellsT R0 #[.int .i64 0, .slice none 0 0, .slice none 0 0] 26] w4) := Lib.hid (O3.out.join hT.rd hT.keep hT.ap)
    have HO := Lib.hid (specMachineOf_any ms mv w4 (IsMarks.of_owns (O4.out.row 0 (by simp) rfl)) (by omega))
    replace HKB := Lib.hid (show k ≤ k4 ∧ k4 ≤ k + 131 ∧ k ≤ 700000 by have := HKB.out; omega)
    clear hT O3 hms hwf hk3 hk4
    go_wp2_with fail
    refine HO.out.mono ?_
    clear HO
    rintro e w5 ⟨m, b, a3, a4, c3, c4, hof, rfl, hA5, hb5⟩
    have O5 : Hid (OwR B R a len cap w k4 [rowT 3 1 (.slice a3 m.next.length c3) m.next.length (m.next.map (Value.int .i64)), rowT 4 1 (.slice a4 m.ends.length c4) m.ends.length (m.ends.map Value.bool), rowT 108 5 mv ms.length (cellsM ms), rowT 3 1 (.slice a1 xs.length c1) xs.length (xs.map (Value.int .i64)), rowT 4 1 (.slice a2 bs.length c2) bs.length (bs.map Value.bool), cellsT B4 #[.int .i64 st, .slice a1 xs.length c1, .slice a2 bs.length c2] 26, cellsT R0 #[.int .i64 0, .slice none 0 0, .slice none 0 0] 26] w5) := Lib.hid (O4.out.joinB hb5 hA5)
    clear O4 hA5 hb5
    cases b with
    | false =>
      have O6 := Lib.hid ((O5.out.sub (us := [_, _, _, _]) (List.Sublist.cons _ (List.Sublist.cons _ (List.Sublist.cons _ (List.Sublist.refl _))))).alloc (.cells #[.int .i64 m.st, .slice a3 m.next.length c3, .slice a4 m.ends.length c4] 26))
      clear O5 hof
      go_upto_region 6 with fail
      generalize (w5.alloc (.cells #[.int .i64 m.st, .slice a3 m.next.length c3, .slice a4 m.ends.length c4] 26)) = W6 at *
      obtain ⟨y00, y01, y02, -⟩ := O6.out.tri 2 (by simp) rfl
      skip
      have OD := Lib.hid O6.out.drew
      go_region_held3 (fun w' => w'.cell? ⟨B4, 0, none⟩ = some (.int .i64 st) ∧ w'.cell? ⟨B4, 1, none⟩ = some (.slice a1 xs.length c1) ∧ w'.cell? ⟨B4, 2, none⟩ = some (.slice a2 bs.length c2))
        (refine ⟨?_, ?_, ?_⟩ <;> go_simp)
        (first | (go_at_call 81; (first | (refine (pick_any B R a len cap (k4 + 2) 40 _ P2.out.rd (by have := HKB.out; omega) (by omega) (by omega)).mono ?_; rintro e p3 ⟨v3, rfl, q30, q31, hR3, hK3⟩; have P3 := Lib.hid (P2.out.picked hR3 hK3); have q32 := q31 (by omega); obtain ⟨y30, y31, y32, -⟩ := P3.out.tri 2 (by simp) rfl; obtain ⟨m30, m31, m32, x30, x31, x32, -, -⟩ := P3.out.tri 3 (by simp) rfl; clear q31 hR3 hK3) | (refine (pick_any B R a len cap (k4 + 1) 40 _ P1.out.rd (by have := HKB.out; omega) (by omega) (by omega)).mono ?_; rintro e p2 ⟨v2, rfl, q20, q21, hR2, hK2⟩; have P2 := Lib.hid (P1.out.picked hR2 hK2); have q22 := q21 (by omega); obtain ⟨y20, y21, y22, -⟩ := P2.out.tri 2 (by simp) rfl; obtain ⟨m20, m21, m22, x20, x21, x22, -, -⟩ := P2.out.tri 3 (by simp) rfl; clear q21 hR2 hK2) | (refine (pick_any B R a len cap (k4 + 0) 7 _ OD.out.rd (by have := HKB.out; omega) (by omega) (by omega)).mono ?_; rintro e p1 ⟨v1, rfl, q10, q11, hR1, hK1⟩; have P1 := Lib.hid (OD.out.picked hR1 hK1); have q12 := q11 (by omega); obtain ⟨y10, y11, y12, -⟩ := P1.out.tri 2 (by simp) rfl; obtain ⟨m10, m11, m12, x10, x11, x12, -, -⟩ := P1.out.tri 3 (by simp) rfl; clear q11 hR1 hK1))))
      all_goals
        have PF := Lib.hid (P3.out.put3 (i := 3) (by simp) rfl (.int .i64 st) (.slice a1 xs.length c1) (.slice a2 bs.length c2))
        go_wp2
        obtain ⟨r0, r1, r2, -⟩ := PF.out.tri 3 (by simp) rfl
        refine bodyPost_ret (v := .tuple #[.agg #[.int .i64 st, .slice a1 xs.length c1, .slice a2 bs.length c2], .int .i64 (IntKind.i64.wrap (IntKind.i64.wrap (v1 + IntKind.i64.wrap (IntKind.i64.wrap (v2.tdiv 39) * 5)) - IntKind.i64.wrap (IntKind.i64.wrap (v3.tdiv 39) * 7)))]) ?_ rfl ⟨⟨st, xs, bs⟩, _, _, _, _, _, rfl, HM.out, counted_n q10 q12 q20 q22 q30 q32, k4 + 3, by have := HKB.out; omega, by have := HKB.out; omega, PF.out.sub (List.Sublist.cons_cons _ (List.Sublist.cons_cons _ (List.nil_sublist _)))⟩
        simp [results, Try.results71, go_sem, r0, r1, r2]
    | true =>
      have O6 := Lib.hid ((O5.out.sub (us := [rowT 3 1 (.slice a3 m.next.length c3) m.next.length (m.next.map (Value.int .i64)), rowT 4 1 (.slice a4 m.ends.length c4) m.ends.length (m.ends.map Value.bool), cellsT B4 #[.int .i64 st, .slice a1 xs.length c1, .slice a2 bs.length c2] 26, cellsT R0 #[.int .i64 0, .slice none 0 0, .slice none 0 0] 26]) (List.Sublist.cons_cons _ (List.Sublist.cons_cons _ (List.Sublist.cons _ (List.Sublist.cons _ (List.Sublist.cons _ (List.Sublist.refl _))))))).box #[.int .i64 m.st, .slice a3 m.next.length c3, .slice a4 m.ends.length c4] 26)
      replace HM := Lib.hid hof.small
      clear O5 hof
      obtain ⟨u0, u1, u2, u3, u4, u5, -, u6⟩ := O6.out.tri 3 (by simp) rfl
      have O7 := Lib.hid ((O6.out.put3 (i := 3) (by simp) rfl (.int .i64 m.st) (.slice a3 m.next.length c3) (.slice a4 m.ends.length c4)).sub (us := [rowT 3 1 (.slice a3 m.next.length c3) m.next.length (m.next.map (Value.int .i64)), rowT 4 1 (.slice a4 m.ends.length c4) m.ends.length (m.ends.map Value.bool), cellsT B4 #[.int .i64 m.st, .slice a3 m.next.length c3, .slice a4 m.ends.length c4] 26, cellsT R0 #[.int .i64 0, .slice none 0 0, .slice none 0 0] 26]) (List.Sublist.cons _ (List.Sublist.refl _)))
      have t6 := (O6.out.tri 0 (by simp) rfl).2.2.2.2.2.2
      go_upto_region 6 with fail
      clear u0 u1 u2 u3 u4 u5 u6 t6 O6
      generalize ((((w5.alloc (.cells #[.int .i64 m.st, .slice a3 m.next.length c3, .slice a4 m.ends.length c4] 26)).setCell ⟨B4, 0, none⟩ (.int .i64 m.st)).setCell ⟨B4, 1, none⟩ (.slice a3 m.next.length c3)).setCell ⟨B4, 2, none⟩ (.slice a4 m.ends.length c4)) = W7 at *
      obtain ⟨y00, y01, y02, -⟩ := O7.out.tri 2 (by simp) rfl
      skip
      have OD := Lib.hid O7.out.drew
      go_region_held3 (fun w' => w'.cell? ⟨B4, 0, none⟩ = some (.int .i64 m.st) ∧ w'.cell? ⟨B4, 1, none⟩ = some (.slice a3 m.next.length c3) ∧ w'.cell? ⟨B4, 2, none⟩ = some (.slice a4 m.ends.length c4))
        (refine ⟨?_, ?_, ?_⟩ <;> go_simp)
        (first | (go_at_call 81; (first | (refine (pick_any B R a len cap (k4 + 2) 40 _ P2.out.rd (by have := HKB.out; omega) (by omega) (by omega)).mono ?_; rintro e p3 ⟨v3, rfl, q30, q31, hR3, hK3⟩; have P3 := Lib.hid (P2.out.picked hR3 hK3); have q32 := q31 (by omega); obtain ⟨y30, y31, y32, -⟩ := P3.out.tri 2 (by simp) rfl; obtain ⟨m30, m31, m32, x30, x31, x32, -, -⟩ := P3.out.tri 3 (by simp) rfl; clear q31 hR3 hK3) | (refine (pick_any B R a len cap (k4 + 1) 40 _ P1.out.rd (by have := HKB.out; omega) (by omega) (by omega)).mono ?_; rintro e p2 ⟨v2, rfl, q20, q21, hR2, hK2⟩; have P2 := Lib.hid (P1.out.picked hR2 hK2); have q22 := q21 (by omega); obtain ⟨y20, y21, y22, -⟩ := P2.out.tri 2 (by simp) rfl; obtain ⟨m20, m21, m22, x20, x21, x22, -, -⟩ := P2.out.tri 3 (by simp) rfl; clear q21 hR2 hK2) | (refine (pick_any B R a len cap (k4 + 0) 7 _ OD.out.rd (by have := HKB.out; omega) (by omega) (by omega)).mono ?_; rintro e p1 ⟨v1, rfl, q10, q11, hR1, hK1⟩; have P1 := Lib.hid (OD.out.picked hR1 hK1); have q12 := q11 (by omega); obtain ⟨y10, y11, y12, -⟩ := P1.out.tri 2 (by simp) rfl; obtain ⟨m10, m11, m12, x10, x11, x12, -, -⟩ := P1.out.tri 3 (by simp) rfl; clear q11 hR1 hK1))))
      all_goals
        have PF := Lib.hid (P3.out.put3 (i := 3) (by simp) rfl (.int .i64 m.st) (.slice a3 m.next.length c3) (.slice a4 m.ends.length c4))
        go_wp2
        obtain ⟨r0, r1, r2, -⟩ := PF.out.tri 3 (by simp) rfl
        refine bodyPost_ret (v := .tuple #[.agg #[.int .i64 m.st, .slice a3 m.next.length c3, .slice a4 m.ends.length c4], .int .i64 (IntKind.i64.wrap (IntKind.i64.wrap (v1 + IntKind.i64.wrap (IntKind.i64.wrap (v2.tdiv 39) * 5)) - IntKind.i64.wrap (IntKind.i64.wrap (v3.tdiv 39) * 7)))]) ?_ rfl ⟨m, _, _, _, _, _, rfl, HM.out, counted_n q10 q12 q20 q22 q30 q32, k4 + 3, by have := HKB.out; omega, by have := HKB.out; omega, PF.out.sub (List.Sublist.cons_cons _ (List.Sublist.cons_cons _ (List.nil_sublist _)))⟩
        simp [results, Try.results71, go_sem, r0, r1, r2]
  · go_upto_region 6 with fail
    obtain ⟨y00, y01, y02, -⟩ := O3.out.tri 2 (by simp) rfl
    skip
    have OD := Lib.hid O3.out.drew
    go_region_held3 (fun w' => w'.cell? ⟨B4, 0, none⟩ = some (.int .i64 st) ∧ w'.cell? ⟨B4, 1, none⟩ = some (.slice a1 xs.length c1) ∧ w'.cell? ⟨B4, 2, none⟩ = some (.slice a2 bs.length c2))
      (refine ⟨?_, ?_, ?_⟩ <;> go_simp)
      (first | (go_at_call 81; (first | (refine (pick_any B R a len cap ((k1 + 1) + 2) 40 _ P2.out.rd (by have := HKB.out; omega) (by omega) (by omega)).mono ?_; rintro e p3 ⟨v3, rfl, q30, q31, hR3, hK3⟩; have P3 := Lib.hid (P2.out.picked hR3 hK3); have q32 := q31 (by omega); obtain ⟨y30, y31, y32, -⟩ := P3.out.tri 2 (by simp) rfl; obtain ⟨m30, m31, m32, x30, x31, x32, -, -⟩ := P3.out.tri 3 (by simp) rfl; clear q31 hR3 hK3) | (refine (pick_any B R a len cap ((k1 + 1) + 1) 40 _ P1.out.rd (by have := HKB.out; omega) (by omega) (by omega)).mono ?_; rintro e p2 ⟨v2, rfl, q20, q21, hR2, hK2⟩; have P2 := Lib.hid (P1.out.picked hR2 hK2); have q22 := q21 (by omega); obtain ⟨y20, y21, y22, -⟩ := P2.out.tri 2 (by simp) rfl; obtain ⟨m20, m21, m22, x20, x21, x22, -, -⟩ := P2.out.tri 3 (by simp) rfl; clear q21 hR2 hK2) | (refine (pick_any B R a len cap ((k1 + 1) + 0) 7 _ OD.out.rd (by have := HKB.out; omega) (by omega) (by omega)).mono ?_; rintro e p1 ⟨v1, rfl, q10, q11, hR1, hK1⟩; have P1 := Lib.hid (OD.out.picked hR1 hK1); have q12 := q11 (by omega); obtain ⟨y10, y11, y12, -⟩ := P1.out.tri 2 (by simp) rfl; obtain ⟨m10, m11, m12, x10, x11, x12, -, -⟩ := P1.out.tri 3 (by simp) rfl; clear q11 hR1 hK1))))
    all_goals
      have PF := Lib.hid (P3.out.put3 (i := 3) (by simp) rfl (.int .i64 st) (.slice a1 xs.length c1) (.slice a2 bs.length c2))
      go_wp2
      obtain ⟨r0, r1, r2, -⟩ := PF.out.tri 3 (by simp) rfl
      refine bodyPost_ret (v := .tuple #[.agg #[.int .i64 st, .slice a1 xs.length c1, .slice a2 bs.length c2], .int .i64 (IntKind.i64.wrap (IntKind.i64.wrap (v1 + IntKind.i64.wrap (IntKind.i64.wrap (v2.tdiv 39) * 5)) - IntKind.i64.wrap (IntKind.i64.wrap (v3.tdiv 39) * 7)))]) ?_ rfl ⟨⟨st, xs, bs⟩, _, _, _, _, _, rfl, HM.out, counted_n q10 q12 q20 q22 q30 q32, (k1 + 1) + 3, by have := HKB.out; omega, by have := HKB.out; omega, PF.out.sub (List.Sublist.cons_cons _ (List.Sublist.cons_cons _ (List.nil_sublist _)))⟩
      simp [results, Try.results71, go_sem, r0, r1, r2]
end Go.Proofs.Ytjdeahdngpccpaa

namespace Go.Proofs.Ytjdeahdngpccpaa
open Go.RowKit

theorem row_belowW {k : IntKind} {w w' : World} {a : Option Addr} {len cap : Nat} {zs : List Int} (h : IsRow k w a len cap zs) (hb : Below w.heap.size w w') : IsRow k w' a len cap zs := by
  rcases h with h | ⟨x, h1, h2, h3, h4, h5, h6⟩
  · exact .inl h
  · exact .inr ⟨x, h1, h2, h3, h4, fun i hi => (hb.cell (World.block_lt_of_cell? w _ (h5 i hi))).trans (h5 i hi), h6⟩
/-- what drawing a machine and a number of letters returns -/
def CountRes (w : World) (e : Ending) (w' : World) : Prop :=
  ∃ (m : M) (a3 a4 : Option Addr) (c3 c4 : Nat) (n : Int), e = .returned (.tuple #[.agg #[.int .i64 m.st, .slice a3 m.next.length c3, .slice a4 m.ends.length c4], .int .i64 n]) ∧ m.small ∧ -7 ≤ n ∧ n ≤ 11 ∧
    IsInts w' (.slice a3 m.next.length c3) m.next ∧ IsBools w' (.slice a4 m.ends.length c4) m.ends ∧ Below w.heap.size w w'

set_option maxHeartbeats 1600000 in
theorem drawCountWords_any (a : Option Addr) (len cap : Nat) (zs : List Int) (w : World) (h : IsRow .u8 w a len cap zs) :
    Calls Try.prog 23 #[.slice a len cap] w (CountRes w) := by
  have H0 := row_belowW h ((Below.refl w.heap.size w).alloc (Nat.le_refl _) (.cells #[.int .i64 0, .slice none 0 0, .slice none 0 0] 26))
  have HO := Lib.hid (l20Open_any a len cap zs _ H0)
  clear H0 h
  go_enter Try.func23, Try.ntmps23
  go_wp2_with fail
  refine HO.out.mono ?_
  clear HO
  rintro e w1 ⟨a1, len1, cap1, rfl, hR, hb1⟩
  simp only [World.size_alloc] at hR hb1
  have hRR := hR.hR
  have c0 : w1.cell? ⟨w.heap.size, 0, none⟩ = some (.int .i64 0) := (hb1.cell (p := ⟨w.heap.size, 0, none⟩) (Nat.lt_succ_self _)).trans (World.cell?_alloc_new w _ _ 0)
  have c1 : w1.cell? ⟨w.heap.size, 1, none⟩ = some (.slice none 0 0) := (hb1.cell (p := ⟨w.heap.size, 1, none⟩) (Nat.lt_succ_self _)).trans (World.cell?_alloc_new w _ _ 1)
  have c2 : w1.cell? ⟨w.heap.size, 2, none⟩ = some (.slice none 0 0) := (hb1.cell (p := ⟨w.heap.size, 2, none⟩) (Nat.lt_succ_self _)).trans (World.cell?_alloc_new w _ _ 2)
  have f0 : ∀ i, w1.frozen? ⟨w.heap.size, i, none⟩ = false := fun i => (hb1.frozen (p := ⟨w.heap.size, i, none⟩) (Nat.lt_succ_self _)).trans (World.frozen?_alloc_new w _ _ i)
  have hbw : Below w.heap.size w w1 := ((Below.refl w.heap.size w).alloc (Nat.le_refl _) _).trans (hb1.mono (Nat.le_succ _))
  clear hb1
  have HR0 : Hid (∀ W, KeepsBut (w.heap.size + 1) w1 W → W.cell? ⟨w.heap.size, 0, none⟩ = some (.int .i64 0) ∧ W.cell? ⟨w.heap.size, 1, none⟩ = some (.slice none 0 0) ∧ W.cell? ⟨w.heap.size, 2, none⟩ = some (.slice none 0 0) ∧ W.frozen? ⟨w.heap.size, 0, none⟩ = false ∧ W.frozen? ⟨w.heap.size, 1, none⟩ = false ∧ W.frozen? ⟨w.heap.size, 2, none⟩ = false) := Lib.hid (fun W hK =>
    ⟨(hK.cell (p := ⟨w.heap.size, 0, none⟩) (by show w.heap.size < _; omega) (by show w.heap.size ≠ _; omega)).trans c0,
     (hK.cell (p := ⟨w.heap.size, 1, none⟩) (by show w.heap.size < _; omega) (by show w.heap.size ≠ _; omega)).trans c1,
     (hK.cell (p := ⟨w.heap.size, 2, none⟩) (by show w.heap.size < _; omega) (by show w.heap.size ≠ _; omega)).trans c2,
     (hK.frozen (p := ⟨w.heap.size, 0, none⟩) (by show w.heap.size < _; omega) (by show w.heap.size ≠ _; omega)).trans (f0 0),
     (hK.frozen (p := ⟨w.heap.size, 1, none⟩) (by show w.heap.size < _; omega) (by show w.heap.size ≠ _; omega)).trans (f0 1),
     (hK.frozen (p := ⟨w.heap.size, 2, none⟩) (by show w.heap.size < _; omega) (by show w.heap.size ≠ _; omega)).trans (f0 2)⟩)
  clear c0 c1 c2 f0
  go_wp2_with fail
  refine (l20Counted_any _ _ a1 len1 cap1 0 w1 hR (by omega)).mono ?_
  rintro e w2 ⟨m, a3, a4, c3, c4, n0, rfl, hm, hn, k', -, hk2, hO⟩
  have HM := Lib.hid hm
  have HN := Lib.hid hn
  have FIN : ∀ W, W = ((w2.setCell ⟨w.heap.size, 0, none⟩ (.int .i64 m.st)).setCell ⟨w.heap.size, 1, none⟩ (.slice a3 m.next.length c3)).setCell ⟨w.heap.size, 2, none⟩ (.slice a4 m.ends.length c4) →
      IsInts W (.slice a3 m.next.length c3) m.next ∧ IsBools W (.slice a4 m.ends.length c4) m.ends ∧ Below w.heap.size w W := by
    rintro W rfl
    have hA := hO.ap
    have hbw2 : Below w.heap.size w w2 := hbw.trans (hO.keep.below (by omega) (by omega))
    have hr : ∀ k, some w.heap.size = some k → k < w1.heap.size := fun k e => by cases e; omega
    have hA2 := ((hA.other (grown_setCell w2 w.heap.size 0 (.int .i64 m.st)) hr).other (grown_setCell _ w.heap.size 1 (.slice a3 m.next.length c3)) hr).other (grown_setCell _ w.heap.size 2 (.slice a4 m.ends.length c4)) hr
    exact ⟨IsInts.of_owns hA2.head, IsBools.of_owns hA2.tail.head, ((hbw2.setCell (p := ⟨w.heap.size, 0, none⟩) (Nat.le_refl _) _).setCell (p := ⟨w.heap.size, 1, none⟩) (Nat.le_refl _) _).setCell (p := ⟨w.heap.size, 2, none⟩) (Nat.le_refl _) _⟩
  have FI := Lib.hid FIN
  obtain ⟨m00, m01, m02, x00, x01, x02⟩ := HR0.out _ hO.keep
  clear FIN hO hm hn hk2 hR hbw hRR
  go_wp2
  obtain ⟨r1, r6, r2⟩ := FI.out _ rfl
  have r3 : (((w2.setCell ⟨w.heap.size, 0, none⟩ (.int .i64 m.st)).setCell ⟨w.heap.size, 1, none⟩ (.slice a3 m.next.length c3)).setCell ⟨w.heap.size, 2, none⟩ (.slice a4 m.ends.length c4)).cell? ⟨w.heap.size, 0, none⟩ = some (.int .i64 m.st) := by go_simp
  have r4 : (((w2.setCell ⟨w.heap.size, 0, none⟩ (.int .i64 m.st)).setCell ⟨w.heap.size, 1, none⟩ (.slice a3 m.next.length c3)).setCell ⟨w.heap.size, 2, none⟩ (.slice a4 m.ends.length c4)).cell? ⟨w.heap.size, 1, none⟩ = some (.slice a3 m.next.length c3) := by go_simp
  have r5 : (((w2.setCell ⟨w.heap.size, 0, none⟩ (.int .i64 m.st)).setCell ⟨w.heap.size, 1, none⟩ (.slice a3 m.next.length c3)).setCell ⟨w.heap.size, 2, none⟩ (.slice a4 m.ends.length c4)).cell? ⟨w.heap.size, 2, none⟩ = some (.slice a4 m.ends.length c4) := by go_simp
  refine bodyPost_ret (v := .tuple #[.agg #[.int .i64 m.st, .slice a3 m.next.length c3, .slice a4 m.ends.length c4], .int .i64 n0]) ?_ rfl ⟨m, _, _, _, _, _, rfl, HM.out, HN.out.1, HN.out.2, r1, r6, r2⟩
  simp [results, Try.results23, go_sem, r3, r4, r5]
end Go.Proofs.Ytjdeahdngpccpaa

namespace Go.Proofs.Ytjdeahdngpccpaa
open Go.RowKit

theorem aliveG_any (w : World) : Calls Try.prog 18 #[] w fun e w' => e = .returned (.bool true) ∧ w = w' := by
  have h1 : wordOk ⟨#[114, 100, 110]⟩ = true := by decide +kernel
  have h2 : wordOk ⟨#[120]⟩ = false := by decide +kernel
  go_enter Try.func18, Try.ntmps18
  go_wp2_with (go_at_call 67; refine (implWordOk_any _ _ (by decide)).mono ?_; rintro e w' ⟨rfl, rfl⟩)
  go_ret
  exact ⟨rfl, rfl⟩
theorem rowG_len {w : World} {a : Option Addr} {len cap : Nat} {zs : List Int} (h : IsRow .u8 w a len cap zs) : len ≤ 9223372036854775807 := by
  rcases h with ⟨_, rfl, _⟩ | ⟨x, _, h1, h2, _⟩
  · exact Nat.zero_le _
  · exact Nat.le_trans h1 h2
end Go.Proofs.Ytjdeahdngpccpaa

namespace Go.Proofs.Ytjdeahdngpccpaa

/-- the first letter is put behind the others -/
def rt1 : List UInt8 → List UInt8
  | [] => []
  | c :: cs => cs ++ [c]
/-- so many letters are put behind the others -/
def rt : Nat → List UInt8 → List UInt8
  | 0, l => l
  | k + 1, l => rt1 (rt k l)
/-- whether a word comes befR another one, in the order r, d, n -/
def befR : List UInt8 → List UInt8 → Bool
  | a :: xs, b :: ys => if a = b then befR xs ys else decide (letterOf (a.toNat : Int) < letterOf (b.toNat : Int))
  | _, _ => false
/-- the first one of the first rolls -/
def leastTo (l : List UInt8) : Nat → List UInt8
  | 0 => l
  | k + 1 => if befR (rt (k + 1) l) (leastTo l k) = true then rt (k + 1) l else leastTo l k
/-- the first one of all rolls -/
def leastR (l : List UInt8) : List UInt8 := leastTo l (l.length - 1)
/-- how many rolls there are, sought from a number on -/
def perFrom (l : List UInt8) : Nat → Nat → Nat
  | 0, k => k
  | f + 1, k => if rt k l = l then k else perFrom l f (k + 1)
/-- how many different words a word is by rolling -/
def per (l : List UInt8) : Nat := perFrom l (l.length - 1) 1
/-- a text of a row of bytes -/
def txtOf (l : List UInt8) : ByteArray := ⟨l.toArray⟩
/-- LeastRoll -/
def leastRoll (s : ByteArray) : ByteArray := if wordOk s = true then txtOf (leastR s.data.toList) else ⟨#[]⟩
/-- RollsOf -/
def rollsOf (s : ByteArray) : Int := if wordOk s = true then (per s.data.toList : Int) else -1
end Go.Proofs.Ytjdeahdngpccpaa

namespace Go.Proofs.Ytjdeahdngpccpaa
open Go.RowKit

/-- StateFrom -/
def M.from (m : M) (s : Int) (word : ByteArray) : Int := if (m.ok && wordOk word && (decide (0 ≤ s) && decide (s ≤ m.st - 1))) = true then m.goes s word.data.toList else -2
/-- the least state from which a row of letters leads back, sought from a state on -/
def ringTo (m : M) (l : List UInt8) : Nat → Int → Int
  | 0, _ => -1
  | f + 1, s => if m.goes s l = s then s else ringTo m l f (s + 1)
/-- RingState of letters -/
def ringL (m : M) (l : List UInt8) : Int := ringTo m l m.st.toNat 0
/-- RingState -/
def ringState (m : M) (word : ByteArray) : Int := if (m.ok && wordOk word && decide (0 < word.size)) = true then ringL m word.data.toList else -1
/-- RingOk -/
def ringOk (m : M) (word : ByteArray) : Bool := decide (0 ≤ ringState m word)
/-- the sum of the first values of a function -/
def sumN (f : Nat → Int) : Nat → Int
  | 0 => 0
  | k + 1 => sumN f k + f k
/-- by how many letters a machine goes on from a state to another one -/
def M.steps (m : M) (i j : Nat) : Int := (if m.nx i 0 = (j : Int) then 1 else 0) + (if m.nx i 1 = (j : Int) then 1 else 0) + (if m.nx i 2 = (j : Int) then 1 else 0)
/-- of the first letters -/
def M.stepsTo (m : M) (l : Nat) (i j : Nat) : Int := sumN (fun c => if m.nx i (c : Int) = (j : Int) then 1 else 0) l
/-- the walks from state to state with one letter more than so many -/
def M.walks (m : M) : Nat → Nat → Nat → Int
  | 0, i, j => m.steps i j
  | k + 1, i, j => sumN (fun b => m.walks k i b * m.steps b j) m.ends.length
/-- the diagonal's sum -/
def M.backs (m : M) (k : Nat) : Int := sumN (fun i => m.walks k i i) m.ends.length
/-- bounds: 3, 432, .. -/
def wbd : Nat → Int
  | 0 => 3
  | k + 1 => 48 * (wbd k * 3)
/-- CountWalks -/
def ringNum (n : Int) : Bool := decide (1 ≤ n) && decide (n ≤ 6)
def countWalks (m : M) (n : Int) : Int := if (m.ok && ringNum n) = true then m.backs (n.toNat - 1) else -1

/-- a word of so many letters, told by a number: its letters are the digits in base 3, the least one first -/
def digits : Nat → Nat → List UInt8
  | 0, _ => []
  | k + 1, way => digits k way ++ [if way / 3 ^ k % 3 = 0 then 114 else if way / 3 ^ k % 3 = 1 then 100 else 110]
/-- all words of so many letters, each with each letter behind -/
def wordsL : Nat → List (List UInt8)
  | 0 => [[]]
  | k + 1 => (wordsL k).flatMap fun w => [w ++ [114], w ++ [100], w ++ [110]]
/-- how often a test holds in a row -/
def cntOf (p : List UInt8 → Bool) : List (List UInt8) → Int
  | [] => 0
  | w :: ws => (if p w = true then 1 else 0) + cntOf p ws
theorem cntOf_append (p : List UInt8 → Bool) (a b : List (List UInt8)) : cntOf p (a ++ b) = cntOf p a + cntOf p b := by
  induction a with
  | nil => simp [cntOf]
  | cons x xs ih => rw [List.cons_append, cntOf, cntOf, ih, Int.add_assoc]
theorem cntOf_flat (p : List UInt8 → Bool) (a : List (List UInt8)) : cntOf p (a.flatMap fun w => [w ++ [114], w ++ [100], w ++ [110]]) = cntOf (fun w => p (w ++ [114])) a + cntOf (fun w => p (w ++ [100])) a + cntOf (fun w => p (w ++ [110])) a := by
  induction a with
  | nil => simp [cntOf]
  | cons x xs ih =>
    rw [List.flatMap_cons, cntOf_append, ih]
    simp only [cntOf]; omega
theorem cntTo_add (p : Nat → Bool) (a b : Nat) : cntTo p (a + b) = cntTo p a + cntTo (fun i => p (a + i)) b := by
  induction b with
  | zero => simp [cntTo]
  | succ b ih => rw [← Nat.add_assoc, cntTo, cntTo, ih, Int.add_assoc]
theorem cntTo_cgr (p q : Nat → Bool) (k : Nat) (h : ∀ i, i < k → p i = q i) : cntTo p k = cntTo q k := by
  induction k with
  | zero => rfl
  | succ k ih => rw [cntTo, cntTo, ih (fun i hi => h i (by omega)), h k (by omega)]
theorem digits_mod (k j way : Nat) (h : k ≤ j) (t : Nat) : digits k (t * 3 ^ j + way) = digits k way := by
  induction k with
  | zero => rfl
  | succ k ih =>
    have e : (t * 3 ^ j + way) / 3 ^ k % 3 = way / 3 ^ k % 3 := by
      obtain ⟨d, rfl⟩ : ∃ d, j = k + 1 + d := ⟨j - (k + 1), by omega⟩
      have e1 : t * 3 ^ (k + 1 + d) + way = 3 ^ k * (3 * (t * 3 ^ d)) + way := by
        rw [Nat.pow_add, Nat.pow_succ]; simp [Nat.mul_comm, Nat.mul_assoc, Nat.mul_left_comm]
      rw [e1, Nat.mul_add_div (Nat.pow_pos (by omega)), Nat.mul_add_mod]
    rw [digits, digits, ih (by omega), e]
theorem digits_split (k way t : Nat) (h : way < 3 ^ k) (ht : t < 3) : digits (k + 1) (3 ^ k * t + way) = digits k way ++ [if t = 0 then 114 else if t = 1 then 100 else 110] := by
  have hp : 0 < 3 ^ k := Nat.pow_pos (by omega)
  have e : (3 ^ k * t + way) / 3 ^ k % 3 = t := by
    rw [Nat.mul_add_div hp, Nat.div_eq_of_lt h, Nat.add_zero, Nat.mod_eq_of_lt ht]
  rw [digits, e, Nat.mul_comm, digits_mod k k way (Nat.le_refl _) t]
/-- both ways to tell all words count the same -/
theorem words_count (k : Nat) (p : List UInt8 → Bool) : cntTo (fun way => p (digits k way)) (3 ^ k) = cntOf p (wordsL k) := by
  induction k generalizing p with
  | zero => simp [cntTo, cntOf, wordsL, digits]
  | succ k ih =>
    have part : ∀ (t : Nat) (c : UInt8), t < 3 → (if t = 0 then (114 : UInt8) else if t = 1 then 100 else 110) = c → cntTo (fun way => p (digits (k + 1) (3 ^ k * t + way))) (3 ^ k) = cntOf (fun w => p (w ++ [c])) (wordsL k) := by
      intro t c ht hc
      rw [← ih (fun w => p (w ++ [c]))]
      exact cntTo_cgr _ _ _ (fun i hi => by simp only [digits_split k i t hi ht, hc])
    have h0 := part 0 114 (by omega) rfl
    have h1 := part 1 100 (by omega) rfl
    have h2 := part 2 110 (by omega) rfl
    rw [show 3 ^ (k + 1) = 3 ^ k + 3 ^ k + 3 ^ k by rw [Nat.pow_succ]; omega, cntTo_add, cntTo_add, wordsL, cntOf_flat, ← h0, ← h1, ← h2]
    simp only [Nat.mul_zero, Nat.zero_add, Nat.mul_one]
    congr 1
    exact cntTo_cgr _ _ _ (fun i _ => by rw [show 3 ^ k * 2 = 3 ^ k + 3 ^ k by omega])
theorem wordsL_mem (k : Nat) (w : List UInt8) (h : w ∈ wordsL k) : w.length = k ∧ allL w = true := by
  induction k generalizing w with
  | zero => simp [wordsL] at h; subst h; exact ⟨rfl, rfl⟩
  | succ k ih =>
    rw [wordsL, List.mem_flatMap] at h
    obtain ⟨v, hv, hw⟩ := h
    obtain ⟨h1, h2⟩ := ih v hv
    rw [allL] at h2
    simp only [List.mem_cons, List.not_mem_nil, or_false] at hw
    rcases hw with rfl | rfl | rfl <;> (refine ⟨by simp [h1], ?_⟩; rw [allL, List.all_append, h2]; rfl)
/-- whether a word is a necklace of a machine -/
def neckB (m : M) (l : List UInt8) : Bool := decide (leastR l = l) && decide (0 ≤ ringL m l)
/-- CountNecklaces -/
def countNecks (m : M) (n : Int) : Int := if (m.ok && ringNum n) = true then cntOf (neckB m) (wordsL n.toNat) else -1
end Go.Proofs.Ytjdeahdngpccpaa

namespace Go.Proofs.Ytjdeahdngpccpaa

/-- a sum over words -/
def sumW (f : List UInt8 → Int) : List (List UInt8) → Int
  | [] => 0
  | w :: ws => f w + sumW f ws
theorem cntOf_sum (p : List UInt8 → Bool) (ws : List (List UInt8)) : cntOf p ws = sumW (fun w => if p w = true then 1 else 0) ws := by
  induction ws with
  | nil => rfl
  | cons w ws ih => rw [cntOf, sumW, ih]
theorem sumW_congr {f g : List UInt8 → Int} {ws : List (List UInt8)} (h : ∀ w ∈ ws, f w = g w) : sumW f ws = sumW g ws := by
  induction ws with
  | nil => rfl
  | cons w ws ih => rw [sumW, sumW, h w (by simp), ih (fun x hx => h x (by simp [hx]))]
/-- how many states a word leads back to themselves -/
def backAt (m : M) (l : List UInt8) (t : Nat) : Int := sumN (fun s => if m.goes (s : Int) l = (s : Int) then 1 else 0) t
/-- how many pairs of a word and a state lead back, of the first so many words -/
def backTo (m : M) (L way : Nat) : Int := sumN (fun v => backAt m (digits L v) m.ends.length) way
end Go.Proofs.Ytjdeahdngpccpaa

namespace Go.Proofs.Ytjdeahdngpccpaa
open Go.RowKit

/-- a letter by its number -/
def lettB (l : Nat) : UInt8 := if l = 0 then 114 else if l = 1 then 100 else 110
theorem pow3_big (r k : Nat) (h : k ≤ r) (hr : r ≤ 10) : 1 ≤ 3 ^ k ∧ 3 ^ k ≤ 3 ^ r ∧ 3 ^ r ≤ 59049 := by
  refine ⟨Nat.pow_pos (by omega), Nat.pow_le_pow_right (by omega) h, ?_⟩
  have := Nat.pow_le_pow_right (n := 3) (by omega) hr
  exact this
end Go.Proofs.Ytjdeahdngpccpaa

namespace Go.Proofs.Ytjdeahdngpccpaa

theorem words_first (k : Nat) (p : List UInt8 → Bool) : cntOf p (wordsL (k + 1)) = cntOf (fun w => p (114 :: w)) (wordsL k) + cntOf (fun w => p (100 :: w)) (wordsL k) + cntOf (fun w => p (110 :: w)) (wordsL k) := by
  induction k generalizing p with
  | zero => simp [wordsL, cntOf]; exact (Int.add_assoc _ _ _).symm
  | succ k ih =>
    have hf : ∀ j, wordsL (j + 1) = (wordsL j).flatMap fun w => [w ++ [114], w ++ [100], w ++ [110]] := fun j => rfl
    rw [hf (k + 1), cntOf_flat, ih, ih, ih, hf k, cntOf_flat, cntOf_flat, cntOf_flat]
    simp only [List.cons_append]
    omega
/-- the ways are the words that are taken from there -/
theorem ways_words (m : M) (k : Nat) (s : Int) : m.ways k s = cntOf (fun w => m.endAt (m.goes s w)) (wordsL k) := by
  induction k generalizing s with
  | zero => simp [M.ways_end, wordsL, cntOf, M.goes]; first | rfl | (split <;> rfl)
  | succ k ih =>
    have h1 : letterOf ((114 : UInt8).toNat : Int) = ((0 : Nat) : Int) := by decide
    have h2 : letterOf ((100 : UInt8).toNat : Int) = ((1 : Nat) : Int) := by decide
    have h3 : letterOf ((110 : UInt8).toNat : Int) = ((2 : Nat) : Int) := by decide
    rw [M.ways_succ, M.waysTo_succ, M.waysTo_succ, M.waysTo_succ, M.waysTo_zero, words_first, ih, ih, ih]
    simp only [M.goes, h1, h2, h3]
    omega
theorem cntOf_congr {p q : List UInt8 → Bool} {ws : List (List UInt8)} (h : ∀ w ∈ ws, p w = q w) : cntOf p ws = cntOf q ws := by
  rw [cntOf_sum, cntOf_sum]
  exact sumW_congr fun w hw => by rw [h w hw]
/-- .. by their language -/
theorem ways_lang (m : M) (k : Nat) : m.ways k 0 = cntOf (fun w => m.lang 0 (lettersF w)) (wordsL k) := by
  rw [ways_words]
  refine cntOf_congr fun w hw => ?_
  rw [M.lang, goes_walk m w (wordsL_mem k w hw).2]
theorem cntOf_or_and (p q : List UInt8 → Bool) (ws : List (List UInt8)) : cntOf (fun w => p w || q w) ws + cntOf (fun w => p w && q w) ws = cntOf p ws + cntOf q ws := by
  induction ws with
  | nil => rfl
  | cons w ws ih =>
    rw [cntOf, cntOf, cntOf, cntOf]
    cases p w <;> cases q w <;> simp <;> omega
/-- either is each, less both -/
theorem ways_either {a b e c : M} (he : ∀ u, e.lang 0 u = (a.lang 0 u || b.lang 0 u)) (hc : ∀ u, c.lang 0 u = (a.lang 0 u && b.lang 0 u)) (n : Nat) : e.ways n 0 + c.ways n 0 = a.ways n 0 + b.ways n 0 := by
  rw [ways_lang, ways_lang, ways_lang, ways_lang, ← cntOf_or_and (fun w => a.lang 0 (lettersF w)) (fun w => b.lang 0 (lettersF w))]
  congr 1
  · exact cntOf_congr fun w _ => he (lettersF w)
  · exact cntOf_congr fun w _ => hc (lettersF w)
/-- how many of the first so many words are taken -/
def takenTo (m : M) (L way : Nat) : Int := cntTo (fun v => m.endAt (m.goes 0 (digits L v))) way
theorem takenTo_all (m : M) (L : Nat) : takenTo m L (3 ^ L) = m.ways L 0 := by
  unfold takenTo
  rw [words_count L (fun w => m.endAt (m.goes 0 w)), ways_words]
end Go.Proofs.Ytjdeahdngpccpaa

namespace Go.Proofs.Ytjdeahdngpccpaa
open Go.RowKit

theorem infoIntW : (Try.prog.info? 3).map (fun i => (i.zero, i.size, i.bytes)) = some (some (.int .i64 0), 1, 8) := by kernel_rfl
theorem cellW (w : World) (u : Value) (t : TypeId) : ∀ j x, [u][j]? = some x → (w.alloc (.cells #[u] t)).cell? ((⟨w.heap.size, 0, none⟩ : Addr).add j) = some x := by
  intro j x hx
  rw [show (⟨w.heap.size, 0, none⟩ : Addr).add j = ⟨w.heap.size, j, none⟩ by unfold Addr.add; split <;> simp_all, World.cell?_alloc_new]
  simpa using hx
/-- a row of the first ways -/
def wT (m : M) (v : Value) (r k : Nat) : Thing := rowT 3 1 v k (((m.waysRow r).take k).map (Value.int .i64))
end Go.Proofs.Ytjdeahdngpccpaa

namespace Go.Proofs.Ytjdeahdngpccpaa
open Go.RowKit

/-- a block that holds a machine with a table -/
structure CtBox (B : Nat) (m : M) (N : Nat) (nv ev tv : Value) (w : World) : Prop where
  hB : B < w.heap.size
  c0 : w.cell? ⟨B, 0, none⟩ = some (.int .i64 m.st)
  c1 : w.cell? ⟨B, 1, none⟩ = some nv
  c2 : w.cell? ⟨B, 2, none⟩ = some ev
  c3 : w.cell? ⟨B, 3, none⟩ = some tv
  ints : IsInts w nv m.next
  tab : IsTab w tv m N
theorem CtBox.below {B : Nat} {m : M} {N : Nat} {nv ev tv : Value} {w w' : World} (h : CtBox B m N nv ev tv w) (hb : Below w.heap.size w w') : CtBox B m N nv ev tv w' :=
  ⟨Nat.lt_of_lt_of_le h.hB hb.size, (hb.cell (p := ⟨B, 0, none⟩) h.hB).trans h.c0, (hb.cell (p := ⟨B, 1, none⟩) h.hB).trans h.c1, (hb.cell (p := ⟨B, 2, none⟩) h.hB).trans h.c2, (hb.cell (p := ⟨B, 3, none⟩) h.hB).trans h.c3, h.ints.below hb, h.tab.below hb⟩
theorem CtBox.new {m : M} {N : Nat} {nv ev tv : Value} {w : World} (t : TypeId) (h1 : IsInts w nv m.next) (h2 : IsTab w tv m N) : CtBox w.heap.size m N nv ev tv (w.alloc (.cells #[.int .i64 m.st, nv, ev, tv] t)) :=
  ⟨by simp, World.cell?_alloc_new w _ _ 0, World.cell?_alloc_new w _ _ 1, World.cell?_alloc_new w _ _ 2, World.cell?_alloc_new w _ _ 3, h1.below ((Below.refl _ _).alloc (Nat.le_refl _) _), h2.alloc _⟩

set_option maxHeartbeats 800000 in
theorem implWays_any (m : M) (N k : Nat) (s : Int) (nv ev tv : Value) (w : World) (ht : IsTab w tv m N) (hm : m.good) (s0 : -1 ≤ s) (s1 : s < m.st) (hk : k ≤ N) :
    Calls Try.prog 74 #[.agg #[.int .i64 m.st, nv, ev, tv], .int .i64 s, .int .i64 (k : Int)] w fun e w' => e = .returned (.int .i64 (m.ways k s)) ∧ Below w.heap.size w w' := by
  by_cases hs : s = -1
  · subst hs
    have HN := Lib.hid (m.ways_lt k (-1) (by omega))
    clear ht hm
    go_enter Try.func74, Try.ntmps74
    go_wp2_with fail
    go_ret
    exact ⟨ret_int HN.out.symm, (Below.refl _ _).alloc (Nat.le_refl _) _⟩
  · obtain ⟨j, rfl⟩ := Int.eq_ofNat_of_zero_le (show 0 ≤ s by omega)
    have hsh := M.good_shape hm
    have hj : j < m.ends.length := by omega
    obtain ⟨g, off, cap, rfl, h1, h2, h3, h4⟩ := ht
    obtain ⟨rv, hr1, hr2⟩ := h4 k hk
    obtain ⟨ra, rn, rc, rfl⟩ := hr2.slice
    obtain ⟨gr, ofr, rfl, rfl, hc1, hc2, hgr, hcell⟩ := ints_cells hr2 (by rw [m.waysRow_length]; omega)
    replace hcell := hcell j (by rw [m.waysRow_length]; exact hj)
    rw [m.waysRow_at] at hcell
    have hrl := m.waysRow_length k
    unfold maxLen at h2 hc2
    have hjl : j < (m.waysRow k).length := by omega
    have hb1 : ((j : Int) == -1) = false := by simp
    clear hsh hm h4 hr2 hrl
    generalize (m.waysRow k).length = n at *
    generalize m.ways k (j : Int) = x at *
    go_enter Try.func74, Try.ntmps74
    go_wp2_with fail
    go_ret
    exact ⟨rfl, (Below.refl _ _).alloc (Nat.le_refl _) _⟩

set_option maxHeartbeats 1600000 in
theorem implWaysBy_any (m : M) (N k : Nat) (s left l : Int) (nv ev tv : Value) (w : World) (hi : IsInts w nv m.next) (ht : IsTab w tv m N) (hm : m.ok = true) (s0 : -1 ≤ s) (s1 : s < m.st) (l0 : 0 ≤ l) (l1 : l ≤ 2) (hl : left = (k : Int) + 1) (hk : k ≤ N) (hN : N ≤ 10) :
    Calls Try.prog 87 #[.agg #[.int .i64 m.st, nv, ev, tv], .int .i64 s, .int .i64 left, .int .i64 l] w fun e w' => e = .returned (.int .i64 (m.ways k (m.nx s l))) ∧ Below w.heap.size w w' := by
  have X0 := Lib.hid (CtBox.new (ev := ev) 77 hi ht)
  have q0 : Hid (Below w.heap.size w (w.alloc (.cells #[.int .i64 m.st, nv, ev, tv] 77))) := Lib.hid ((Below.refl _ _).alloc (Nat.le_refl _) _)
  have hw : IntKind.i64.wrap (left - 1) = (k : Int) := by rw [IntWalk.i64_in _ (by omega)]; omega
  have HC1 := Lib.hid (fun W a => implNextOf_any m s l nv ev W a hm s0 s1 l0 l1)
  have hnb := M.nx_bd hm s l s1 l0 l1
  have HC2 := Lib.hid (fun W a => implWays_any m N k (m.nx s l) nv ev tv W a (M.ok_good hm) hnb.1 hnb.2 hk)
  have c0 := X0.out.c0
  have c1 := X0.out.c1
  have c2 := X0.out.c2
  have c3 := X0.out.c3
  generalize m.ways k (m.nx s l) = x at *
  generalize m.nx s l = t at *
  clear hi ht hm hl hnb
  go_enter Try.func87, Try.ntmps87
  go_upto_region 1 with fail
  generalize (w.alloc (.cells #[.int .i64 m.st, nv, ev, tv] 77)) = W0 at *
  generalize hR : w.heap.size = R at *
  have HR := Lib.hid hR
  clear hR
  have X0d := Lib.hid (X0.out.below (Below.refl _ _).drew)
  go_region_with (first | (go_at_call 78; refine (HC1.out _ X0d.out.ints).mono ?_; rintro e w1 ⟨rfl, hb1⟩; have X1 := X0d.out.below hb1; have d0 := X1.c0; have d1 := X1.c1; have d2 := X1.c2; have d3 := X1.c3) | (go_at_call 74; refine (HC2.out _ X1.tab).mono ?_; rintro e w2 ⟨rfl, hb2⟩))
  all_goals
    go_wp2
    go_ret
    have hs0 : R ≤ W0.heap.size := by rw [← HR.out]; exact q0.out.size
    have q1 := q0.out.drew.trans (hb1.mono hs0)
    rw [HR.out]
    exact ⟨rfl, q1.trans (hb2.mono (by rw [← HR.out]; exact q1.size))⟩
end Go.Proofs.Ytjdeahdngpccpaa

namespace Go.Proofs.Ytjdeahdngpccpaa
open Go.RowKit

theorem infoSlW : (Try.prog.info? 23).map (fun i => (i.zero, i.size, i.bytes)) = some (some (.slice none 0 0), 1, 24) := by kernel_rfl
/-- the row of ends, the first ones told -/
def M.endRow (m : M) (k : Nat) : List Int := (List.range m.ends.length).map fun (s : Nat) => if s < k then m.ways 0 (s : Int) else 0
/-- a row of ways, the first ones told, and the first letters of one -/
def M.midRow (m : M) (n k l : Nat) : List Int := (List.range m.ends.length).map fun (s : Nat) => if s < k then m.ways (n + 1) (s : Int) else if s = k then m.waysTo n (s : Int) l else 0
theorem M.endRow_zero (m : M) : m.endRow 0 = List.replicate m.ends.length 0 := by
  apply List.ext_getElem
  · simp [M.endRow]
  · intro i h1 h2; simp [M.endRow]
theorem M.endRow_length (m : M) (k : Nat) : (m.endRow k).length = m.ends.length := by simp [M.endRow]
theorem M.endRow_all (m : M) : m.endRow m.ends.length = m.waysRow 0 := by
  apply List.ext_getElem
  · simp [M.endRow, M.waysRow]
  · intro i h1 h2
    rw [M.endRow_length] at h1
    simp [M.endRow, M.waysRow, h1]
theorem M.endRow_no {m : M} {k : Nat} (h : m.ways 0 (k : Int) = 0) : m.endRow (k + 1) = m.endRow k := by
  apply List.ext_getElem
  · simp [M.endRow]
  · intro i h1 h2
    simp only [M.endRow, List.getElem_map, List.getElem_range]
    by_cases e : i = k
    · subst e; rw [if_pos (by omega), if_neg (by omega), h]
    · by_cases g : i < k
      · rw [if_pos (by omega), if_pos g]
      · rw [if_neg (by omega), if_neg g]
theorem M.endRow_yes {m : M} {k : Nat} (h : m.ways 0 (k : Int) = 1) : m.endRow (k + 1) = (m.endRow k).set k 1 := by
  apply List.ext_getElem
  · simp [M.endRow]
  · intro i h1 h2
    rw [List.getElem_set]
    simp only [M.endRow, List.getElem_map, List.getElem_range]
    by_cases e : k = i
    · subst e; rw [if_pos rfl, if_pos (Nat.lt_succ_self _), h]
    · rw [if_neg e]
      by_cases g : i < k
      · rw [if_pos g, if_pos (by omega)]
      · rw [if_neg g, if_neg (by omega)]
theorem M.midRow_length (m : M) (n k l : Nat) : (m.midRow n k l).length = m.ends.length := by simp [M.midRow]
theorem M.midRow_zero (m : M) (n : Nat) : m.midRow n 0 0 = List.replicate m.ends.length 0 := by
  apply List.ext_getElem
  · simp [M.midRow]
  · intro i h1 h2
    simp only [M.midRow, List.getElem_map, List.getElem_range, List.getElem_replicate]
    rw [if_neg (by omega)]
    split
    · rfl
    · rfl
theorem M.midRow_all (m : M) (n : Nat) : m.midRow n m.ends.length 0 = m.waysRow (n + 1) := by
  apply List.ext_getElem
  · simp [M.midRow, M.waysRow]
  · intro i h1 h2
    rw [M.midRow_length] at h1
    simp [M.midRow, M.waysRow, h1]
theorem M.midRow_next (m : M) (n k : Nat) : m.midRow n k 3 = m.midRow n (k + 1) 0 := by
  apply List.ext_getElem
  · simp [M.midRow]
  · intro i h1 h2
    simp only [M.midRow, List.getElem_map, List.getElem_range]
    by_cases g : i < k
    · rw [if_pos g, if_pos (by omega)]
    · rw [if_neg g]
      by_cases e : i = k
      · subst e; rw [if_pos rfl, if_pos (by omega), m.ways_succ]
      · rw [if_neg e, if_neg (by omega)]
        split
        · rfl
        · rfl
theorem M.midRow_set (m : M) (n k l : Nat) : m.midRow n k (l + 1) = (m.midRow n k l).set k (m.waysTo n (k : Int) (l + 1)) := by
  apply List.ext_getElem
  · simp [M.midRow]
  · intro i h1 h2
    rw [List.getElem_set]
    simp only [M.midRow, List.getElem_map, List.getElem_range]
    by_cases e : k = i
    · subst e; rw [if_pos rfl, if_neg (Nat.lt_irrefl _), if_pos rfl]
    · rw [if_neg e]
      have e2 : ¬ i = k := fun h => e h.symm
      rw [if_neg e2, if_neg e2]
theorem M.midRow_at (m : M) (n k l : Nat) (h : k < m.ends.length) : ((m.midRow n k l).map (Value.int .i64))[k]? = some (.int .i64 (m.waysTo n (k : Int) l)) := by
  rw [List.getElem?_map, List.getElem?_eq_getElem (by rw [m.midRow_length]; exact h)]
  simp [M.midRow]

set_option maxHeartbeats 3200000 in
theorem implCounts_core (xs : List Int) (bs : List Bool) (nv ev : Value) (w : World) (h1 : IsInts w nv xs) (h2 : IsBools w ev bs) (hg : M.ok ⟨(bs.length : Int), xs, bs⟩ = true) (N : Nat) (hN : N ≤ 10) :
    Calls Try.prog 73 #[.agg #[.int .i64 (bs.length : Int), nv, ev], .int .i64 (N : Int)] w fun e w' => ∃ tv, e = .returned (.agg #[.int .i64 (bs.length : Int), nv, ev, tv]) ∧ IsTab w' tv ⟨(bs.length : Int), xs, bs⟩ N ∧ Below w.heap.size w w' := by
  obtain ⟨i0, hi, hz0, hz1, hz2⟩ := info_parts infoIntW
  obtain ⟨s0, hs, hy0, hy1, hy2⟩ := info_parts infoSlW
  have hsh := M.ok_shape hg
  simp only at hsh
  have HI := Lib.hid (And.intro hi (And.intro hz0 (And.intro hz1 hz2)))
  have HMK := Lib.hid (show i0.bytes * bs.length ≤ 281474976710656 by rw [hz2]; omega)
  have HJ := Lib.hid (And.intro hs (And.intro hy0 (And.intro hy1 hy2)))
  clear hi hz0 hz1 hz2 hs hy0 hy1 hy2
  have HI1 := Lib.hid h1
  obtain ⟨an, nn, cn, rfl⟩ := h1.slice
  obtain ⟨ae, ne, ce, rfl⟩ := h2.slice
  obtain ⟨g2, off2, rfl, rfl, hg2, hcellE⟩ := bools_cells3 h2 (by omega)
  have M0 := Lib.hid (MachBox.new (st := (bs.length : Int)) 26 h1 h2)
  have K0 := Lib.hid ((Below.refl w.heap.size w).alloc (Nat.le_refl _) (.cells #[.int .i64 (bs.length : Int), .slice an nn cn, .slice (some ⟨g2, off2, none⟩) bs.length ce] 26))
  have hb4 : bs.length ≤ 48 := by omega
  have HL3 := Lib.hid hsh
  have HG := Lib.hid hg
  clear h1 h2 hcellE hsh hg
  have y0 := M0.out.c0
  have y1 := M0.out.c1
  have y2 := M0.out.c2
  go_enter Try.func73, Try.ntmps73
  go_upto_region 2 with fail
  generalize hW0 : (w.alloc (.cells #[.int .i64 (bs.length : Int), .slice an nn cn, .slice (some ⟨g2, off2, none⟩) bs.length ce] 26)) = W0 at *
  have hsz : W0.heap.size = w.heap.size + 1 := by rw [← hW0]; simp
  clear hW0
  have O0 := ((Own.nil W0).box #[.int .i64 0, .slice none 0 0, .slice none 0 0, .slice none 0 0] 77).box #[.int .i64 (bs.length : Int), .slice an nn cn, .slice (some ⟨g2, off2, none⟩) bs.length ce, .slice none 0 0] 77
  rw [World.size_alloc, hsz] at O0
  have HSZ := Lib.hid (show w.heap.size ≤ W0.heap.size by omega)
  have K0 := Lib.hid K0.out
  clear hsz
  generalize hR2 : w.heap.size + 1 + 1 = R2 at *
  clear hR2
  generalize hR1 : w.heap.size + 1 = R1 at *
  clear hR1
  generalize hR : w.heap.size = R at *
  have HR := Lib.hid hR
  clear hR
  generalize ((W0.alloc (.cells #[.int .i64 0, .slice none 0 0, .slice none 0 0, .slice none 0 0] 77)).alloc (.cells #[.int .i64 (bs.length : Int), .slice an nn cn, .slice (some ⟨g2, off2, none⟩) bs.length ce, .slice none 0 0] 77)) = W1 at *
  generalize hm : (⟨(bs.length : Int), xs, bs⟩ : M) = m at *
  have HME : Hid (m.ends = bs) := by rw [← hm]; exact Lib.hid rfl
  have HMN : Hid (m.next = xs) := by rw [← hm]; exact Lib.hid rfl
  have HMS : Hid (m.st = (bs.length : Int)) := by rw [← hm]; exact Lib.hid rfl
  have HM := Lib.hid hm
  clear hm
  have AT : Hid (∀ W, Below W0.heap.size W0 W → W.cell? ⟨R, 0, none⟩ = some (.int .i64 (bs.length : Int)) ∧ W.cell? ⟨R, 1, none⟩ = some (.slice an nn cn) ∧ W.cell? ⟨R, 2, none⟩ = some (.slice (some ⟨g2, off2, none⟩) bs.length ce) ∧
      IsInts W (.slice an nn cn) xs ∧ (∀ k (h : k < bs.length), W.cell? ⟨g2, off2 + k, none⟩ = some (.bool bs[k]))) := Lib.hid (by
    intro W hW
    have M1 := M0.out.below hW
    obtain ⟨g, o, he, _, _, hc2⟩ := bools_cells3 M1.bools (by have := HL3.out; omega)
    simp only [Option.some.injEq, Addr.mk.injEq, and_true] at he
    obtain ⟨rfl, rfl⟩ := he
    exact ⟨M1.c0, M1.c1, M1.c2, M1.ints, hc2⟩)
  clear M0 y0 y1 y2
  have O1 := Lib.hid O0
  clear O0
  obtain ⟨y0, y1, y2, -, -⟩ := AT.out _ O1.out.keep
  go_wp2_with (at_make; refine wpList_make_full _ rfl _ _ 23 rfl 0 3 i0 (.int .i64 0) 1 Try.underlying23 HI.out.1 HI.out.2.1 HI.out.2.2.1 .i64 .i64 _ _ bs.length rfl rfl rfl rfl HMK.out (by unfold maxLen; omega) (Nat.zero_le _) ?_; intro w3 hown3 hgrow3; have O2 := Lib.hid (Own.new O1.out hgrow3 hown3); obtain ⟨z0, z1, z2, -, -⟩ := AT.out _ O2.out.keep; clear hown3 hgrow3)
  have hmade : (madeCells (Value.int .i64 0).cells (bs.length * 1)).toList = (m.endRow 0).map (Value.int .i64) := by
    rw [Nat.mul_one, m.endRow_zero, HME.out, List.map_replicate]; exact toList_madeCells_one _ _
  rw [hmade] at O2
  clear hmade z0 z1 z2 y0 y1 y2 O1
  generalize W1.heap.size = G at *
  go_loopw [21] (fun i wr => ∃ k : Nat, k ≤ bs.length ∧ i = .int .i64 (k : Int) ∧ Own W0 [rowT 3 1 (.slice (some ⟨G, 0, none⟩) bs.length bs.length) bs.length ((m.endRow k).map (Value.int .i64)),
    cellsT R2 #[.int .i64 (bs.length : Int), .slice an nn cn, .slice (some ⟨g2, off2, none⟩) bs.length ce, .slice none 0 0] 77, cellsT R1 #[.int .i64 0, .slice none 0 0, .slice none 0 0, .slice none 0 0] 77] wr) (fun i _ => bs.length - (intOf i).toNat)
  case atStart => exact ⟨0, Nat.zero_le _, rfl, O2.out⟩
  case round =>
    obtain ⟨k, hk, rfl, hO⟩ := hrel
    have O3 := Lib.hid hO
    clear hO O2
    by_cases hlt : k < bs.length
    · obtain ⟨-, -, -, -, hcb⟩ := AT.out _ O3.out.keep
      have hcell := hcb k hlt
      have hltI : (k : Int) < (bs.length : Int) := by omega
      have HW : Hid (m.ways 0 (k : Int) = if bs[k] = true then 1 else 0) := Lib.hid (by
        have h : m.endAt (k : Int) = bs[k] := by
          rw [M.endAt, if_neg (by omega), HME.out, Int.toNat_natCast, List.getD_eq_getElem?_getD, List.getElem?_eq_getElem hlt]; rfl
        rw [M.ways_end, h])
      clear hcb
      generalize bs[k] = b at *
      cases b with
      | true =>
        have HW2 : Hid (m.endRow (k + 1) = (m.endRow k).set k 1) := Lib.hid (M.endRow_yes (by rw [HW.out]; rfl))
        have hrow := O3.out.row 0 (by simp) rfl
        have hfr := World.ownsRow.frozenAt hrow k
        have hold : ∃ u, wr.cell? ⟨G, k, none⟩ = some u := ⟨_, (World.ownsRow.cellAt hrow k (by omega)).trans (by rw [List.getElem?_map, List.getElem?_eq_getElem (by rw [m.endRow_length, HME.out]; exact hlt)]; rfl)⟩
        obtain ⟨u0, hold⟩ := hold
        have O4 := Lib.hid (O3.out.store (i := 0) (by simp) rfl k (.int .i64 1))
        clear hrow HW
        go_wp2_with fail
        go_roundw
        case rel => exact ⟨k + 1, by omega, by go_num, by rw [HW2.out, List.map_set]; exact O4.out⟩
        case measure => simp [intOf]; omega
      | false =>
        have HW2 : Hid (m.endRow (k + 1) = m.endRow k) := Lib.hid (M.endRow_no (by rw [HW.out]; rfl))
        clear HW
        go_wp2_with fail
        go_roundw
        case rel => exact ⟨k + 1, by omega, by go_num, by rw [HW2.out]; exact O3.out⟩
        case measure => simp [intOf]; omega
    · obtain rfl : k = bs.length := by omega
      have hend : m.endRow bs.length = m.waysRow 0 := by rw [← HME.out]; exact m.endRow_all
      rw [hend] at O3
      clear hend
      have O4 := Lib.hid (O3.out.idle 23)
      have c3 := cellsT_cell (O4.out.cells 2 (by simp) rfl) 3
      simp only [List.getElem?_toArray, List.getElem?_cons_succ, List.getElem?_cons_zero] at c3
      go_wp2_with (at_builtin; refine wpList_append_lies _ rfl _ _ 75 rfl 0 23 s0 (.slice none 0 0) 1 24 Try.underlying75 HJ.out.1 HJ.out.2.1 HJ.out.2.2.1 HJ.out.2.2.2 rfl (by decide) (.slice none 0 0) 0 [] rfl ((O4.out.row 0 (by simp) rfl).alloc _) ⟨wr.heap.size, 0, none⟩ 1 1 [.slice (some ⟨G, 0, none⟩) bs.length bs.length] rfl rfl (cellW _ _ _) (by simp [Value.oneCell']) (by omega) (by unfold maxLen; omega) (by omega) (Nat.zero_le _) _ rfl ?_; intro g9 cp w4 hown hgrow hat hlt3; have O5 := Lib.hid (O4.out.push (i := 0) (by simp) rfl hgrow hown hat); have c4 := cellsT_cell (O5.out.cells 2 (by simp) rfl) 3; have f4 := cellsT_frozen (O5.out.cells 2 (by simp) rfl) 3; simp only [List.getElem?_toArray, List.getElem?_cons_succ, List.getElem?_cons_zero] at c4; clear hown hgrow hat hlt3)
      have O6 := Lib.hid (O5.out.put (i := 2) (by simp) rfl 3 (.slice (some ⟨g9, 0, none⟩) 1 cp))
      have O7 : Hid (Own W0 (cellsT R2 #[.int .i64 (bs.length : Int), .slice an nn cn, .slice (some ⟨g2, off2, none⟩) bs.length ce, .slice (some ⟨g9, 0, none⟩) (0 + 1) cp] 77 :: rowT 23 1 (.slice (some ⟨g9, 0, none⟩) (0 + 1) cp) (0 + 1) [.slice (some ⟨G, 0, none⟩) bs.length bs.length] :: cellsT R1 #[.int .i64 0, .slice none 0 0, .slice none 0 0, .slice none 0 0] 77 :: [inn (.slice (some ⟨G, 0, none⟩) bs.length bs.length, m.waysRow 0)]) (w4.setCell ⟨R2, 3, none⟩ (.slice (some ⟨g9, 0, none⟩) 1 cp))) := Lib.hid (by
        have h := O6.out
        have hi : inn (.slice (some ⟨G, 0, none⟩) bs.length bs.length, m.waysRow 0) = rowT 3 1 (.slice (some ⟨G, 0, none⟩) bs.length bs.length) bs.length ((m.waysRow 0).map (Value.int .i64)) := by unfold inn; rw [m.waysRow_length, HME.out]
        rw [hi]
        refine h.perm ?_
        have p : ∀ (a b c d : Thing), [a, b, c, d].Perm [c, a, d, b] := fun a b c d => by
          have h1 : [a, b, c, d].Perm (c :: [a, b, d]) := List.perm_middle (l₁ := [a, b]) (l₂ := [d])
          exact h1.trans (((List.Perm.swap d b []).cons a).cons c)
        exact p _ _ _ _)
      have HG1 : Hid (m.st = (bs.length : Int) ∧ m.ok = true ∧ m.next = xs) := Lib.hid ⟨HMS.out, HG.out, HMN.out⟩
      clear O3 O4 O5 O6 c3 c4 f4
      generalize hWX : (w4.setCell ⟨R2, 3, none⟩ (.slice (some ⟨g9, 0, none⟩) 1 cp)) = WX at *
      clear hWX
      go_loopw [9] (fun i wr => ∃ (n g c : Nat) (ps : List (Value × List Int)) (left : Int), n ≤ N ∧ left = (n : Int) + 1 ∧ i = .int .i64 left ∧ ps.length = n + 1 ∧ ps.map Prod.snd = (List.range (n + 1)).map m.waysRow ∧
        Own W0 (cellsT R2 #[.int .i64 (bs.length : Int), .slice an nn cn, .slice (some ⟨g2, off2, none⟩) bs.length ce, .slice (some ⟨g, 0, none⟩) (n + 1) c] 77 :: rowT 23 1 (.slice (some ⟨g, 0, none⟩) (n + 1) c) (n + 1) (ps.map Prod.fst) :: cellsT R1 #[.int .i64 0, .slice none 0 0, .slice none 0 0, .slice none 0 0] 77 :: ps.map inn) wr) (fun i _ => N + 1 - (intOf i).toNat)
      case atStart => exact ⟨0, g9, cp, [(.slice (some ⟨G, 0, none⟩) bs.length bs.length, m.waysRow 0)], 1, Nat.zero_le _, rfl, rfl, rfl, rfl, O7.out⟩
      case round =>
        obtain ⟨n, gO, cO, ps, left, hn, hleft, rfl, hpl, hps, hO⟩ := hrel
        have O8 := Lib.hid hO
        have HPL := Lib.hid hpl
        have HPS := Lib.hid hps
        have HLE := Lib.hid hleft
        clear hO O7 hpl hps
        by_cases hlt : left ≤ (N : Int)
        · have hn10 : n < 10 := by omega
          have hl11 : left ≤ 10 := by omega
          have hl1 : 1 ≤ left := by omega
          clear hleft
          obtain ⟨y0, -, -, -, -⟩ := AT.out _ O8.out.keep
          go_wp2_with (at_make; refine wpList_make_full _ rfl _ _ 23 rfl 0 3 i0 (.int .i64 0) 1 Try.underlying23 HI.out.1 HI.out.2.1 HI.out.2.2.1 .i64 .i64 _ _ bs.length rfl rfl rfl rfl HMK.out (by unfold maxLen; omega) (Nat.zero_le _) ?_; intro w3 hown3 hgrow3; have O9 := Lib.hid (Own.new O8.out hgrow3 hown3); clear hown3 hgrow3)
          have hmade : (madeCells (Value.int .i64 0).cells (bs.length * 1)).toList = (m.midRow n 0 0).map (Value.int .i64) := by
            rw [Nat.mul_one, m.midRow_zero, HME.out, List.map_replicate]; exact toList_madeCells_one _ _
          rw [hmade] at O9
          clear hmade y0 O8
          generalize wr.heap.size = G5 at *
          go_loopw [47] (fun i wr => ∃ k : Nat, k ≤ bs.length ∧ i = .int .i64 (k : Int) ∧ Own W0 (rowT 3 1 (.slice (some ⟨G5, 0, none⟩) bs.length bs.length) bs.length ((m.midRow n k 0).map (Value.int .i64)) :: cellsT R2 #[.int .i64 (bs.length : Int), .slice an nn cn, .slice (some ⟨g2, off2, none⟩) bs.length ce, .slice (some ⟨gO, 0, none⟩) (n + 1) cO] 77 :: rowT 23 1 (.slice (some ⟨gO, 0, none⟩) (n + 1) cO) (n + 1) (ps.map Prod.fst) :: cellsT R1 #[.int .i64 0, .slice none 0 0, .slice none 0 0, .slice none 0 0] 77 :: ps.map inn) wr) (fun i _ => bs.length - (intOf i).toNat)
          case atStart => exact ⟨0, Nat.zero_le _, rfl, O9.out⟩
          case round =>
            obtain ⟨k, hk, rfl, hO⟩ := hrel
            have O10 := Lib.hid hO
            clear hO O9
            by_cases hltk : k < bs.length
            · have hltI : (k : Int) < (bs.length : Int) := by omega
              go_wp2_with fail
              go_loopw [50] (fun i wr => ∃ l : Nat, l ≤ 3 ∧ i = .int .i64 (l : Int) ∧ Own W0 (rowT 3 1 (.slice (some ⟨G5, 0, none⟩) bs.length bs.length) bs.length ((m.midRow n k l).map (Value.int .i64)) :: cellsT R2 #[.int .i64 (bs.length : Int), .slice an nn cn, .slice (some ⟨g2, off2, none⟩) bs.length ce, .slice (some ⟨gO, 0, none⟩) (n + 1) cO] 77 :: rowT 23 1 (.slice (some ⟨gO, 0, none⟩) (n + 1) cO) (n + 1) (ps.map Prod.fst) :: cellsT R1 #[.int .i64 0, .slice none 0 0, .slice none 0 0, .slice none 0 0] 77 :: ps.map inn) wr) (fun i _ => 3 - (intOf i).toNat)
              case atStart => exact ⟨0, by omega, rfl, O10.out⟩
              case round =>
                obtain ⟨l, hl, rfl, hO⟩ := hrel
                have O11 := Lib.hid hO
                clear hO O10
                by_cases hl3 : l < 3
                · have hrow := O11.out.row 0 (by simp) rfl
                  have HAT := Lib.hid (m.midRow_at n k l (by rw [HME.out]; exact hltk))
                  have hx0 := (World.ownsRow.cellAt hrow k (by omega)).trans HAT.out
                  have hf0 := World.ownsRow.frozenAt hrow k
                  have hc0 := cellsT_cell (O11.out.cells 1 (by simp) rfl) 0
                  have hc1 := cellsT_cell (O11.out.cells 1 (by simp) rfl) 1
                  have hc2 := cellsT_cell (O11.out.cells 1 (by simp) rfl) 2
                  have hc3 := cellsT_cell (O11.out.cells 1 (by simp) rfl) 3
                  simp only [List.getElem?_toArray, List.getElem?_cons_succ, List.getElem?_cons_zero] at hc0 hc1 hc2 hc3
                  have HTB := Lib.hid (fun (W : World) (h : Own W0 (rowT 3 1 (.slice (some ⟨G5, 0, none⟩) bs.length bs.length) bs.length ((m.midRow n k l).map (Value.int .i64)) :: cellsT R2 #[.int .i64 (bs.length : Int), .slice an nn cn, .slice (some ⟨g2, off2, none⟩) bs.length ce, .slice (some ⟨gO, 0, none⟩) (n + 1) cO] 77 :: rowT 23 1 (.slice (some ⟨gO, 0, none⟩) (n + 1) cO) (n + 1) (ps.map Prod.fst) :: cellsT R1 #[.int .i64 0, .slice none 0 0, .slice none 0 0, .slice none 0 0] 77 :: ps.map inn) W) =>
                    Own.tab (N := n) (ov := .slice (some ⟨gO, 0, none⟩) (n + 1) cO) (ps := ps) h HPL.out HPS.out (by rw [HPL.out]; simp) (fun p hp => List.mem_cons_of_mem _ (List.mem_cons_of_mem _ (List.mem_cons_of_mem _ (List.mem_cons_of_mem _ (List.mem_map_of_mem hp))))))
                  have HCALL : Hid (∀ W, Own W0 (rowT 3 1 (.slice (some ⟨G5, 0, none⟩) bs.length bs.length) bs.length ((m.midRow n k l).map (Value.int .i64)) :: cellsT R2 #[.int .i64 (bs.length : Int), .slice an nn cn, .slice (some ⟨g2, off2, none⟩) bs.length ce, .slice (some ⟨gO, 0, none⟩) (n + 1) cO] 77 :: rowT 23 1 (.slice (some ⟨gO, 0, none⟩) (n + 1) cO) (n + 1) (ps.map Prod.fst) :: cellsT R1 #[.int .i64 0, .slice none 0 0, .slice none 0 0, .slice none 0 0] 77 :: ps.map inn) W →
                      Calls Try.prog 87 #[.agg #[.int .i64 (bs.length : Int), .slice an nn cn, .slice (some ⟨g2, off2, none⟩) bs.length ce, .slice (some ⟨gO, 0, none⟩) (n + 1) cO], .int .i64 (k : Int), .int .i64 left, .int .i64 (l : Int)] W fun e w' => e = .returned (.int .i64 (m.ways n (m.nx (k : Int) (l : Int)))) ∧ Below W.heap.size W w') := Lib.hid (fun W h => by
                    have := implWaysBy_any m n n (k : Int) left (l : Int) (.slice an nn cn) (.slice (some ⟨g2, off2, none⟩) bs.length ce) (.slice (some ⟨gO, 0, none⟩) (n + 1) cO) W (by rw [HG1.out.2.2]; exact (AT.out _ h.keep).2.2.2.1) (HTB.out W h) HG1.out.2.1 (by omega) (by rw [HG1.out.1]; omega) (by omega) (by omega) HLE.out (Nat.le_refl _) (by omega)
                    rwa [HG1.out.1] at this)
                  have HST := Lib.hid (m.waysTo_succ n (k : Int) l)
                  have hb1 := m.waysTo_bd n (k : Int) l hl (by omega)
                  have hb2 := m.waysTo_bd n (k : Int) (l + 1) (by omega) (by omega)
                  have hsum : IntKind.i64.wrap (m.waysTo n (k : Int) l + m.ways n (m.nx (k : Int) (l : Int))) = m.waysTo n (k : Int) (l + 1) := by
                    rw [← HST.out]; exact IntWalk.i64_in _ (by omega)
                  have HSET := Lib.hid (m.midRow_set n k l)
                  clear hrow HST hb1 hb2
                  generalize m.ways n (m.nx (k : Int) (l : Int)) = x at *
                  generalize m.waysTo n (k : Int) l = S at *
                  generalize m.waysTo n (k : Int) (l + 1) = S' at *
                  have O12 := Lib.hid (O11.out.same (grown_drew wr none))
                  go_wp2_with fail
                  go_region_law (first | (go_simp; go_at_call 87; refine (HCALL.out _ O12.out).mono ?_; rintro e w5 ⟨rfl, hb5⟩; have O13 := Lib.hid (O12.out.below hb5); have hx5 := (World.ownsRow.cellAt (O13.out.row 0 (by simp) rfl) k (by omega)).trans HAT.out; have hf5 := World.ownsRow.frozenAt (O13.out.row 0 (by simp) rfl) k))
                  all_goals
                    have O14 := Lib.hid (O13.out.store (i := 0) (by simp) rfl k (.int .i64 S'))
                    go_wp2
                    go_roundw
                    case rel => exact ⟨l + 1, by omega, by go_num, by rw [HSET.out, List.map_set]; exact O14.out⟩
                    case measure => simp [intOf]; omega
                · obtain rfl : l = 3 := by omega
                  have HNX := Lib.hid (m.midRow_next n k)
                  go_wp2_with fail
                  go_roundw
                  case rel => exact ⟨k + 1, by omega, by go_num, by rw [← HNX.out]; exact O11.out⟩
                  case measure => simp [intOf]; omega
            · obtain rfl : k = bs.length := by omega
              have hall : m.midRow n bs.length 0 = m.waysRow (n + 1) := by rw [← HME.out]; exact m.midRow_all n
              rw [hall] at O10
              clear hall
              have c3 := cellsT_cell (O10.out.cells 1 (by simp) rfl) 3
              simp only [List.getElem?_toArray, List.getElem?_cons_succ, List.getElem?_cons_zero] at c3
              have hpn : n + 1 ≤ 10 := by omega
              go_wp2_with (at_builtin; refine wpList_append_lies _ rfl _ _ 75 rfl 0 23 s0 (.slice none 0 0) 1 24 Try.underlying75 HJ.out.1 HJ.out.2.1 HJ.out.2.2.1 HJ.out.2.2.2 rfl (by decide) (.slice (some ⟨gO, 0, none⟩) (n + 1) cO) (n + 1) (ps.map Prod.fst) rfl ((O10.out.row 2 (by simp) rfl).alloc _) ⟨wr.heap.size, 0, none⟩ 1 1 [.slice (some ⟨G5, 0, none⟩) bs.length bs.length] rfl rfl (cellW _ _ _) (by simp [Value.oneCell']) (by omega) (by unfold maxLen; omega) (by omega) (Nat.zero_le _) _ rfl ?_; intro g10 cp2 w6 hown hgrow hat hlt3; have O15 := Lib.hid (O10.out.push (i := 2) (by simp) rfl hgrow hown hat); have c4 := cellsT_cell (O15.out.cells 1 (by simp) rfl) 3; have f4 := cellsT_frozen (O15.out.cells 1 (by simp) rfl) 3; simp only [List.getElem?_toArray, List.getElem?_cons_succ, List.getElem?_cons_zero] at c4; clear hown hgrow hat hlt3)
              have O16 := Lib.hid (O15.out.put (i := 1) (by simp) rfl 3 (.slice (some ⟨g10, 0, none⟩) (n + 1 + 1) cp2))
              have hq : IntKind.i64.wrap (left + 1) = left + 1 := IntWalk.i64_in _ (by omega)
              go_roundw
              case rel =>
                refine ⟨n + 1, g10, cp2, ps ++ [(.slice (some ⟨G5, 0, none⟩) bs.length bs.length, m.waysRow (n + 1))], left + 1, by have := HLE.out; omega, by have := HLE.out; omega, by first | rfl | rw [hq], by rw [List.length_append, HPL.out]; rfl, by rw [List.map_append, HPS.out, List.range_succ (n := n + 1), List.map_append]; rfl, ?_⟩
                have h := O16.out
                have hi : inn (.slice (some ⟨G5, 0, none⟩) bs.length bs.length, m.waysRow (n + 1)) = rowT 3 1 (.slice (some ⟨G5, 0, none⟩) bs.length bs.length) bs.length ((m.waysRow (n + 1)).map (Value.int .i64)) := by unfold inn; rw [m.waysRow_length, HME.out]
                rw [List.map_append, List.map_append]
                refine h.perm ?_
                rw [← hi]
                exact (List.perm_append_singleton (inn (.slice (some ⟨G5, 0, none⟩) bs.length bs.length, m.waysRow (n + 1))) _).symm
              case measure => simp [intOf]; omega
        · have HN : Hid (n = N) := Lib.hid (by omega)
          have hc0 := cellsT_cell (O8.out.cells 0 (by simp) rfl) 0
          have hc1 := cellsT_cell (O8.out.cells 0 (by simp) rfl) 1
          have hc2 := cellsT_cell (O8.out.cells 0 (by simp) rfl) 2
          have hc3 := cellsT_cell (O8.out.cells 0 (by simp) rfl) 3
          have d0 := cellsT_cell (O8.out.cells 2 (by simp) rfl) 0
          have d1 := cellsT_cell (O8.out.cells 2 (by simp) rfl) 1
          have d2 := cellsT_cell (O8.out.cells 2 (by simp) rfl) 2
          have d3 := cellsT_cell (O8.out.cells 2 (by simp) rfl) 3
          have f0 := cellsT_frozen (O8.out.cells 2 (by simp) rfl)
          simp only [List.getElem?_toArray, List.getElem?_cons_succ, List.getElem?_cons_zero] at hc0 hc1 hc2 hc3 d0 d1 d2 d3
          clear hleft
          go_wp2_with fail
          have O20 := (((O8.out.put (i := 2) (by simp) rfl 0 (.int .i64 (bs.length : Int))).put (i := 2) (by simp) rfl 1 (.slice an nn cn)).put (i := 2) (by simp) rfl 2 (.slice (some ⟨g2, off2, none⟩) bs.length ce)).put (i := 2) (by simp) rfl 3 (.slice (some ⟨gO, 0, none⟩) (n + 1) cO)
          have r0 := cellsT_cell (O20.cells 2 (by simp) rfl) 0
          have r1 := cellsT_cell (O20.cells 2 (by simp) rfl) 1
          have r2 := cellsT_cell (O20.cells 2 (by simp) rfl) 2
          have r3 := cellsT_cell (O20.cells 2 (by simp) rfl) 3
          have hT := Own.tab (N := n) (m := m) (ov := .slice (some ⟨gO, 0, none⟩) (n + 1) cO) (ps := ps) O20 HPL.out HPS.out (by rw [HPL.out]; simp) (fun p hp => by
            refine List.mem_cons_of_mem _ (List.mem_cons_of_mem _ (List.mem_cons_of_mem _ (List.mem_map_of_mem hp))))
          have HT := Lib.hid (And.intro hT (K0.out.trans (O20.keep.mono HSZ.out)))
          clear hT O20
          generalize hWE : ((((wr.setCell ⟨R1, 0, none⟩ (.int .i64 (bs.length : Int))).setCell ⟨R1, 1, none⟩ (.slice an nn cn)).setCell ⟨R1, 2, none⟩ (.slice (some ⟨g2, off2, none⟩) bs.length ce)).setCell ⟨R1, 3, none⟩ (.slice (some ⟨gO, 0, none⟩) (n + 1) cO)) = WE at *
          refine bodyPost_ret (v := .agg #[.int .i64 (bs.length : Int), .slice an nn cn, .slice (some ⟨g2, off2, none⟩) bs.length ce, .slice (some ⟨gO, 0, none⟩) (n + 1) cO]) ?_ rfl ⟨.slice (some ⟨gO, 0, none⟩) (n + 1) cO, rfl, by rw [HM.out, ← HN.out]; exact HT.out.1, by rw [HR.out]; exact HT.out.2⟩
          simp at r0 r1 r2 r3
          simp [results, Try.results73, go_sem, r0, r1, r2, r3]

theorem implCounts_any (m : M) (N : Nat) (nv ev : Value) (w : World) (h1 : IsInts w nv m.next) (h2 : IsBools w ev m.ends) (hg : m.ok = true) (hN : N ≤ 10) :
    Calls Try.prog 73 #[.agg #[.int .i64 m.st, nv, ev], .int .i64 (N : Int)] w fun e w' => ∃ tv, e = .returned (.agg #[.int .i64 m.st, nv, ev, tv]) ∧ IsTab w' tv m N ∧ Below w.heap.size w w' := by
  obtain ⟨st, xs, bs⟩ := m
  obtain rfl : st = (bs.length : Int) := (M.ok_shape hg).2.2.2.symm
  exact implCounts_core xs bs nv ev w h1 h2 hg N hN
end Go.Proofs.Ytjdeahdngpccpaa

namespace Go.Proofs.Ytjdeahdngpccpaa
open Go.RowKit

/-- the bytes of a row -/
def bv (p : List UInt8) : List Value := p.map fun b => .int .u8 (b.toNat : Int)
/-- wordAt's answer -/
def wordZ (m : M) (r : Nat) (a : Int) : ByteArray × Bool := if 0 ≤ a ∧ a < m.ways r 0 then (⟨(m.wordOn r 0 a).toArray⟩, true) else (⟨#[]⟩, false)
/-- a letter is tried, and what is left of the place -/
structure LetAt (m : M) (j : Nat) (s a : Int) (l : Nat) (li a2 : Int) : Prop where
  e1 : li = (l : Int)
  e2 : a2 = a - m.waysTo j s l
  e3 : 0 ≤ a2
end Go.Proofs.Ytjdeahdngpccpaa

namespace Go.Proofs.Ytjdeahdngpccpaa
open Go.RowKit

/-- numbers of letters that are counted -/
def countedB (n : Int) : Bool := decide (0 ≤ n) && decide (n ≤ 10)
theorem countedB_nat {n : Int} (h : countedB n = true) : ∃ r : Nat, n = (r : Int) ∧ r ≤ 10 := by
  simp only [countedB, Bool.and_eq_true, decide_eq_true_eq] at h
  exact ⟨n.toNat, by omega, by omega⟩
/-- CountWords -/
def countWords (m : M) (n : Int) : Int := if (m.ok && countedB n) = true then m.ways n.toNat 0 else -1
theorem countWords_yes {m : M} {r : Nat} (h : m.ok = true) (g : countedB (r : Int) = true) : countWords m (r : Int) = m.ways r 0 := by
  rw [countWords, if_pos (by rw [h, g]; rfl), Int.toNat_natCast]
theorem countWords_no {m : M} {n : Int} (h : (m.ok && countedB n) = false) : countWords m n = -1 := by rw [countWords, h]; rfl
/-- WordAt -/
def wordAtZ (m : M) (n a : Int) : ByteArray × Bool := if (m.ok && countedB n) = true then wordZ m n.toNat a else (⟨#[]⟩, false)
/-- PlaceOf -/
def placeOf (m : M) (word : ByteArray) : Int := if (countedB (word.size : Int) && m.takes word) = true then m.rank 0 word.data.toList else -1
theorem implCountedOk_any (n : Int) (w : World) : Calls Try.prog 72 #[.int .i64 n] w fun e w' => e = .returned (.bool (countedB n)) ∧ w = w' := by
  by_cases h1 : 0 ≤ n
  · by_cases h2 : n ≤ 10
    · have H : Hid (countedB n = true) := Lib.hid (by rw [countedB, decide_eq_true h1, decide_eq_true h2]; rfl)
      go_enter Try.func72, Try.ntmps72
      go_wp2_with fail
      go_ret
      exact ⟨ret_bool H.out.symm, rfl⟩
    · have H : Hid (countedB n = false) := Lib.hid (by rw [countedB, decide_eq_false h2, Bool.and_false])
      go_enter Try.func72, Try.ntmps72
      go_wp2_with fail
      go_ret
      exact ⟨ret_bool H.out.symm, rfl⟩
  · have H : Hid (countedB n = false) := Lib.hid (by rw [countedB, decide_eq_false h1, Bool.false_and])
    go_enter Try.func72, Try.ntmps72
    go_wp2_with fail
    go_ret
    exact ⟨ret_bool H.out.symm, rfl⟩

set_option maxHeartbeats 1600000 in
theorem implCountWords_any (m : M) (n : Int) (nv ev : Value) (w : World) (h1 : IsInts w nv m.next) (h2 : IsBools w ev m.ends) (hst : (Lit.int .i64 m.st).wf = true) :
    Calls Try.prog 24 #[.agg #[.int .i64 m.st, nv, ev], .int .i64 n] w fun e w' => e = .returned (.int .i64 (countWords m n)) ∧ Below w.heap.size w w' := by
  have MB := Lib.hid (MachBox.new (st := m.st) 26 h1 h2)
  have q0 := Lib.hid ((Below.refl w.heap.size w).alloc (Nat.le_refl _) (.cells #[.int .i64 m.st, nv, ev] 26))
  have HOK := Lib.hid (fun W a b => implMachineOk_any m nv ev W a b hst)
  have HCO := Lib.hid (fun W => implCountedOk_any n W)
  have y0 := MB.out.c0
  have y1 := MB.out.c1
  have y2 := MB.out.c2
  clear h1 h2
  go_enter Try.func24, Try.ntmps24
  go_wp2_with fail
  refine (HOK.out _ MB.out.ints MB.out.bools).mono ?_
  rintro e w1 ⟨rfl, hb1⟩
  have M1 := Lib.hid (MB.out.below hb1)
  have q1 := Lib.hid (q0.out.trans (hb1.mono q0.out.size))
  have z0 := M1.out.c0
  have z1 := M1.out.c1
  have z2 := M1.out.c2
  clear y0 y1 y2 hb1
  cases hk : m.ok with
  | false =>
    have HR := Lib.hid (countWords_no (m := m) (n := n) (by rw [hk, Bool.false_and]))
    go_wp2_with fail
    go_ret
    exact ⟨ret_int HR.out.symm, q1.out⟩
  | true =>
    have HK := Lib.hid hk
    go_wp2_with fail
    refine (HCO.out _).mono ?_
    rintro e w2 ⟨rfl, rfl⟩
    cases hc : countedB n with
    | false =>
      have HR := Lib.hid (countWords_no (m := m) (n := n) (by rw [hc, Bool.and_false]))
      go_wp2_with fail
      go_ret
      exact ⟨ret_int HR.out.symm, q1.out⟩
    | true =>
      obtain ⟨r, rfl, hr⟩ := countedB_nat hc
      have HR := Lib.hid (countWords_yes HK.out hc)
      have hsh := M.ok_shape HK.out
      clear hc HCO
      go_wp2_with fail
      refine (implCounts_any m r nv ev _ M1.out.ints M1.out.bools HK.out hr).mono ?_
      rintro e w3 ⟨tv, rfl, ht, hb3⟩
      have q3 := Lib.hid (q1.out.trans (hb3.mono q1.out.size))
      have HT := Lib.hid ht
      clear ht z0 z1 z2 hb3
      go_wp2_with fail
      refine (implWays_any m r r 0 nv ev tv _ HT.out (M.ok_good HK.out) (by omega) (by omega) (Nat.le_refl _)).mono ?_
      rintro e w4 ⟨rfl, hb4⟩
      have q4 := Lib.hid (q3.out.trans (hb4.mono q3.out.size))
      clear hb4
      go_wp2_with fail
      go_ret
      exact ⟨ret_int HR.out.symm, q4.out⟩

end Go.Proofs.Ytjdeahdngpccpaa

namespace Go.Proofs.Ytjdeahdngpccpaa
open Go.RowKit

theorem implEndOk_any (m : M) (s : Int) (nv ev : Value) (w : World) (h2 : IsBools w ev m.ends) (hg : m.good) (s0 : -1 ≤ s) (s1 : s < m.st) :
    Calls Try.prog 80 #[.agg #[.int .i64 m.st, nv, ev], .int .i64 s] w fun e w' => e = .returned (.bool (m.endAt s)) ∧ Below w.heap.size w w' := by
  by_cases hs : s = -1
  · subst hs
    have HE : Hid (m.endAt (-1) = false) := Lib.hid (by simp [M.endAt])
    clear hg
    go_enter Try.func80, Try.ntmps80
    go_wp2
    go_ret
    exact ⟨ret_bool HE.out.symm, (Below.refl _ _).alloc (Nat.le_refl _) _⟩
  · obtain ⟨k, hk1, hk2, he⟩ := M.gendAt_at hg s (by omega) s1
    obtain ⟨ae, ne, ce, rfl⟩ := h2.slice
    obtain ⟨ge, oe, rfl, rfl, hge, hce⟩ := bools_cells3 h2 (by omega)
    have hcell := hce k hk2
    have HE := Lib.hid he
    subst hk1
    have hkl : (k : Int) < m.ends.length := by omega
    have hne : ((k : Int) != -1) = true := by simp
    clear he hce h2 hg
    generalize m.ends[k] = eb at *
    go_enter Try.func80, Try.ntmps80
    go_wp2
    go_ret
    exact ⟨ret_bool HE.out.symm, (Below.refl _ _).alloc (Nat.le_refl _) _⟩

/-- two machines in boxes, and a pair -/
structure Pbx (a b c : Nat) (ms ks : Int) (nv ev mv fv : Value) (x y : Int) (W : World) : Prop where
  six : Six a b ms ks nv ev mv fv W
  lc : c < W.heap.size
  cx : W.cell? ⟨c, 0, none⟩ = some (.int .i64 x) ∧ W.cell? ⟨c, 1, none⟩ = some (.int .i64 y)
theorem Pbx.cells {a b c : Nat} {ms ks : Int} {nv ev mv fv : Value} {x y : Int} {W : World} (h : Pbx a b c ms ks nv ev mv fv x y W) :
    W.cell? ⟨a, 0, none⟩ = some (.int .i64 ms) ∧ W.cell? ⟨a, 1, none⟩ = some nv ∧ W.cell? ⟨a, 2, none⟩ = some ev ∧ W.cell? ⟨b, 0, none⟩ = some (.int .i64 ks) ∧ W.cell? ⟨b, 1, none⟩ = some mv ∧ W.cell? ⟨b, 2, none⟩ = some fv ∧ W.cell? ⟨c, 0, none⟩ = some (.int .i64 x) ∧ W.cell? ⟨c, 1, none⟩ = some (.int .i64 y) := by
  obtain ⟨⟨la, lb, k0, k1, k2, k3, k4, k5⟩, lc, z0, z1⟩ := h
  exact ⟨k0, k1, k2, k3, k4, k5, z0, z1⟩
theorem Pbx.below {a b c : Nat} {ms ks : Int} {nv ev mv fv : Value} {x y : Int} {W W' : World} (h : Pbx a b c ms ks nv ev mv fv x y W) (hb : Below W.heap.size W W') : Pbx a b c ms ks nv ev mv fv x y W' :=
  ⟨h.six.below hb, Nat.lt_of_lt_of_le h.lc hb.size, (hb.cell (p := ⟨c, 0, none⟩) h.lc).trans h.cx.1, (hb.cell (p := ⟨c, 1, none⟩) h.lc).trans h.cx.2⟩
theorem Pbx.drew {a b c : Nat} {ms ks : Int} {nv ev mv fv : Value} {x y : Int} {W : World} (h : Pbx a b c ms ks nv ev mv fv x y W) : Pbx a b c ms ks nv ev mv fv x y W.drew := h.below (Below.refl _ _).drew
theorem Pbx.set {a b c : Nat} {ms ks : Int} {nv ev mv fv : Value} {x y : Int} {W : World} (h : Pbx a b c ms ks nv ev mv fv x y W) {d o : Nat} {v : Value} (h0 : ¬ (a = d)) (h1 : ¬ (b = d)) (h2 : ¬ (c = d)) : Pbx a b c ms ks nv ev mv fv x y (W.setCell ⟨d, o, none⟩ v) := by
  obtain ⟨s, lc, z0, z1⟩ := h
  refine ⟨s.set h0 h1, ?_, ?_, ?_⟩ <;> go_simp

/-- the answer's two numbers -/
theorem pOn_eq (A B : M) (x : Int) (l : Nat) (h1 : -1 ≤ B.nx (p2 x) (l : Int)) (h2 : B.nx (p2 x) (l : Int) < 48) :
    Ending.returned (.tuple #[.agg #[.int .i64 (A.nx (p1 x) (l : Int)), .int .i64 (B.nx (p2 x) (l : Int))], .bool true]) = .returned (.tuple #[.agg #[.int .i64 (p1 (pc (A.nx (p1 x) (l : Int)) (B.nx (p2 x) (l : Int)))), .int .i64 (p2 (pc (A.nx (p1 x) (l : Int)) (B.nx (p2 x) (l : Int))))], .bool true]) ∧ pOn A B x l = some (pc (A.nx (p1 x) (l : Int)) (B.nx (p2 x) (l : Int))) := by
  rw [p1_pc h1 h2, p2_pc h1 h2]
  exact ⟨rfl, rfl⟩
set_option maxHeartbeats 1600000 in
theorem pairOn_any (A B : M) (an ae bn be : Value) (bA bB : Nat) (W : World) (hT : Two bA bB A B an ae bn be W) (hA : A.good) (hB : B.good) (hB4 : B.st ≤ 48) (x : Int) (hx : inP A B x) (l : Nat) (hl : l < 3) :
    Calls Try.prog 129 #[.agg #[.int .i64 (p1 x), .int .i64 (p2 x)], .int .i64 (l : Int), .pointer (some ⟨bA, 0, none⟩), .pointer (some ⟨bB, 0, none⟩)] W
      fun e W' => ∃ v, e = .returned (.tuple #[.agg #[.int .i64 (p1 v), .int .i64 (p2 v)], .bool true]) ∧ pOn A B x l = some v ∧ Below W.heap.size W W' := by
  have hb0 : Below W.heap.size W ((W.alloc (.cells #[.int .i64 (p1 x), .int .i64 (p2 x)] 126)).alloc (.cells #[.int .i64 0, .int .i64 0] 126)) := ((Below.refl _ _).alloc (Nat.le_refl _) _).alloc (by simp) _
  have T0 := hT.below hb0
  have X0 : Pbx bA bB W.heap.size A.st B.st an ae bn be (p1 x) (p2 x) ((W.alloc (.cells #[.int .i64 (p1 x), .int .i64 (p2 x)] 126)).alloc (.cells #[.int .i64 0, .int .i64 0] 126)) := by
    refine ⟨⟨T0.a.hB, T0.b.hB, T0.a.c0, T0.a.c1, T0.a.c2, T0.b.c0, T0.b.c1, T0.b.c2⟩, by simp; omega, ?_, ?_⟩ <;> go_simp
  have hs0 : ((W.alloc (.cells #[.int .i64 (p1 x), .int .i64 (p2 x)] 126)).alloc (.cells #[.int .i64 0, .int .i64 0] 126)).heap.size = W.heap.size + 1 + 1 := by simp
  have ha : bA < W.heap.size := hT.a.hB
  have hb : bB < W.heap.size := hT.b.hB
  have HX := Lib.hid X0
  have HQ := Lib.hid hb0
  have HS := Lib.hid hs0
  have hinx := Lib.hid hx
  have H1 : Hid (∀ V, Below W.heap.size W V → Calls Try.prog 78 #[.agg #[.int .i64 A.st, an, ae], .int .i64 (p1 x), .int .i64 (l : Int)] V fun e w' => e = .returned (.int .i64 (A.nx (p1 x) (l : Int))) ∧ Below V.heap.size V w') :=
    Lib.hid (fun V hV => implNextOfG_any A (p1 x) (l : Int) an ae V (hT.below hV).a.ints hA hx.1 hx.2.1 (by omega) (by omega))
  have H2 : Hid (∀ V, Below W.heap.size W V → Calls Try.prog 78 #[.agg #[.int .i64 B.st, bn, be], .int .i64 (p2 x), .int .i64 (l : Int)] V fun e w' => e = .returned (.int .i64 (B.nx (p2 x) (l : Int))) ∧ Below V.heap.size V w') :=
    Lib.hid (fun V hV => implNextOfG_any B (p2 x) (l : Int) bn be V (hT.below hV).b.ints hB hx.2.2.1 hx.2.2.2 (by omega) (by omega))
  have hbd := Lib.hid (M.gnx_bd hB (p2 x) (l : Int) hx.2.2.2 (by omega) (by omega))
  have HB4 := Lib.hid hB4
  clear hb0 T0 X0 hs0 hT hx hA hB
  have hz : ∀ i, i < 2 → ((W.alloc (.cells #[.int .i64 (p1 x), .int .i64 (p2 x)] 126)).alloc (.cells #[.int .i64 0, .int .i64 0] 126)).cell? ⟨W.heap.size + 1, i, none⟩ = some (.int .i64 0) ∧ ((W.alloc (.cells #[.int .i64 (p1 x), .int .i64 (p2 x)] 126)).alloc (.cells #[.int .i64 0, .int .i64 0] 126)).frozen? ⟨W.heap.size + 1, i, none⟩ = false := by
    intro i hi
    have c := World.cell?_alloc_new (W.alloc (.cells #[.int .i64 (p1 x), .int .i64 (p2 x)] 126)) #[.int .i64 0, .int .i64 0] 126 i
    have f := World.frozen?_alloc_new (W.alloc (.cells #[.int .i64 (p1 x), .int .i64 (p2 x)] 126)) #[.int .i64 0, .int .i64 0] 126 i
    rw [World.size_alloc] at c f
    refine ⟨c.trans ?_, f⟩
    match i, hi with
    | 0, _ => rfl
    | 1, _ => rfl
  have HZ := Lib.hid hz
  clear hz
  obtain ⟨y0, y1, y2, y3, y4, y5, y6, y7⟩ := HX.out.cells
  go_enter Try.func129, Try.ntmps129
  go_upto_region 1 with fail
  generalize hW2 : (W.alloc (.cells #[.int .i64 (p1 x), .int .i64 (p2 x)] 126)).alloc (.cells #[.int .i64 0, .int .i64 0] 126) = w2 at *
  clear hW2
  have X2 := HX.out
  have BD := Lib.hid ((Below.refl w2.heap.size w2).drew)
  have HSX : Hid (∀ V, Below w2.heap.size w2 V → Pbx bA bB W.heap.size A.st B.st an ae bn be (p1 x) (p2 x) V) := Lib.hid (fun V h => HX.out.below h)
  have HH1 : Hid (∀ V, Below w2.heap.size w2 V → Calls Try.prog 78 #[.agg #[.int .i64 A.st, an, ae], .int .i64 (p1 x), .int .i64 (l : Int)] V fun e w' => e = .returned (.int .i64 (A.nx (p1 x) (l : Int))) ∧ Below V.heap.size V w') := Lib.hid (fun V h => H1.out V (HQ.out.trans (h.mono HQ.out.size)))
  have HH2 : Hid (∀ V, Below w2.heap.size w2 V → Calls Try.prog 78 #[.agg #[.int .i64 B.st, bn, be], .int .i64 (p2 x), .int .i64 (l : Int)] V fun e w' => e = .returned (.int .i64 (B.nx (p2 x) (l : Int))) ∧ Below V.heap.size V w') := Lib.hid (fun V h => H2.out V (HQ.out.trans (h.mono HQ.out.size)))
  have HZ4 : Hid (∀ V, Below w2.heap.size w2 V → (V.cell? ⟨W.heap.size + 1, 0, none⟩ = some (.int .i64 0) ∧ V.cell? ⟨W.heap.size + 1, 1, none⟩ = some (.int .i64 0)) ∧ V.frozen? ⟨W.heap.size + 1, 0, none⟩ = false ∧ V.frozen? ⟨W.heap.size + 1, 1, none⟩ = false) :=
    Lib.hid (fun V h => by
      have hl : W.heap.size + 1 < w2.heap.size := by have := HS.out; omega
      exact ⟨⟨(h.cell (p := ⟨W.heap.size + 1, 0, none⟩) hl).trans (HZ.out 0 (by omega)).1, (h.cell (p := ⟨W.heap.size + 1, 1, none⟩) hl).trans (HZ.out 1 (by omega)).1⟩, (h.frozen (p := ⟨W.heap.size + 1, 0, none⟩) hl).trans (HZ.out 0 (by omega)).2, (h.frozen (p := ⟨W.heap.size + 1, 1, none⟩) hl).trans (HZ.out 1 (by omega)).2⟩)
  clear H1 H2 HX HZ
  go_region_held3 (fun w' => w'.cell? ⟨bA, 0, none⟩ = some (.int .i64 A.st) ∧ w'.cell? ⟨bA, 1, none⟩ = some an ∧ w'.cell? ⟨bA, 2, none⟩ = some ae ∧ w'.cell? ⟨bB, 0, none⟩ = some (.int .i64 B.st) ∧ w'.cell? ⟨bB, 1, none⟩ = some bn ∧ w'.cell? ⟨bB, 2, none⟩ = some be ∧ w'.cell? ⟨W.heap.size, 0, none⟩ = some (.int .i64 (p1 x)) ∧ w'.cell? ⟨W.heap.size, 1, none⟩ = some (.int .i64 (p2 x)))
    (first | (refine Pbx.cells ?_; ((repeat' (first | with_reducible assumption | with_reducible refine Pbx.drew ?_ | with_reducible refine Pbx.set ?_ ?_ ?_ ?_ | omega)); done)))
    (first | (go_at_call 78; with_reducible refine Calls.mono (HH1.out _ ?_) ?_; (· (with_reducible exact BD.out)); rintro e w3 ⟨rfl, hb3⟩; with_reducible have B3 := Lib.hid (Below.then' BD.out hb3); have X3 := HSX.out _ B3.out; clear hb3) | (go_at_call 78; with_reducible refine Calls.mono (HH2.out _ ?_) ?_; (· (with_reducible exact B3.out)); rintro e w4 ⟨rfl, hb4⟩; have B4 := Lib.hid (Below.then' B3.out hb4); clear X3 hb4; have X4 := HSX.out _ B4.out; obtain ⟨⟨z0, z1⟩, f0, f1⟩ := HZ4.out _ B4.out))
  all_goals
    clear X2 X4 y0 y1 y2 y3 y4 y5 y6 y7 B3 BD HH1 HH2 HSX HZ4
    have E := pOn_eq A B x l hbd.out.1 (Int.lt_of_lt_of_le hbd.out.2 HB4.out)
    have HE := Lib.hid E
    clear E
    have hq : Below W.heap.size W ((w4.setCell ⟨W.heap.size + 1, 0, none⟩ (.int .i64 (A.nx (p1 x) (l : Int)))).setCell ⟨W.heap.size + 1, 1, none⟩ (.int .i64 (B.nx (p2 x) (l : Int)))) := ((HQ.out.trans (B4.out.mono HQ.out.size)).setCell (p := ⟨W.heap.size + 1, 0, none⟩) (Nat.le_succ _) _).setCell (p := ⟨W.heap.size + 1, 1, none⟩) (Nat.le_succ _) _
    have HF := Lib.hid hq
    clear hq
    go_wp2
    refine bodyPost_ret (v := .tuple #[.agg #[.int .i64 (A.nx (p1 x) (l : Int)), .int .i64 (B.nx (p2 x) (l : Int))], .bool true]) ?_ rfl ⟨_, HE.out.1, HE.out.2, HF.out⟩
    simp [results, Try.results129, go_sem, z0, z1]
end Go.Proofs.Ytjdeahdngpccpaa

namespace Go.Proofs.Ytjdeahdngpccpaa
open Go.RowKit Go.Maps

/-- a machine that is being made from a search -/
structure FromP (w0 : World) (R6 R7 MB : Nat) (q : List Int) (qv : Value) (nx : List Int) (nv : Value) (es : List Bool) (ev : Value) (w : World) : Prop where
  keep : Below w0.heap.size w0 w
  ap : Apart w0.heap.size [cellsT R7 #[.int .i64 0, nv, ev] 26, rowT 3 1 nv nx.length (nx.map (Value.int .i64)), rowT 4 1 ev es.length (es.map Value.bool), rowT 126 2 qv q.length (prs q),
    mapT (H := Unit) Try.prog 126 (plainElem Try.prog 3) MB q.length (qD key2 q), cellsT R6 #[.int .i64 0, .slice none 0 0, .slice none 0 0] 26] w

section
variable {w0 : World} {R6 R7 MB : Nat} {q : List Int} {qv : Value} {nx : List Int} {nv : Value} {es : List Bool} {ev : Value} {w w' : World}
theorem FromP.size (h : FromP w0 R6 R7 MB q qv nx nv es ev w) : w0.heap.size ≤ w.heap.size := h.keep.size
theorem FromP.below (h : FromP w0 R6 R7 MB q qv nx nv es ev w) (hb : Below w.heap.size w w') : FromP w0 R6 R7 MB q qv nx nv es ev w' := ⟨h.keep.trans (hb.mono h.size), h.ap.below hb⟩
theorem FromP.same (h : FromP w0 R6 R7 MB q qv nx nv es ev w) (hg : w.grownBy w' none) : FromP w0 R6 R7 MB q qv nx nv es ev w' := ⟨h.keep.grown hg h.size (fun _ e => by cases e), h.ap.same hg⟩
theorem FromP.cell (h : FromP w0 R6 R7 MB q qv nx nv es ev w) : w.cell? ⟨R7, 0, none⟩ = some (.int .i64 0) ∧ w.cell? ⟨R7, 1, none⟩ = some nv ∧ w.cell? ⟨R7, 2, none⟩ = some ev :=
  ⟨cellsT_cell h.ap.head 0, cellsT_cell h.ap.head 1, cellsT_cell h.ap.head 2⟩
theorem FromP.froz (h : FromP w0 R6 R7 MB q qv nx nv es ev w) (i : Nat) : w.frozen? ⟨R7, i, none⟩ = false := cellsT_frozen h.ap.head i
theorem FromP.rowN (h : FromP w0 R6 R7 MB q qv nx nv es ev w) : w.ownsRow 0 3 1 nv nx.length (nx.map (Value.int .i64)) := h.ap.at 1 (by simp)
theorem FromP.rowE (h : FromP w0 R6 R7 MB q qv nx nv es ev w) : w.ownsRow 0 4 1 ev es.length (es.map Value.bool) := h.ap.at 2 (by simp)
theorem FromP.rowQ (h : FromP w0 R6 R7 MB q qv nx nv es ev w) : w.ownsRow 0 126 2 qv q.length (prs q) := h.ap.at 3 (by simp)
theorem FromP.map (h : FromP w0 R6 R7 MB q qv nx nv es ev w) : w.ownsMap (H := Unit) Try.prog 126 (plainElem Try.prog 3) MB q.length (qD key2 q) := h.ap.at 4 (by simp)
theorem FromP.rowQ_kept {w1 : World} (h : FromP w0 R6 R7 MB q qv nx nv es ev w) (hg1 : w.grownBy w1 (some MB)) : w1.ownsRow 0 126 2 qv q.length (prs q) :=
  (rowT 126 2 qv q.length (prs q)).st w w1 (fun k e => hg1.block k (h.ap.ltAt 3 (by simp) k e).2 (fun e2 => by
    cases e2
    exact (List.pairwise_iff_getElem.1 h.ap.two 3 4 (by simp) (by simp) (by omega)) MB e rfl)) hg1.size h.rowQ
/-- one number more -/
theorem FromP.nextN {x : Int} {t : TypeId} {g cp : Nat} {w1 : World} (h : FromP w0 R6 R7 MB q qv nx nv es ev w) (hg : (w.alloc (.cells #[.int .i64 x] t)).grownBy w1 nv.ownBlock)
    (ho : w1.ownsRow 0 3 1 (.slice (some ⟨g, 0, none⟩) (nx.length + 1) cp) (nx.length + 1) (nx.map (Value.int .i64) ++ [.int .i64 x])) (hat : nv.ownBlock = some g ∨ g = (w.alloc (.cells #[.int .i64 x] t)).heap.size) :
    FromP w0 R6 R7 MB q qv (nx ++ [x]) (.slice (some ⟨g, 0, none⟩) (nx.length + 1) cp) es ev (w1.setCell ⟨R7, 1, none⟩ (.slice (some ⟨g, 0, none⟩) (nx.length + 1) cp)) ∧ w1.cell? ⟨R7, 1, none⟩ = some nv ∧ w1.frozen? ⟨R7, 1, none⟩ = false := by
  have h1 := h.same (World.grownBy_alloc w (.cells #[.int .i64 x] t) none)
  have hlt := h1.ap.ltAt 1 (by simp)
  have a1 := h1.ap.turnAt 1 (by simp) hg (rowT 3 1 (.slice (some ⟨g, 0, none⟩) (nx.length + 1) cp) (nx ++ [x]).length ((nx ++ [x]).map (Value.int .i64)))
    (by show w1.ownsRow 0 _ _ _ _ _; rw [List.length_append, List.map_append]; exact ho) h1.size
    (fun j e => ⟨by cases e; exact hat.imp id (fun e => Nat.le_of_eq e.symm), (World.ownsRow.lt ho j e).2⟩)
  have hs1 : w0.heap.size ≤ w1.heap.size := Nat.le_trans h1.size hg.size
  have hb1 := (h.ap.lt R7 rfl).1
  refine ⟨⟨((h1.keep.grown hg h1.size (fun j e => (hlt j e).1)).setCell (p := ⟨R7, 1, none⟩) hb1 _), ?_⟩, cellsT_cell a1.head 1, cellsT_frozen a1.head 1⟩
  exact Apart.set a1 hs1 1 _
/-- one end more -/
theorem FromP.nextE {x : Bool} {t : TypeId} {g cp : Nat} {w1 : World} (h : FromP w0 R6 R7 MB q qv nx nv es ev w) (hg : (w.alloc (.cells #[.bool x] t)).grownBy w1 ev.ownBlock)
    (ho : w1.ownsRow 0 4 1 (.slice (some ⟨g, 0, none⟩) (es.length + 1) cp) (es.length + 1) (es.map Value.bool ++ [.bool x])) (hat : ev.ownBlock = some g ∨ g = (w.alloc (.cells #[.bool x] t)).heap.size) :
    FromP w0 R6 R7 MB q qv nx nv (es ++ [x]) (.slice (some ⟨g, 0, none⟩) (es.length + 1) cp) (w1.setCell ⟨R7, 2, none⟩ (.slice (some ⟨g, 0, none⟩) (es.length + 1) cp)) ∧ w1.cell? ⟨R7, 2, none⟩ = some ev ∧ w1.frozen? ⟨R7, 2, none⟩ = false := by
  have h1 := h.same (World.grownBy_alloc w (.cells #[.bool x] t) none)
  have hlt := h1.ap.ltAt 2 (by simp)
  have a1 := h1.ap.turnAt 2 (by simp) hg (rowT 4 1 (.slice (some ⟨g, 0, none⟩) (es.length + 1) cp) (es ++ [x]).length ((es ++ [x]).map Value.bool))
    (by show w1.ownsRow 0 _ _ _ _ _; rw [List.length_append, List.map_append]; exact ho) h1.size
    (fun j e => ⟨by cases e; exact hat.imp id (fun e => Nat.le_of_eq e.symm), (World.ownsRow.lt ho j e).2⟩)
  have hs1 : w0.heap.size ≤ w1.heap.size := Nat.le_trans h1.size hg.size
  have hb1 := (h.ap.lt R7 rfl).1
  refine ⟨⟨((h1.keep.grown hg h1.size (fun j e => (hlt j e).1)).setCell (p := ⟨R7, 2, none⟩) hb1 _), ?_⟩, cellsT_cell a1.head 2, cellsT_frozen a1.head 2⟩
  exact Apart.set a1 hs1 2 _
/-- one state more: in the map, then in the queue -/
theorem FromP.push {x : Int} {t : TypeId} {g cp : Nat} {w1 w2 : World} (h : FromP w0 R6 R7 MB q qv nx nv es ev w) (hg1 : w.grownBy w1 (some MB)) (hm : w1.ownsMap (H := Unit) Try.prog 126 (plainElem Try.prog 3) MB (q.length + 1) ((qD key2 q).put (key2 x) (.lit (.int .i64 (q.length : Int)))))
    (hg : (w1.alloc (.cells #[.int .i64 (p1 x), .int .i64 (p2 x)] t)).grownBy w2 qv.ownBlock)
    (ho : w2.ownsRow 0 126 2 (.slice (some ⟨g, 0, none⟩) (q.length + 1) cp) (q.length + 1) (prs q ++ [.int .i64 (p1 x), .int .i64 (p2 x)])) (hat : qv.ownBlock = some g ∨ g = (w1.alloc (.cells #[.int .i64 (p1 x), .int .i64 (p2 x)] t)).heap.size) :
    FromP w0 R6 R7 MB (q ++ [x]) (.slice (some ⟨g, 0, none⟩) (q.length + 1) cp) nx nv es ev w2 := by
  have hltM := h.ap.ltAt 4 (by simp)
  have a0 := h.ap.turnAt 4 (by simp) hg1 (mapT (H := Unit) Try.prog 126 (plainElem Try.prog 3) MB (q ++ [x]).length (qD key2 (q ++ [x])))
    (by show w1.ownsMap _ _ _ _ _ _; rw [List.length_append, qD_snoc]; exact hm) h.size (fun j e => ⟨.inl e, by have := hltM j e; exact Nat.lt_of_lt_of_le this.2 hg1.size⟩)
  have k0 := h.keep.grown hg1 h.size (fun j e => (hltM j e).1)
  have hs0 : w0.heap.size ≤ w1.heap.size := Nat.le_trans h.size hg1.size
  have a1 := a0.same (World.grownBy_alloc w1 (.cells #[.int .i64 (p1 x), .int .i64 (p2 x)] t) none)
  have k1 := k0.grown (World.grownBy_alloc w1 (.cells #[.int .i64 (p1 x), .int .i64 (p2 x)] t) none) hs0 (fun _ e => by cases e)
  have hs1 := k1.size
  have hlt := a1.ltAt 3 (by simp)
  have a2 := a1.turnAt 3 (by simp) hg (rowT 126 2 (.slice (some ⟨g, 0, none⟩) (q.length + 1) cp) (q ++ [x]).length (prs (q ++ [x])))
    (by show w2.ownsRow 0 _ _ _ _ _; rw [List.length_append, prs_snoc]; exact ho) hs1
    (fun j e => ⟨by cases e; exact hat.imp id (fun e => Nat.le_of_eq e.symm), (World.ownsRow.lt ho j e).2⟩)
  exact ⟨k1.grown hg hs1 (fun j e => (hlt j e).1), a2⟩
/-- the number of states is laid down -/
theorem FromP.len (h : FromP w0 R6 R7 MB q qv nx nv es ev w) (u : Int) {W : World} (hW : W = w.setCell ⟨R7, 0, none⟩ (.int .i64 u)) :
    W.cell? ⟨R7, 0, none⟩ = some (.int .i64 u) ∧ W.cell? ⟨R7, 1, none⟩ = some nv ∧ W.cell? ⟨R7, 2, none⟩ = some ev ∧ (cellsT R6 #[.int .i64 0, .slice none 0 0, .slice none 0 0] 26).says W := by
  subst hW
  have a := h.ap.set h.size 0 (.int .i64 u)
  exact ⟨cellsT_cell a.head 0, cellsT_cell a.head 1, cellsT_cell a.head 2, a.at 5 (by simp)⟩
/-- the end: the result is laid down -/
theorem FromP.done (h : FromP w0 R6 R7 MB q qv nx nv es ev w) (u : Int) {x y z : Value} {W : World} (hW : W = (((w.setCell ⟨R7, 0, none⟩ (.int .i64 u)).setCell ⟨R6, 0, none⟩ x).setCell ⟨R6, 1, none⟩ y).setCell ⟨R6, 2, none⟩ z) :
    Apart w0.heap.size [rowT 3 1 nv nx.length (nx.map (Value.int .i64)), rowT 4 1 ev es.length (es.map Value.bool)] W ∧ Below w0.heap.size w0 W ∧
    W.cell? ⟨R6, 0, none⟩ = some x ∧ W.cell? ⟨R6, 1, none⟩ = some y ∧ W.cell? ⟨R6, 2, none⟩ = some z := by
  subst hW
  have hb7 := (h.ap.lt R7 rfl).1
  have hb6 := (h.ap.ltAt 5 (by simp) R6 rfl).1
  have a1 := h.ap.set h.size 0 (.int .i64 u)
  have a2 := a1.setAt 5 (by simp) rfl (by simpa using h.size) 0 x
  have a3 := a2.setAt 5 (by simp) rfl (by simpa using h.size) 1 y
  have a4 := a3.setAt 5 (by simp) rfl (by simpa using h.size) 2 z
  have c := a4.at 5 (by simp)
  refine ⟨a4.sub ?_, (((h.keep.setCell (p := ⟨R7, 0, none⟩) hb7 _).setCell (p := ⟨R6, 0, none⟩) hb6 _).setCell (p := ⟨R6, 1, none⟩) hb6 _).setCell (p := ⟨R6, 2, none⟩) hb6 _, cellsT_cell c 0, cellsT_cell c 1, cellsT_cell c 2⟩
  exact List.Sublist.cons _ (List.Sublist.cons_cons _ (List.Sublist.cons_cons _ (List.Sublist.cons _ (List.Sublist.cons _ (List.Sublist.cons _ List.Sublist.slnil)))))
end

theorem from_startP (w0 : World) (s0 : Int) (t : TypeId) {w1 : World} {M0 : World} (hM0 : M0 = (((w0.alloc (.cells #[.int .i64 0, .slice none 0 0, .slice none 0 0] 26)).alloc (.cells #[.int .i64 0, .slice none 0 0, .slice none 0 0] 26)).alloc (.cells #[.int .i64 (p1 s0), .int .i64 (p2 s0)] t)).alloc (.map #[] 0))
    (hm : w1.ownsMap (H := Unit) Try.prog 126 (plainElem Try.prog 3) (w0.heap.size + 1 + 1 + 1) 1 ((DataW.map []).put (key2 s0) (.lit (.int .i64 0)))) (hg : M0.grownBy w1 (some (w0.heap.size + 1 + 1 + 1))) (ht : t = 126) :
    FromP w0 w0.heap.size (w0.heap.size + 1) (w0.heap.size + 1 + 1 + 1) [s0] (.slice (some ⟨w0.heap.size + 1 + 1, 0, none⟩) 1 1) [] (.slice none 0 0) [] (.slice none 0 0) w1 := by
  subst hM0 ht
  have A1 := (Apart.nil w0.heap.size w0).more (World.grownBy_alloc w0 _ none) (cellsT w0.heap.size #[.int .i64 0, .slice none 0 0, .slice none 0 0] 26) (heap_alloc_new w0 _) (Nat.le_refl _) (fun j e => by cases e; simp)
  have A2 := A1.more (World.grownBy_alloc _ (.cells #[.int .i64 0, .slice none 0 0, .slice none 0 0] 26) none) (cellsT (w0.heap.size + 1) #[.int .i64 0, .slice none 0 0, .slice none 0 0] 26) (by have := heap_alloc_new (w0.alloc (.cells #[.int .i64 0, .slice none 0 0, .slice none 0 0] 26)) (.cells #[.int .i64 0, .slice none 0 0, .slice none 0 0] 26); rw [World.size_alloc] at this; exact this) (by simp) (fun j e => by cases e; simp)
  have A3 := A2.more (World.grownBy_alloc _ (.cells #[.int .i64 (p1 s0), .int .i64 (p2 s0)] 126) none) (rowT 126 2 (.slice (some ⟨w0.heap.size + 1 + 1, 0, none⟩) 1 1) 1 [.int .i64 (p1 s0), .int .i64 (p2 s0)]) (by
    have := World.ownsRow_lit (base := 0) (e := 126) (size := 2) ((w0.alloc (.cells #[.int .i64 0, .slice none 0 0, .slice none 0 0] 26)).alloc (.cells #[.int .i64 0, .slice none 0 0, .slice none 0 0] 26)) #[.int .i64 (p1 s0), .int .i64 (p2 s0)] 1 (Nat.zero_le _) (by unfold maxLen; omega) rfl
    rw [World.size_alloc, World.size_alloc] at this; exact this) (by simp; omega) (fun j e => by cases e; simp)
  have A4 := A3.more (World.grownBy_alloc _ (.map #[] 0) none) (mapT (H := Unit) Try.prog 126 (plainElem Try.prog 3) (w0.heap.size + 1 + 1 + 1) 0 (.map [])) (by
    have := World.ownsMap_made (H := Unit) (((w0.alloc (.cells #[.int .i64 0, .slice none 0 0, .slice none 0 0] 26)).alloc (.cells #[.int .i64 0, .slice none 0 0, .slice none 0 0] 26)).alloc (.cells #[.int .i64 (p1 s0), .int .i64 (p2 s0)] 126)) Try.prog 126 (plainElem Try.prog 3)
    rw [World.size_alloc, World.size_alloc, World.size_alloc] at this; exact this) (by simp; omega) (fun j e => by cases e; simp)
  have A5 := A4.turn hg (mapT (H := Unit) Try.prog 126 (plainElem Try.prog 3) (w0.heap.size + 1 + 1 + 1) 1 (qD key2 [s0])) hm (by simp; omega) (fun j e => ⟨.inl e, by have := A4.lt j e; exact Nat.lt_of_lt_of_le this.2 hg.size⟩)
  have A6 := (A5.idle (rowT 4 1 (.slice none 0 0) 0 []) (World.ownsRow_nil _ _ _ _) rfl).idle (rowT 3 1 (.slice none 0 0) 0 []) (World.ownsRow_nil _ _ _ _) rfl
  refine ⟨?_, ?_⟩
  · have hb := ((((Below.refl w0.heap.size w0).alloc (Nat.le_refl _) (.cells #[.int .i64 0, .slice none 0 0, .slice none 0 0] 26)).alloc (by simp) (.cells #[.int .i64 0, .slice none 0 0, .slice none 0 0] 26)).alloc (by simp; omega) (.cells #[.int .i64 (p1 s0), .int .i64 (p2 s0)] 126)).alloc (by simp; omega) (.map #[] 0)
    exact hb.grown hg hb.size (fun j e => by cases e; omega)
  · refine A6.perm ?_
    have p : ∀ (a b m q r7 r6 : Thing), [a, b, m, q, r7, r6].Perm [r7, a, b, q, m, r6] := fun a b m q r7 r6 => by
      have h1 : [a, b, m, q, r7, r6].Perm [a, b, q, m, r7, r6] := ((List.Perm.swap q m [r7, r6]).cons b).cons a
      have h2 : [a, b, q, m, r7, r6].Perm (r7 :: [a, b, q, m, r6]) := List.perm_middle (l₁ := [a, b, q, m]) (l₂ := [r6])
      exact h1.trans h2
    exact p _ _ _ _ _ _
end Go.Proofs.Ytjdeahdngpccpaa

namespace Go.Proofs.Ytjdeahdngpccpaa
open Go.RowKit Go.Maps

theorem cell_two_new (w : World) (x y : Value) (t : TypeId) : ∀ j u, [x, y][j]? = some u → (w.alloc (.cells #[x, y] t)).cell? ((⟨w.heap.size, 0, none⟩ : Addr).add j) = some u := by
  intro j u hj
  match j, hj with
  | 0, hj =>
    simp at hj
    subst hj
    simp [Addr.add]
  | 1, hj =>
    simp at hj
    subst hj
    simp [Addr.add]
theorem cellsT_mono {w w' : World} {T M : Nat} {cs : Array Value} {t : TypeId} (h : (cellsT T cs t).says w) (hg : w.grownBy w' (some M)) (hlt : T < w.heap.size) (hne : ¬ (T = M)) : (cellsT T cs t).says w' :=
  (hg.block T hlt (fun e => hne (Option.some.inj e))).trans h
set_option maxHeartbeats 4000000 in
set_option maxRecDepth 100000 in
theorem machineFromPair_any (on : Int → Nat → Option Int) (ends : Int → Bool) (s0 : Int) (N : Nat) (P : Int → Prop) (v1 v2 v3 : Value) (w : World)
    (hN : (bfsTo on s0 N).1.length = N) (hN4 : N ≤ 4000) (h0 : P s0) (hs : ∀ x, P x → ∀ l b, l < 3 → on x l = some b → P b) (hw : ∀ x, P x → wf2 x)
    (HOn : ∀ W, Below w.heap.size w W → ∀ x, P x → ∀ l : Nat, l < 3 → Calls Try.prog 129 #[.agg #[.int .i64 (p1 x), .int .i64 (p2 x)], .int .i64 (l : Int), v1, v2] W fun e W' => ∃ v, e = .returned (.tuple #[.agg #[.int .i64 (p1 v), .int .i64 (p2 v)], .bool true]) ∧ on x l = some v ∧ Below W.heap.size W W')
    (HEnds : ∀ W, Below w.heap.size w W → ∀ x, P x → Calls Try.prog 130 #[.agg #[.int .i64 (p1 x), .int .i64 (p2 x)], v3, v1, v2] W fun e W' => e = .returned (.bool (ends x)) ∧ Below W.heap.size W W') :
    Calls Try.prog 128 #[.agg #[.int .i64 (p1 s0), .int .i64 (p2 s0)], .func (.func 129) #[] #[v1, v2], .func (.func 130) #[] #[v3, v1, v2]] w (MachNew ⟨N, (bfsTo on s0 N).2, (bfsTo on s0 N).1.map ends⟩ w) := by
  have hmm := @run_makeMap Try.prog
  obtain ⟨i0, hi, hz0, hz1, hz2⟩ := info_parts infoIntF
  obtain ⟨j0, hj, hy0, hy1, hy2⟩ := info_parts infoBoolF
  obtain ⟨k0, hkp, hx0, hx1, hx2⟩ := info_parts infoPairF
  have HKP := Lib.hid (And.intro hkp (And.intro hx0 (And.intro hx1 hx2)))
  clear hkp hx0 hx1 hx2
  have HI := Lib.hid (And.intro hi (And.intro hz0 (And.intro hz1 hz2)))
  have HJ := Lib.hid (And.intro hj (And.intro hy0 (And.intro hy1 hy2)))
  clear hi hz0 hz1 hz2 hj hy0 hy1 hy2
  have hbw : Below w.heap.size w (w.alloc (.cells #[.int .i64 (p1 s0), .int .i64 (p2 s0)] 126)) := (Below.refl _ _).alloc (Nat.le_refl _) _
  have HBW := Lib.hid hbw
  have HON := Lib.hid (fun W (hW : Below (w.alloc (.cells #[.int .i64 (p1 s0), .int .i64 (p2 s0)] 126)).heap.size (w.alloc (.cells #[.int .i64 (p1 s0), .int .i64 (p2 s0)] 126)) W) => HOn W (hbw.trans (hW.mono hbw.size)))
  have HENDS := Lib.hid (fun W (hW : Below (w.alloc (.cells #[.int .i64 (p1 s0), .int .i64 (p2 s0)] 126)).heap.size (w.alloc (.cells #[.int .i64 (p1 s0), .int .i64 (p2 s0)] 126)) W) => HEnds W (hbw.trans (hW.mono hbw.size)))
  have hall := Lib.hid (bfsTo_all h0 hs)
  have HNN := Lib.hid hN
  have HS := Lib.hid hs
  have HWF := Lib.hid hw
  have hle := Lib.hid (bfsTo_le hN)
  have wf0 := hw s0 h0
  clear HOn HEnds hN hs hw hbw
  obtain ⟨w1, hrun, hown1, hg1⟩ : ∃ w', (Instr.mapUpdate 144 (.map (some (w.heap.size + 1 + 1 + 1 + 1))) (.agg #[.int .i64 (p1 s0), .int .i64 (p2 s0)]) (.int .i64 0)).run Try.prog (((((w.alloc (.cells #[.int .i64 (p1 s0), .int .i64 (p2 s0)] 126)).alloc (.cells #[.int .i64 0, .slice none 0 0, .slice none 0 0] 26)).alloc (.cells #[.int .i64 0, .slice none 0 0, .slice none 0 0] 26)).alloc (.cells #[.int .i64 (p1 s0), .int .i64 (p2 s0)] 126)).alloc (.map #[] 0)) = .ok () w' ∧ w'.ownsMap (H := Unit) Try.prog 126 (plainElem Try.prog 3) (w.heap.size + 1 + 1 + 1 + 1) 1 ((DataW.map []).put (key2 s0) (.lit (.int .i64 0))) ∧ World.grownBy (((((w.alloc (.cells #[.int .i64 (p1 s0), .int .i64 (p2 s0)] 126)).alloc (.cells #[.int .i64 0, .slice none 0 0, .slice none 0 0] 26)).alloc (.cells #[.int .i64 0, .slice none 0 0, .slice none 0 0] 26)).alloc (.cells #[.int .i64 (p1 s0), .int .i64 (p2 s0)] 126)).alloc (.map #[] 0)) w' (some (w.heap.size + 1 + 1 + 1 + 1)) := by
    have hm := World.ownsMap_made (H := Unit) ((((w.alloc (.cells #[.int .i64 (p1 s0), .int .i64 (p2 s0)] 126)).alloc (.cells #[.int .i64 0, .slice none 0 0, .slice none 0 0] 26)).alloc (.cells #[.int .i64 0, .slice none 0 0, .slice none 0 0] 26)).alloc (.cells #[.int .i64 (p1 s0), .int .i64 (p2 s0)] 126)) Try.prog 126 (plainElem Try.prog 3)
    rw [World.size_alloc, World.size_alloc, World.size_alloc, World.size_alloc] at hm
    exact hm.update lawK2 Try.underlying144 (by unfold maxLen; omega) (key2_of s0 wf0) (plainElem_int Try.underlying3 (by decide))
  have hF0 := from_startP (w.alloc (.cells #[.int .i64 (p1 s0), .int .i64 (p2 s0)] 126)) s0 126 rfl (by rw [World.size_alloc]; exact hown1) (by rw [World.size_alloc]; exact hg1) rfl
  simp only [World.size_alloc] at hF0
  have F0 := Lib.hid hF0
  clear hF0 hown1 hg1
  go_enter Try.func128, Try.ntmps128
  go_wp2_with fail
  have hS0 : (w.alloc (.cells #[.int .i64 (p1 s0), .int .i64 (p2 s0)] 126)).heap.size = w.heap.size + 1 := World.size_alloc _ _
  generalize hW0 : (w.alloc (.cells #[.int .i64 (p1 s0), .int .i64 (p2 s0)] 126)) = W0 at *
  generalize hR6 : w.heap.size + 1 = R6 at *
  generalize R6 + 1 + 1 + 1 = MB at *
  generalize hR7 : R6 + 1 = R7 at *
  generalize (.slice (some ⟨R7 + 1, 0, none⟩) 1 1 : Value) = qv0 at *
  have HS0 := Lib.hid hS0
  clear hS0 hW0
  clear hrun
  go_loopw [8, 10] (fun qv i wr => ∃ (n : Nat) (q : List Int) (nx : List Int) (nv ev : Value), n ≤ N ∧ n ≤ q.length ∧ i = .int .i64 n ∧ bfsTo on s0 n = (q, nx) ∧ FromP W0 R6 R7 MB q qv nx nv ((q.take n).map ends) ev wr) (fun _ i _ => N - (intOf i).toNat)
  case atStart => exact ⟨0, [s0], [], _, _, Nat.zero_le _, Nat.zero_le _, rfl, rfl, F0.out⟩
  case round =>
    obtain ⟨n, q, nx, nv, ev, hn, hnq, rfl, hq, hF⟩ := hrel
    have F1 := Lib.hid hF
    obtain ⟨a8, c8, rfl⟩ := ownsRow_slice hF.rowQ
    clear hF
    have HQ := Lib.hid hq
    have hqN : q.length ≤ N := by have := hle.out n; rw [hq] at this; exact this
    have hPq : Hid (∀ y ∈ q, P y) := by have := hall.out n; rw [hq] at this; exact Lib.hid this
    by_cases hlt : n < q.length
    · have hx := Lib.hid (hPq.out _ (List.getElem_mem hlt))
      generalize hxe : q[n] = x at hx
      have HX := Lib.hid hxe
      clear hq hxe
      go_wp2_with fail
      go_loopw [8, 27] (fun qv' li wr => ∃ (l : Nat) (q' nx' : List Int) (nv' : Value), l ≤ 3 ∧ li = .int .i64 l ∧ bfsL on x (q, nx) l = (q', nx') ∧ FromP W0 R6 R7 MB q' qv' nx' nv' ((q.take n).map ends) ev wr) (fun _ li _ => 3 - (intOf li).toNat)
      case atStart => exact ⟨0, q, nx, nv, by omega, rfl, rfl, F1.out⟩
      case round =>
        obtain ⟨l, q', nx', nv', hl, rfl, hq', hF'⟩ := hrel
        have F2 := Lib.hid hF'
        have HQ' := Lib.hid hq'
        obtain ⟨hn', hxn⟩ := bfsL_at hq' hlt
        rw [HX.out] at hxn
        obtain ⟨g, c8', rfl, -, -⟩ := World.ownsRow.form hF'.rowQ (by omega)
        have hcell := World.ownsRow.cellAt hF'.rowQ (n * 2) (by omega)
        have hcelb := World.ownsRow.cellAt hF'.rowQ (n * 2 + 1) (by omega)
        rw [(prs_at q' n hn').1, hxn] at hcell
        rw [(prs_at q' n hn').2, hxn] at hcelb
        clear hF' hq' hxn
        by_cases hl3 : l < 3
        · go_wp2_with fail
          refine (HON.out _ F2.out.keep x hx.out l hl3).mono ?_
          rintro e w2 ⟨v, rfl, hon, hb⟩
          have F3 := Lib.hid (F2.out.below hb)
          have HB1 : Hid (bfsL on x (q, nx) (l + 1) = bfs1 (q', nx') (on x l)) := by
            have : bfsL on x (q, nx) (l + 1) = bfs1 (q', nx') (on x l) := by rw [bfsL, HQ'.out]
            exact Lib.hid this
          have HPQ : Hid (∀ y ∈ q', P y) := by
            have h1 := bfsL_all (P := P) on x (p := (q, nx)) hPq.out (fun l b hl h => HS.out x hx.out l b hl h) l hl
            rw [HQ'.out] at h1
            exact Lib.hid h1
          have hq'N : q'.length ≤ N := by
            have h1 := (bfsL_mono on x (q, nx) hl).length_le
            have h2 := hle.out (n + 1)
            rw [bfsTo_step (by rw [HQ.out]; exact hlt)] at h2
            simp only [HQ.out, HX.out] at h2
            rw [HQ'.out] at h1
            simp only at h1
            omega
          clear F2 hb hcell hcelb
          have hnl : nx'.length ≤ 13000 := by
            have h1 := bfsL_len on x (q, nx) l
            have h2 := bfsTo_len (on := on) (s0 := s0) n (by rw [HQ.out]; show n ≤ q.length; omega)
            rw [HQ'.out] at h1
            rw [HQ.out] at h2
            simp only at h1 h2
            omega
          have hbt : Below w2.heap.size w2 (w2.alloc (.cells #[.int .i64 (p1 v), .int .i64 (p2 v)] 126)) := (Below.refl _ _).alloc (Nat.le_refl _) _
          have hct : (cellsT w2.heap.size #[.int .i64 (p1 v), .int .i64 (p2 v)] 126).says (w2.alloc (.cells #[.int .i64 (p1 v), .int .i64 (p2 v)] 126)) := heap_alloc_new w2 _
          have F3' := Lib.hid (F3.out.below hbt)
          have HCT := Lib.hid hct
          have hTM : ¬ (w2.heap.size = MB) := by have := F3.out.ap.ltAt 4 (by simp) MB rfl; omega
          have hTs : w2.heap.size < (w2.alloc (.cells #[.int .i64 (p1 v), .int .i64 (p2 v)] 126)).heap.size := by simp
          go_upto_region 11 with fail
          generalize hWT : w2.alloc (.cells #[.int .i64 (p1 v), .int .i64 (p2 v)] 126) = wt at *
          generalize hTB : w2.heap.size = tb at *
          clear hWT hbt hct F3 hTB
          have t0 := cellsT_cell HCT.out 0
          have t1 := cellsT_cell HCT.out 1
          have y0 := F3'.out.cell.1
          have y1 := F3'.out.cell.2.1
          have y2 := F3'.out.cell.2.2
          have HON1 : Hid (on x l = some v) := Lib.hid hon
          have hPv := HS.out x hx.out l v hl3 hon
          have wfv := HWF.out v hPv
          have hwq : ∀ y ∈ q', wf2 y := fun y hy => HWF.out y (HPQ.out y hy)
          have HWQ := Lib.hid hwq
          have HH := Lib.hid (has_k2 (q := q') v hwq wfv)
          clear hwq
          have hnd : Hid (q'.Nodup) := by
            have h1 := bfsL_nodup on x (p := (q, nx)) (by have := bfsTo_nodup on s0 n; rw [HQ.out] at this; exact this) l
            rw [HQ'.out] at h1
            exact Lib.hid h1
          clear hon
          by_cases hm : v ∈ q'
          · have HM := Lib.hid hm
            have HHt : Hid (Maps.has (qD (H := Unit) key2 q') (key2 v) = true) := Lib.hid (HH.out.trans (by simp [hm]))
            clear hm
            go_wp2_with (first | (at_lookup; refine wpList_lookup_own_ok_int _ rfl _ _ 144 rfl 126 3 .i64 lawK2 Try.underlying144 Try.underlying3 (zeroIntF _) MB q'.length (qD (H := Unit) key2 q') rfl F3'.out.map (arr2 v) (key2 v) rfl (key2_of v wfv) ?_; intro c hat0 hwc; rw [HHt.out]) | (at_builtin; refine wpList_append_lies _ rfl _ _ 23 rfl 0 3 i0 (.int .i64 0) 1 8 Try.underlying23 HI.out.1 HI.out.2.1 HI.out.2.2.1 HI.out.2.2.2 rfl (by decide) nv' nx'.length (nx'.map (Value.int .i64)) rfl (F3'.out.rowN.alloc _) ⟨wt.heap.size, 0, none⟩ 1 1 [.int .i64 _] rfl rfl (cell_one_new _ _ _) (by simp [Value.oneCell']) (by omega) (by unfold maxLen; omega) (by omega) (Nat.zero_le _) _ rfl ?_; intro g3 cp w4 hown hgrow hat hlt3; obtain ⟨F4, x31, f31⟩ := F3'.out.nextN hgrow hown hat))
            go_roundw
            case rel =>
              have hc := at_k2 v HWQ.out wfv c hnd.out HM.out hat0
              subst hc
              exact ⟨l + 1, q', nx' ++ [(q'.idxOf v : Int)], _, by omega, by go_num, by rw [HB1.out, HON1.out, bfs1_old HM.out], F4⟩
            case measure => simp [intOf]; omega
          · have HM := Lib.hid hm
            have HHf : Hid (Maps.has (qD (H := Unit) key2 q') (key2 v) = false) := Lib.hid (HH.out.trans (by simp [hm]))
            clear hm
            go_wp2_with (first | (at_lookup; refine wpList_lookup_own_ok_int _ rfl _ _ 144 rfl 126 3 .i64 lawK2 Try.underlying144 Try.underlying3 (zeroIntF _) MB q'.length (qD (H := Unit) key2 q') rfl F3'.out.map (arr2 v) (key2 v) rfl (key2_of v wfv) ?_; intro c hat0 hwc; rw [HHf.out]) | (at_mapUpdate; refine wpList_mapUpdate_own _ rfl _ _ _ 144 rfl 126 3 lawK2 Try.underlying144 _ MB q'.length (qD (H := Unit) key2 q') rfl F3'.out.map (by unfold maxLen; omega) (arr2 v) _ (key2 v) rfl rfl (key2_of v wfv) (.lit (.int .i64 (q'.length : Int))) [] (plainElem_int Try.underlying3 (WalkArith.wf_i64 (by omega))) ?_; intro w3 hown3 hgrow3; have hct3 := cellsT_mono (T := tb) HCT.out hgrow3 hTs hTM; have t30 := cellsT_cell hct3 0; have t31 := cellsT_cell hct3 1) | (at_builtin; refine wpList_append_lies _ rfl _ _ 143 rfl 0 126 k0 (.agg #[.int .i64 0, .int .i64 0]) 2 16 Try.underlying143 HKP.out.1 HKP.out.2.1 HKP.out.2.2.1 HKP.out.2.2.2 rfl (by decide) (.slice (some ⟨g, 0, none⟩) q'.length c8') q'.length (prs q') rfl ((F3'.out.rowQ_kept hgrow3).alloc _) ⟨w3.heap.size, 0, none⟩ 1 1 [.int .i64 (p1 v), .int .i64 (p2 v)] rfl rfl (cell_two_new _ _ _ _) (by simp [Value.oneCell']) (by omega) (by unfold maxLen; omega) (by omega) (Nat.zero_le _) _ rfl ?_; intro g3 cp w4 hown hgrow hat hlt3; have F4 := Lib.hid (F3'.out.push hgrow3 hown3 hgrow hown hat); have y0 := F4.out.cell.1; have y1 := F4.out.cell.2.1; have y2 := F4.out.cell.2.2) | (at_builtin; refine wpList_append_lies _ rfl _ _ 23 rfl 0 3 i0 (.int .i64 0) 1 8 Try.underlying23 HI.out.1 HI.out.2.1 HI.out.2.2.1 HI.out.2.2.2 rfl (by decide) nv' nx'.length (nx'.map (Value.int .i64)) rfl (F4.out.rowN.alloc _) ⟨w4.heap.size, 0, none⟩ 1 1 [.int .i64 _] rfl rfl (cell_one_new _ _ _) (by simp [Value.oneCell']) (by omega) (by unfold maxLen; omega) (by omega) (Nat.zero_le _) _ rfl ?_; intro g5 cp5 w5 hown5 hgrow5 hat5 hlt5; obtain ⟨F5, x31, f31⟩ := F4.out.nextN hgrow5 hown5 hat5))
            go_roundw
            case rel => exact ⟨l + 1, q' ++ [v], nx' ++ [(q'.length : Int)], _, by omega, by go_num, by rw [HB1.out, HON1.out, bfs1_new HM.out], F5⟩
            case measure => simp [intOf]; omega
        · obtain rfl : l = 3 := by omega
          have HB3 : Hid (bfsTo on s0 (n + 1) = (q', nx')) := by
            have : bfsTo on s0 (n + 1) = (q', nx') := by
              rw [bfsTo_step (by rw [HQ.out]; exact hlt)]
              simp only [HQ.out, HX.out]
              exact HQ'.out
            exact Lib.hid this
          have hn1 : n < N := by omega
          have HT : Hid ((q'.take (n + 1)).map ends = (q.take n).map ends ++ [ends x]) := Lib.hid (bfsL_take HQ'.out hlt HX.out)
          have hes : ((q.take n).map ends).length ≤ 4000 := by rw [List.length_map, List.length_take]; omega
          generalize (q.take n).map ends = es at *
          go_wp2_with fail
          have Fd := Lib.hid (F2.out.same (grown_drew _ none))
          have z12 := Fd.out.cell.2.2
          have hcell2 : wr.drew.cell? ⟨g, n * 2, none⟩ = some (.int .i64 (p1 x)) := hcell
          have hcelb2 : wr.drew.cell? ⟨g, n * 2 + 1, none⟩ = some (.int .i64 (p2 x)) := hcelb
          have HK := Lib.hid Fd.out.keep
          go_region_law (first | (go_simp; go_at_call 130; refine (HENDS.out _ HK.out x hx.out).mono ?_; rintro e w2 ⟨rfl, hb⟩; have F3 := Lib.hid (Fd.out.below hb); have x12 := F3.out.cell.2.2; have x13 := fun b => (F3.out.same (World.grownBy_alloc w2 (.cells #[.bool b] 4) none)).cell.2.2) | (refine step_append_lies _ rfl _ _ 24 rfl 0 4 j0 (.bool false) 1 1 Try.underlying24 HJ.out.1 HJ.out.2.1 HJ.out.2.2.1 HJ.out.2.2.2 rfl (by decide) ev es.length (es.map Value.bool) rfl (F3.out.rowE.alloc _) ⟨w2.heap.size, 0, none⟩ 1 1 [.bool (ends x)] rfl rfl (cell_one_new _ _ _) (by simp [Value.oneCell']) (by omega) (by unfold maxLen; omega) (by omega) (Nat.zero_le _) _ rfl ?_; intro g3 cp w4 hown hgrow hat hlt3; obtain ⟨F4, x31, f31⟩ := F3.out.nextE hgrow hown hat))
          all_goals
            clear z12 x12 x13
            go_wp2
            go_roundw
            case rel => exact ⟨n + 1, q', nx', nv', _, hn1, hn', by go_num, HB3.out, by rw [HT.out]; exact F4⟩
            case measure => simp [intOf]; omega
    · have hqn : q.length = n := by omega
      have hnN : n = N := bfsTo_one (by rw [HQ.out]; exact hqn) HNN.out
      subst hnN
      have F5 := F1.out
      rw [List.take_of_length_le (by omega)] at F5
      clear F1
      obtain ⟨a1, c1, rfl⟩ := ownsRow_slice F5.rowN
      obtain ⟨a2, c2, rfl⟩ := ownsRow_slice F5.rowE
      have F1 := Lib.hid F5
      clear F5
      have y0 := F1.out.cell.1
      have y0f := F1.out.froz 0
      obtain ⟨x0, x1, x2, x6⟩ := F1.out.len (n : Int) rfl
      have g00 : (wr.setCell ⟨R7, 0, none⟩ (.int .i64 (n : Int))).cell? ⟨R6, 0, none⟩ = some (.int .i64 0) := cellsT_cell x6 0
      have g01 : (wr.setCell ⟨R7, 0, none⟩ (.int .i64 (n : Int))).cell? ⟨R6, 1, none⟩ = some (.slice none 0 0) := cellsT_cell x6 1
      have g02 : (wr.setCell ⟨R7, 0, none⟩ (.int .i64 (n : Int))).cell? ⟨R6, 2, none⟩ = some (.slice none 0 0) := cellsT_cell x6 2
      have f00 := cellsT_frozen x6 0
      have f01 := cellsT_frozen x6 1
      have f02 := cellsT_frozen x6 2
      clear x6
      go_wp2_with fail
      obtain ⟨r1, r2, r3, r4, r5⟩ := F1.out.done (n : Int) rfl
      have hM : (⟨(n : Int), (bfsTo on s0 n).2, (bfsTo on s0 n).1.map ends⟩ : M) = ⟨(n : Int), nx, q.map ends⟩ := by rw [HQ.out]
      refine bodyPost_ret (v := .agg #[.int .i64 (n : Int), .slice a1 nx.length c1, .slice a2 n c2]) ?_ rfl (by rw [hM]; exact ⟨a1, a2, c1, c2, by simp only [List.length_map, hqn], r1.mono (by have := HS0.out; omega), HBW.out.trans (r2.mono (by have := HS0.out; omega))⟩)
      simp [results, Try.results128, go_sem, r3, r4, r5]
end Go.Proofs.Ytjdeahdngpccpaa

namespace Go.Proofs.Ytjdeahdngpccpaa
open Go.RowKit

theorem bothFn_any (a b : Bool) (W : World) : Calls Try.prog 91 #[.bool a, .bool b] W fun e W' => e = .returned (.bool (a && b)) ∧ Below W.heap.size W W' := by
  cases a <;> cases b <;> (go_enter Try.func91, Try.ntmps91; go_wp2; go_ret; exact ⟨rfl, Below.refl _ _⟩)
theorem eitherFn_any (a b : Bool) (W : World) : Calls Try.prog 90 #[.bool a, .bool b] W fun e W' => e = .returned (.bool (a || b)) ∧ Below W.heap.size W W' := by
  cases a <;> cases b <;> (go_enter Try.func90, Try.ntmps90; go_wp2; go_ret; exact ⟨rfl, Below.refl _ _⟩)
/-- two machines in boxes, a pair, and a function in a box -/
structure Pfx (a b c f : Nat) (ms ks : Int) (nv ev mv uv : Value) (x y : Int) (fv : Value) (W : World) : Prop where
  pb : Pbx a b c ms ks nv ev mv uv x y W
  lf : f < W.heap.size
  cf : W.cell? ⟨f, 0, none⟩ = some fv
theorem Pfx.below {a b c f : Nat} {ms ks : Int} {nv ev mv uv : Value} {x y : Int} {fv : Value} {W W' : World} (h : Pfx a b c f ms ks nv ev mv uv x y fv W) (hb : Below W.heap.size W W') : Pfx a b c f ms ks nv ev mv uv x y fv W' :=
  ⟨h.pb.below hb, Nat.lt_of_lt_of_le h.lf hb.size, (hb.cell (p := ⟨f, 0, none⟩) h.lf).trans h.cf⟩
theorem Pfx.cells {a b c f : Nat} {ms ks : Int} {nv ev mv uv : Value} {x y : Int} {fv : Value} {W : World} (h : Pfx a b c f ms ks nv ev mv uv x y fv W) :
    W.cell? ⟨f, 0, none⟩ = some fv ∧ W.cell? ⟨a, 0, none⟩ = some (.int .i64 ms) ∧ W.cell? ⟨a, 1, none⟩ = some nv ∧ W.cell? ⟨a, 2, none⟩ = some ev ∧ W.cell? ⟨b, 0, none⟩ = some (.int .i64 ks) ∧ W.cell? ⟨b, 1, none⟩ = some mv ∧ W.cell? ⟨b, 2, none⟩ = some uv ∧ W.cell? ⟨c, 0, none⟩ = some (.int .i64 x) ∧ W.cell? ⟨c, 1, none⟩ = some (.int .i64 y) := ⟨h.cf, h.pb.cells⟩

set_option maxHeartbeats 1600000 in
theorem pairEndsBoth_any (A B : M) (an ae bn be : Value) (bA bB fB : Nat) (W : World) (hT : Two bA bB A B an ae bn be W) (hA : A.good) (hB : B.good) (hf : W.cell? ⟨fB, 0, none⟩ = some (.func (.func 91) #[] #[])) (hfl : fB < W.heap.size) (x : Int) (hx : inP A B x) :
    Calls Try.prog 130 #[.agg #[.int .i64 (p1 x), .int .i64 (p2 x)], .pointer (some ⟨fB, 0, none⟩), .pointer (some ⟨bA, 0, none⟩), .pointer (some ⟨bB, 0, none⟩)] W
      fun e W' => e = .returned (.bool (pEnds A B (fun a b => a && b) x)) ∧ Below W.heap.size W W' := by
  have hb0 : Below W.heap.size W (W.alloc (.cells #[.int .i64 (p1 x), .int .i64 (p2 x)] 126)) := (Below.refl _ _).alloc (Nat.le_refl _) _
  have T0 := hT.below hb0
  have X0 : Pfx bA bB W.heap.size fB A.st B.st an ae bn be (p1 x) (p2 x) (.func (.func 91) #[] #[]) (W.alloc (.cells #[.int .i64 (p1 x), .int .i64 (p2 x)] 126)) := by
    refine ⟨⟨⟨T0.a.hB, T0.b.hB, T0.a.c0, T0.a.c1, T0.a.c2, T0.b.c0, T0.b.c1, T0.b.c2⟩, by simp, World.cell?_alloc_new _ _ _ 0, World.cell?_alloc_new _ _ _ 1⟩, by simp; omega, (hb0.cell (p := ⟨fB, 0, none⟩) hfl).trans hf⟩
  have HX := Lib.hid X0
  have HQ := Lib.hid hb0
  have H1 : Hid (∀ V, Below W.heap.size W V → Calls Try.prog 80 #[.agg #[.int .i64 A.st, an, ae], .int .i64 (p1 x)] V fun e w' => e = .returned (.bool (A.endAt (p1 x))) ∧ Below V.heap.size V w') :=
    Lib.hid (fun V hV => implEndOk_any A (p1 x) an ae V (hT.below hV).a.bools hA hx.1 hx.2.1)
  have H2 : Hid (∀ V, Below W.heap.size W V → Calls Try.prog 80 #[.agg #[.int .i64 B.st, bn, be], .int .i64 (p2 x)] V fun e w' => e = .returned (.bool (B.endAt (p2 x))) ∧ Below V.heap.size V w') :=
    Lib.hid (fun V hV => implEndOk_any B (p2 x) bn be V (hT.below hV).b.bools hB hx.2.2.1 hx.2.2.2)
  have HPE : Hid (pEnds A B (fun a b => a && b) x = (A.endAt (p1 x) && B.endAt (p2 x))) := Lib.hid rfl
  clear hb0 T0 X0 hT hx hA hB hf hfl
  obtain ⟨y8, y0, y1, y2, y3, y4, y5, y6, y7⟩ := HX.out.cells
  go_enter Try.func130, Try.ntmps130
  go_upto_region 1 with fail
  generalize hW2 : W.alloc (.cells #[.int .i64 (p1 x), .int .i64 (p2 x)] 126) = w2 at *
  clear hW2
  have BD := Lib.hid ((Below.refl w2.heap.size w2).drew)
  have HSX : Hid (∀ V, Below w2.heap.size w2 V → Pfx bA bB W.heap.size fB A.st B.st an ae bn be (p1 x) (p2 x) (.func (.func 91) #[] #[]) V) := Lib.hid (fun V h => HX.out.below h)
  have HH1 : Hid (∀ V, Below w2.heap.size w2 V → Calls Try.prog 80 #[.agg #[.int .i64 A.st, an, ae], .int .i64 (p1 x)] V fun e w' => e = .returned (.bool (A.endAt (p1 x))) ∧ Below V.heap.size V w') := Lib.hid (fun V h => H1.out V (HQ.out.trans (h.mono HQ.out.size)))
  have HH2 : Hid (∀ V, Below w2.heap.size w2 V → Calls Try.prog 80 #[.agg #[.int .i64 B.st, bn, be], .int .i64 (p2 x)] V fun e w' => e = .returned (.bool (B.endAt (p2 x))) ∧ Below V.heap.size V w') := Lib.hid (fun V h => H2.out V (HQ.out.trans (h.mono HQ.out.size)))
  have XD := HSX.out _ BD.out
  clear H1 H2 HX
  generalize A.endAt (p1 x) = ea at *
  generalize B.endAt (p2 x) = eb at *
  go_region_held3 (fun w' => w'.cell? ⟨fB, 0, none⟩ = some (.func (.func 91) #[] #[]) ∧ w'.cell? ⟨bA, 0, none⟩ = some (.int .i64 A.st) ∧ w'.cell? ⟨bA, 1, none⟩ = some an ∧ w'.cell? ⟨bA, 2, none⟩ = some ae ∧ w'.cell? ⟨bB, 0, none⟩ = some (.int .i64 B.st) ∧ w'.cell? ⟨bB, 1, none⟩ = some bn ∧ w'.cell? ⟨bB, 2, none⟩ = some be ∧ w'.cell? ⟨W.heap.size, 0, none⟩ = some (.int .i64 (p1 x)) ∧ w'.cell? ⟨W.heap.size, 1, none⟩ = some (.int .i64 (p2 x)))
    (first | (with_reducible exact XD.cells) | (with_reducible exact X3.cells) | (with_reducible exact X4.cells) | (with_reducible exact X5.cells))
    (first | (go_at_call 80; with_reducible refine Calls.mono (HH1.out _ ?_) ?_; (· (with_reducible exact BD.out)); rintro e w3 ⟨rfl, hb3⟩; with_reducible have B3 := Lib.hid (Below.then' BD.out hb3); have X3 := HSX.out _ B3.out; clear hb3) | (go_at_call 80; with_reducible refine Calls.mono (HH2.out _ ?_) ?_; (· (with_reducible exact B3.out)); rintro e w4 ⟨rfl, hb4⟩; have B4 := Lib.hid (Below.then' B3.out hb4); clear hb4; have X4 := HSX.out _ B4.out) | (go_at_call 91; refine Calls.mono (bothFn_any ea eb _) ?_; rintro e w5 ⟨rfl, hb5⟩; have B5 := Lib.hid (Below.then' B4.out hb5); clear hb5; have X5 := HSX.out _ B5.out))
  all_goals
    clear XD X3 X4 X5 HSX HH1 HH2 y0 y1 y2 y3 y4 y5 y6 y7 y8
    go_wp2
    go_ret
    exact ⟨ret_bool HPE.out.symm, HQ.out.trans (B5.out.mono HQ.out.size)⟩
set_option maxHeartbeats 1600000 in
theorem pairEndsEither_any (A B : M) (an ae bn be : Value) (bA bB fB : Nat) (W : World) (hT : Two bA bB A B an ae bn be W) (hA : A.good) (hB : B.good) (hf : W.cell? ⟨fB, 0, none⟩ = some (.func (.func 90) #[] #[])) (hfl : fB < W.heap.size) (x : Int) (hx : inP A B x) :
    Calls Try.prog 130 #[.agg #[.int .i64 (p1 x), .int .i64 (p2 x)], .pointer (some ⟨fB, 0, none⟩), .pointer (some ⟨bA, 0, none⟩), .pointer (some ⟨bB, 0, none⟩)] W
      fun e W' => e = .returned (.bool (pEnds A B (fun a b => a || b) x)) ∧ Below W.heap.size W W' := by
  have hb0 : Below W.heap.size W (W.alloc (.cells #[.int .i64 (p1 x), .int .i64 (p2 x)] 126)) := (Below.refl _ _).alloc (Nat.le_refl _) _
  have T0 := hT.below hb0
  have X0 : Pfx bA bB W.heap.size fB A.st B.st an ae bn be (p1 x) (p2 x) (.func (.func 90) #[] #[]) (W.alloc (.cells #[.int .i64 (p1 x), .int .i64 (p2 x)] 126)) := by
    refine ⟨⟨⟨T0.a.hB, T0.b.hB, T0.a.c0, T0.a.c1, T0.a.c2, T0.b.c0, T0.b.c1, T0.b.c2⟩, by simp, World.cell?_alloc_new _ _ _ 0, World.cell?_alloc_new _ _ _ 1⟩, by simp; omega, (hb0.cell (p := ⟨fB, 0, none⟩) hfl).trans hf⟩
  have HX := Lib.hid X0
  have HQ := Lib.hid hb0
  have H1 : Hid (∀ V, Below W.heap.size W V → Calls Try.prog 80 #[.agg #[.int .i64 A.st, an, ae], .int .i64 (p1 x)] V fun e w' => e = .returned (.bool (A.endAt (p1 x))) ∧ Below V.heap.size V w') :=
    Lib.hid (fun V hV => implEndOk_any A (p1 x) an ae V (hT.below hV).a.bools hA hx.1 hx.2.1)
  have H2 : Hid (∀ V, Below W.heap.size W V → Calls Try.prog 80 #[.agg #[.int .i64 B.st, bn, be], .int .i64 (p2 x)] V fun e w' => e = .returned (.bool (B.endAt (p2 x))) ∧ Below V.heap.size V w') :=
    Lib.hid (fun V hV => implEndOk_any B (p2 x) bn be V (hT.below hV).b.bools hB hx.2.2.1 hx.2.2.2)
  have HPE : Hid (pEnds A B (fun a b => a || b) x = (A.endAt (p1 x) || B.endAt (p2 x))) := Lib.hid rfl
  clear hb0 T0 X0 hT hx hA hB hf hfl
  obtain ⟨y8, y0, y1, y2, y3, y4, y5, y6, y7⟩ := HX.out.cells
  go_enter Try.func130, Try.ntmps130
  go_upto_region 1 with fail
  generalize hW2 : W.alloc (.cells #[.int .i64 (p1 x), .int .i64 (p2 x)] 126) = w2 at *
  clear hW2
  have BD := Lib.hid ((Below.refl w2.heap.size w2).drew)
  have HSX : Hid (∀ V, Below w2.heap.size w2 V → Pfx bA bB W.heap.size fB A.st B.st an ae bn be (p1 x) (p2 x) (.func (.func 90) #[] #[]) V) := Lib.hid (fun V h => HX.out.below h)
  have HH1 : Hid (∀ V, Below w2.heap.size w2 V → Calls Try.prog 80 #[.agg #[.int .i64 A.st, an, ae], .int .i64 (p1 x)] V fun e w' => e = .returned (.bool (A.endAt (p1 x))) ∧ Below V.heap.size V w') := Lib.hid (fun V h => H1.out V (HQ.out.trans (h.mono HQ.out.size)))
  have HH2 : Hid (∀ V, Below w2.heap.size w2 V → Calls Try.prog 80 #[.agg #[.int .i64 B.st, bn, be], .int .i64 (p2 x)] V fun e w' => e = .returned (.bool (B.endAt (p2 x))) ∧ Below V.heap.size V w') := Lib.hid (fun V h => H2.out V (HQ.out.trans (h.mono HQ.out.size)))
  have XD := HSX.out _ BD.out
  clear H1 H2 HX
  generalize A.endAt (p1 x) = ea at *
  generalize B.endAt (p2 x) = eb at *
  go_region_held3 (fun w' => w'.cell? ⟨fB, 0, none⟩ = some (.func (.func 90) #[] #[]) ∧ w'.cell? ⟨bA, 0, none⟩ = some (.int .i64 A.st) ∧ w'.cell? ⟨bA, 1, none⟩ = some an ∧ w'.cell? ⟨bA, 2, none⟩ = some ae ∧ w'.cell? ⟨bB, 0, none⟩ = some (.int .i64 B.st) ∧ w'.cell? ⟨bB, 1, none⟩ = some bn ∧ w'.cell? ⟨bB, 2, none⟩ = some be ∧ w'.cell? ⟨W.heap.size, 0, none⟩ = some (.int .i64 (p1 x)) ∧ w'.cell? ⟨W.heap.size, 1, none⟩ = some (.int .i64 (p2 x)))
    (first | (with_reducible exact XD.cells) | (with_reducible exact X3.cells) | (with_reducible exact X4.cells) | (with_reducible exact X5.cells))
    (first | (go_at_call 80; with_reducible refine Calls.mono (HH1.out _ ?_) ?_; (· (with_reducible exact BD.out)); rintro e w3 ⟨rfl, hb3⟩; with_reducible have B3 := Lib.hid (Below.then' BD.out hb3); have X3 := HSX.out _ B3.out; clear hb3) | (go_at_call 80; with_reducible refine Calls.mono (HH2.out _ ?_) ?_; (· (with_reducible exact B3.out)); rintro e w4 ⟨rfl, hb4⟩; have B4 := Lib.hid (Below.then' B3.out hb4); clear hb4; have X4 := HSX.out _ B4.out) | (go_at_call 90; refine Calls.mono (eitherFn_any ea eb _) ?_; rintro e w5 ⟨rfl, hb5⟩; have B5 := Lib.hid (Below.then' B4.out hb5); clear hb5; have X5 := HSX.out _ B5.out))
  all_goals
    clear XD X3 X4 X5 HSX HH1 HH2 y0 y1 y2 y3 y4 y5 y6 y7 y8
    go_wp2
    go_ret
    exact ⟨ret_bool HPE.out.symm, HQ.out.trans (B5.out.mono HQ.out.size)⟩
/-- what pairMachine holds -/
structure Pm (a : Nat) (A B : M) (an ae bn be fv : Value) (W : World) : Prop where
  t : Two a (a + 1) A B an ae bn be W
  lf : a + 1 + 1 < W.heap.size
  cf : W.cell? ⟨a + 1 + 1, 0, none⟩ = some fv
  z : Z0 (a + 1 + 1 + 1) W
theorem Pm.below {a : Nat} {A B : M} {an ae bn be fv : Value} {W W' : World} (h : Pm a A B an ae bn be fv W) (hb : Below W.heap.size W W') : Pm a A B an ae bn be fv W' :=
  ⟨h.t.below hb, Nat.lt_of_lt_of_le h.lf hb.size, (hb.cell (p := ⟨a + 1 + 1, 0, none⟩) h.lf).trans h.cf, h.z.below hb⟩
theorem Pm.new {A B : M} {an ae bn be fv : Value} {w : World} (h1 : IsInts w an A.next) (h2 : IsBools w ae A.ends) (h3 : IsInts w bn B.next) (h4 : IsBools w be B.ends) :
    Pm w.heap.size A B an ae bn be fv ((((w.alloc (.cells #[.int .i64 A.st, an, ae] 26)).alloc (.cells #[.int .i64 B.st, bn, be] 26)).alloc (.cells #[fv] 88)).alloc (.cells #[.int .i64 0, .slice none 0 0, .slice none 0 0] 26)) ∧
      Below w.heap.size w ((((w.alloc (.cells #[.int .i64 A.st, an, ae] 26)).alloc (.cells #[.int .i64 B.st, bn, be] 26)).alloc (.cells #[fv] 88)).alloc (.cells #[.int .i64 0, .slice none 0 0, .slice none 0 0] 26)) := by
  obtain ⟨T2, q2⟩ := Two.new 26 h1 h2 h3 h4
  have hs2 : ((w.alloc (.cells #[.int .i64 A.st, an, ae] 26)).alloc (.cells #[.int .i64 B.st, bn, be] 26)).heap.size = w.heap.size + 1 + 1 := by simp
  generalize (w.alloc (.cells #[.int .i64 A.st, an, ae] 26)).alloc (.cells #[.int .i64 B.st, bn, be] 26) = w2 at *
  have hb := ((Below.refl w2.heap.size w2).alloc (Nat.le_refl _) (.cells #[fv] 88)).alloc (by simp) (.cells #[.int .i64 0, .slice none 0 0, .slice none 0 0] 26)
  have hz := Z0.new (w2.alloc (.cells #[fv] 88))
  rw [World.size_alloc, hs2] at hz
  refine ⟨⟨T2.below hb, by simp [hs2], ?_, hz⟩, q2.trans (hb.mono q2.size)⟩
  have h5 := World.cell?_alloc_lt (w2.alloc (.cells #[fv] 88)) (.cells #[.int .i64 0, .slice none 0 0, .slice none 0 0] 26) ⟨w2.heap.size, 0, none⟩ (by simp)
  rw [World.cell?_alloc_new w2 #[fv] _ 0, hs2] at h5
  exact h5

set_option maxHeartbeats 1600000 in
set_option maxRecDepth 100000 in
theorem pairMachine_any (g : Bool → Bool → Bool) (fi : Nat)
    (HE : ∀ (A B : M) (an ae bn be : Value) (bA bB fB : Nat) (W : World), Two bA bB A B an ae bn be W → A.good → B.good → W.cell? ⟨fB, 0, none⟩ = some (.func (.func fi) #[] #[]) → fB < W.heap.size → ∀ x, inP A B x → Calls Try.prog 130 #[.agg #[.int .i64 (p1 x), .int .i64 (p2 x)], .pointer (some ⟨fB, 0, none⟩), .pointer (some ⟨bA, 0, none⟩), .pointer (some ⟨bB, 0, none⟩)] W fun e W' => e = .returned (.bool (pEnds A B g x)) ∧ Below W.heap.size W W')
    (A B : M) (an ae bn be : Value) (w : World) (h1 : IsInts w an A.next) (h2 : IsBools w ae A.ends) (h3 : IsInts w bn B.next) (h4 : IsBools w be B.ends) (hs1 : (Lit.int .i64 A.st).wf = true) (hs2 : (Lit.int .i64 B.st).wf = true) :
    Calls Try.prog 89 #[.agg #[.int .i64 A.st, an, ae], .agg #[.int .i64 B.st, bn, be], .func (.func fi) #[] #[]] w (JoinNew (A.ok && B.ok) (fun u => g (A.lang 0 u) (B.lang 0 u)) w) := by
  obtain ⟨P4, q4⟩ := Pm.new (fv := .func (.func fi) #[] #[]) h1 h2 h3 h4
  have HP := Lib.hid P4
  have HQ := Lib.hid q4
  have y0 := P4.t.a.c0
  have y1 := P4.t.a.c1
  have y2 := P4.t.a.c2
  have HEE := Lib.hid HE
  clear P4 q4 h1 h2 h3 h4 HE
  go_enter Try.func89, Try.ntmps89
  go_wp2_with fail
  generalize hW2 : (((w.alloc (.cells #[.int .i64 A.st, an, ae] 26)).alloc (.cells #[.int .i64 B.st, bn, be] 26)).alloc (.cells #[.func (.func fi) #[] #[]] 88)).alloc (.cells #[.int .i64 0, .slice none 0 0, .slice none 0 0] 26) = w2 at *
  clear hW2 y0 y1 y2
  refine (implMachineOk_any A an ae w2 HP.out.t.a.ints HP.out.t.a.bools hs1).mono ?_
  rintro e w3 ⟨rfl, hb3⟩
  have P3 := Lib.hid (HP.out.below hb3)
  have Q3 := Lib.hid (HQ.out.trans (hb3.mono HQ.out.size))
  clear hb3
  cases hk1 : A.ok with
  | false =>
    have HJ : Hid (IsJoin (A.ok && B.ok) (fun u => g (A.lang 0 u) (B.lang 0 u)) ⟨0, [], []⟩ false) := Lib.hid (.inr ⟨rfl, rfl, fun h => by rw [hk1] at h; cases h⟩)
    have z0 := P3.out.z.c0
    have z1 := P3.out.z.c1
    have z2 := P3.out.z.c2
    have f0 := P3.out.z.f0
    have f1 := P3.out.z.f1
    have f2 := P3.out.z.f2
    have FI := Lib.hid (fin_cells (x := .int .i64 0) (y := .slice none 0 0) (z := .slice none 0 0) (apart_nils w3.heap.size w3) Q3.out (by omega) P3.out.z.lt (some3 z0 z1 z2) Q3.out.size)
    rw [← hk1]
    go_wp2
    obtain ⟨r1, r2, r3, r4, r5⟩ := FI.out _ rfl
    refine bodyPost_ret (v := .tuple #[.agg #[.int .i64 0, .slice none 0 0, .slice none 0 0], .bool false]) ?_ rfl ⟨⟨0, [], []⟩, false, none, none, 0, 0, HJ.out, rfl, r1, r2⟩
    simp [results, Try.results89, go_sem, r3, r4, r5]
  | true =>
    have y0 := P3.out.t.b.c0
    have y1 := P3.out.t.b.c1
    have y2 := P3.out.t.b.c2
    go_wp2_with fail
    clear y0 y1 y2
    refine (implMachineOk_any B bn be w3 P3.out.t.b.ints P3.out.t.b.bools hs2).mono ?_
    rintro e w4 ⟨rfl, hb4⟩
    have P4 := Lib.hid (P3.out.below hb4)
    have Q4 := Lib.hid (Q3.out.trans (hb4.mono Q3.out.size))
    clear hb4
    cases hk2 : B.ok with
    | false =>
      have HJ : Hid (IsJoin (A.ok && B.ok) (fun u => g (A.lang 0 u) (B.lang 0 u)) ⟨0, [], []⟩ false) := Lib.hid (.inr ⟨rfl, rfl, fun h => by rw [hk1, hk2] at h; cases h⟩)
      have z0 := P4.out.z.c0
      have z1 := P4.out.z.c1
      have z2 := P4.out.z.c2
      have f0 := P4.out.z.f0
      have f1 := P4.out.z.f1
      have f2 := P4.out.z.f2
      have FI := Lib.hid (fin_cells (x := .int .i64 0) (y := .slice none 0 0) (z := .slice none 0 0) (apart_nils w4.heap.size w4) Q4.out (by omega) P4.out.z.lt (some3 z0 z1 z2) Q4.out.size)
      go_wp2
      obtain ⟨r1, r2, r3, r4, r5⟩ := FI.out _ rfl
      refine bodyPost_ret (v := .tuple #[.agg #[.int .i64 0, .slice none 0 0, .slice none 0 0], .bool false]) ?_ rfl ⟨⟨0, [], []⟩, false, none, none, 0, 0, HJ.out, rfl, r1, r2⟩
      simp [results, Try.results89, go_sem, r3, r4, r5]
    | true =>
      have HA := M.ok_good hk1
      have HB := M.ok_good hk2
      have s1 := M.ok_shape hk1
      have s2 := M.ok_shape hk2
      obtain ⟨N, hN24, hN⟩ := pair_n (A := A) (B := B) s1.1 s1.2.1 s2.2.1 s2.1 (on := pOn A B) (fun x hx l b hl h => pOn_in HA HB s2.2.1 x hx l b hl h)
      obtain ⟨Mx, hMx⟩ : ∃ Mx, Mx = bM (pOn A B) (pc 0 0) N (pEnds A B g) := ⟨_, rfl⟩
      have HF : Calls Try.prog 128 #[.agg #[.int .i64 0, .int .i64 0], .func (.func 129) #[] #[.pointer (some ⟨w.heap.size, 0, none⟩), .pointer (some ⟨w.heap.size + 1, 0, none⟩)], .func (.func 130) #[] #[.pointer (some ⟨w.heap.size + 1 + 1, 0, none⟩), .pointer (some ⟨w.heap.size, 0, none⟩), .pointer (some ⟨w.heap.size + 1, 0, none⟩)]] w4 (MachNew Mx w4) := by
        have h := machineFromPair_any (pOn A B) (pEnds A B g) (pc 0 0) N (inP A B) (.pointer (some ⟨w.heap.size, 0, none⟩)) (.pointer (some ⟨w.heap.size + 1, 0, none⟩)) (.pointer (some ⟨w.heap.size + 1 + 1, 0, none⟩)) w4 hN (by omega) (inP_zero s1.1 s2.2.1 s2.1)
          (fun x hx l b hl h => pOn_in HA HB s2.2.1 x hx l b hl h)
          (fun x hx => ⟨WalkArith.wf_i64 (by have := hx.1; have := hx.2.1; omega), WalkArith.wf_i64 (by have := hx.2.2.1; have := hx.2.2.2; omega)⟩)
          (fun W hW x hx l hl => pairOn_any A B an ae bn be _ _ W (P4.out.below hW).t HA HB s2.2.1 x hx l hl)
          (fun W hW x hx => HEE.out A B an ae bn be _ _ _ W (P4.out.below hW).t HA HB (P4.out.below hW).cf (P4.out.below hW).lf x hx)
        rw [show p1 (pc 0 0) = 0 from rfl, show p2 (pc 0 0) = 0 from rfl] at h
        rw [hMx]
        exact h
      have hMg : Mx.good := by rw [hMx]; exact bM_good hN (by omega)
      have hML : Mx.lang 0 = fun u => g (A.lang 0 u) (B.lang 0 u) := by rw [hMx]; exact pOn_lang HA HB s2.2.1 g hN
      have HMG := Lib.hid hMg
      have HML := Lib.hid hML
      have HFH := Lib.hid HF
      have HKK := Lib.hid (And.intro hk1 hk2)
      clear HA HB s1 s2 hN24 hN hMx HF hMg hML hk1 hk2
      go_wp2_with fail
      refine HFH.out.mono ?_
      rintro e w5 ⟨a1, a2, c1, c2, rfl, hA5, hb5⟩
      have P5 := Lib.hid (P4.out.below hb5)
      have Q5 := Lib.hid (Q4.out.trans (hb5.mono Q4.out.size))
      have HI := Lib.hid (And.intro (IsInts.of_owns hA5.head) (IsBools.of_owns hA5.tail.head))
      clear hA5 hb5
      go_wp2_with fail
      refine (implLeastOf_any Mx _ _ w5 HI.out.1 HI.out.2 HMG.out).mono ?_
      intro e w6 hL
      obtain ⟨K, r, d1, d2, e1, e2, hJ, rfl, hA6, hb6⟩ := hL.join HMG.out
      rw [HML.out] at hJ
      have HJ : Hid (IsJoin (A.ok && B.ok) (fun u => g (A.lang 0 u) (B.lang 0 u)) K r) := Lib.hid (by rw [HKK.out.1, HKK.out.2]; exact hJ)
      have P6 := Lib.hid (P5.out.below hb6)
      have Q6 := Lib.hid (Q5.out.trans (hb6.mono Q5.out.size))
      have z0 := P6.out.z.c0
      have z1 := P6.out.z.c1
      have z2 := P6.out.z.c2
      have f0 := P6.out.z.f0
      have f1 := P6.out.z.f1
      have f2 := P6.out.z.f2
      have FI := Lib.hid (fin_cells (x := .int .i64 K.st) (y := .slice d1 K.next.length e1) (z := .slice d2 K.ends.length e2) hA6 Q6.out (by omega) P5.out.z.lt (some3 z0 z1 z2) Q5.out.size)
      clear hL hJ hA6 hb6
      go_wp2
      obtain ⟨r1, r2, r3, r4, r5⟩ := FI.out _ rfl
      refine bodyPost_ret (v := .tuple #[.agg #[.int .i64 K.st, .slice d1 K.next.length e1, .slice d2 K.ends.length e2], .bool r]) ?_ rfl ⟨K, r, d1, d2, e1, e2, HJ.out, rfl, r1, r2⟩
      simp [results, Try.results89, go_sem, r3, r4, r5]
set_option maxHeartbeats 1600000 in
theorem implBoth_any (A B : M) (an ae bn be : Value) (w : World) (h1 : IsInts w an A.next) (h2 : IsBools w ae A.ends) (h3 : IsInts w bn B.next) (h4 : IsBools w be B.ends) (hs1 : (Lit.int .i64 A.st).wf = true) (hs2 : (Lit.int .i64 B.st).wf = true) :
    Calls Try.prog 42 #[.agg #[.int .i64 A.st, an, ae], .agg #[.int .i64 B.st, bn, be]] w (JoinNew (A.ok && B.ok) (fun u => A.lang 0 u && B.lang 0 u) w) := by
  obtain ⟨T2, q2⟩ := Two.new 26 h1 h2 h3 h4
  have hbz := (Below.refl _ ((w.alloc (.cells #[.int .i64 A.st, an, ae] 26)).alloc (.cells #[.int .i64 B.st, bn, be] 26))).alloc (Nat.le_refl _) (.cells #[.int .i64 0, .slice none 0 0, .slice none 0 0] 26)
  have HT := Lib.hid (T2.below hbz)
  have HQ := Lib.hid (q2.trans (hbz.mono q2.size))
  have hz := Z0.new ((w.alloc (.cells #[.int .i64 A.st, an, ae] 26)).alloc (.cells #[.int .i64 B.st, bn, be] 26))
  rw [World.size_alloc, World.size_alloc] at hz
  have HZ := Lib.hid hz
  have y0 := HT.out.a.c0
  have y1 := HT.out.a.c1
  have y2 := HT.out.a.c2
  have y3 := HT.out.b.c0
  have y4 := HT.out.b.c1
  have y5 := HT.out.b.c2
  clear T2 q2 h1 h2 h3 h4 hz hbz
  go_enter Try.func42, Try.ntmps42
  go_wp2_with fail
  generalize hW2 : ((w.alloc (.cells #[.int .i64 A.st, an, ae] 26)).alloc (.cells #[.int .i64 B.st, bn, be] 26)).alloc (.cells #[.int .i64 0, .slice none 0 0, .slice none 0 0] 26) = w2 at *
  clear hW2 y0 y1 y2 y3 y4 y5
  refine (pairMachine_any (fun a b => a && b) 91 (fun A B an ae bn be bA bB fB W hT hA hB hf hfl x hx => pairEndsBoth_any A B an ae bn be bA bB fB W hT hA hB hf hfl x hx) A B an ae bn be w2 HT.out.a.ints HT.out.a.bools HT.out.b.ints HT.out.b.bools hs1 hs2).mono ?_
  rintro e w6 ⟨K, r, d1, d2, e1, e2, hJ, rfl, hA6, hb6⟩
  have HJ := Lib.hid hJ
  have Z6 := Lib.hid (HZ.out.below hb6)
  have Q6 := Lib.hid (HQ.out.trans (hb6.mono HQ.out.size))
  have z0 := Z6.out.c0
  have z1 := Z6.out.c1
  have z2 := Z6.out.c2
  have f0 := Z6.out.f0
  have f1 := Z6.out.f1
  have f2 := Z6.out.f2
  have FI := Lib.hid (fin_cells (x := .int .i64 K.st) (y := .slice d1 K.next.length e1) (z := .slice d2 K.ends.length e2) hA6 Q6.out (by omega) HZ.out.lt (some3 z0 z1 z2) HQ.out.size)
  clear hJ hA6 hb6
  go_wp2
  obtain ⟨r1, r2, r3, r4, r5⟩ := FI.out _ rfl
  refine bodyPost_ret (v := .tuple #[.agg #[.int .i64 K.st, .slice d1 K.next.length e1, .slice d2 K.ends.length e2], .bool r]) ?_ rfl ⟨K, r, d1, d2, e1, e2, HJ.out, rfl, r1, r2⟩
  simp [results, Try.results42, go_sem, r3, r4, r5]

set_option maxHeartbeats 1600000 in
theorem implEither_any (A B : M) (an ae bn be : Value) (w : World) (h1 : IsInts w an A.next) (h2 : IsBools w ae A.ends) (h3 : IsInts w bn B.next) (h4 : IsBools w be B.ends) (hs1 : (Lit.int .i64 A.st).wf = true) (hs2 : (Lit.int .i64 B.st).wf = true) :
    Calls Try.prog 41 #[.agg #[.int .i64 A.st, an, ae], .agg #[.int .i64 B.st, bn, be]] w (JoinNew (A.ok && B.ok) (fun u => A.lang 0 u || B.lang 0 u) w) := by
  obtain ⟨T2, q2⟩ := Two.new 26 h1 h2 h3 h4
  have hbz := (Below.refl _ ((w.alloc (.cells #[.int .i64 A.st, an, ae] 26)).alloc (.cells #[.int .i64 B.st, bn, be] 26))).alloc (Nat.le_refl _) (.cells #[.int .i64 0, .slice none 0 0, .slice none 0 0] 26)
  have HT := Lib.hid (T2.below hbz)
  have HQ := Lib.hid (q2.trans (hbz.mono q2.size))
  have hz := Z0.new ((w.alloc (.cells #[.int .i64 A.st, an, ae] 26)).alloc (.cells #[.int .i64 B.st, bn, be] 26))
  rw [World.size_alloc, World.size_alloc] at hz
  have HZ := Lib.hid hz
  have y0 := HT.out.a.c0
  have y1 := HT.out.a.c1
  have y2 := HT.out.a.c2
  have y3 := HT.out.b.c0
  have y4 := HT.out.b.c1
  have y5 := HT.out.b.c2
  clear T2 q2 h1 h2 h3 h4 hz hbz
  go_enter Try.func41, Try.ntmps41
  go_wp2_with fail
  generalize hW2 : ((w.alloc (.cells #[.int .i64 A.st, an, ae] 26)).alloc (.cells #[.int .i64 B.st, bn, be] 26)).alloc (.cells #[.int .i64 0, .slice none 0 0, .slice none 0 0] 26) = w2 at *
  clear hW2 y0 y1 y2 y3 y4 y5
  refine (pairMachine_any (fun a b => a || b) 90 (fun A B an ae bn be bA bB fB W hT hA hB hf hfl x hx => pairEndsEither_any A B an ae bn be bA bB fB W hT hA hB hf hfl x hx) A B an ae bn be w2 HT.out.a.ints HT.out.a.bools HT.out.b.ints HT.out.b.bools hs1 hs2).mono ?_
  rintro e w6 ⟨K, r, d1, d2, e1, e2, hJ, rfl, hA6, hb6⟩
  have HJ := Lib.hid hJ
  have Z6 := Lib.hid (HZ.out.below hb6)
  have Q6 := Lib.hid (HQ.out.trans (hb6.mono HQ.out.size))
  have z0 := Z6.out.c0
  have z1 := Z6.out.c1
  have z2 := Z6.out.c2
  have f0 := Z6.out.f0
  have f1 := Z6.out.f1
  have f2 := Z6.out.f2
  have FI := Lib.hid (fin_cells (x := .int .i64 K.st) (y := .slice d1 K.next.length e1) (z := .slice d2 K.ends.length e2) hA6 Q6.out (by omega) HZ.out.lt (some3 z0 z1 z2) HQ.out.size)
  clear hJ hA6 hb6
  go_wp2
  obtain ⟨r1, r2, r3, r4, r5⟩ := FI.out _ rfl
  refine bodyPost_ret (v := .tuple #[.agg #[.int .i64 K.st, .slice d1 K.next.length e1, .slice d2 K.ends.length e2], .bool r]) ?_ rfl ⟨K, r, d1, d2, e1, e2, HJ.out, rfl, r1, r2⟩
  simp [results, Try.results41, go_sem, r3, r4, r5]
end Go.Proofs.Ytjdeahdngpccpaa

namespace Go.Proofs.Ytjdeahdngpccpaa
open Go.RowKit Go.Maps

end Go.Proofs.Ytjdeahdngpccpaa

namespace Go.Proofs.Ytjdeahdngpccpaa
open Go.RowKit

end Go.Proofs.Ytjdeahdngpccpaa

namespace Go.Proofs.Ytjdeahdngpccpaa
open Go.RowKit

theorem IsLm.mokW {f : List (Fin 3) → Bool} {k : M} (h : IsLm f k) (h48 : k.st ≤ 48) : k.ok = true := M.good_ok (h.good (by omega)) h48
theorem IsJoin.wfW {ok b : Bool} {f : List (Fin 3) → Bool} {k : M} (h : IsJoin ok f k b) : (Lit.int .i64 k.st).wf = true := by
  rcases h with ⟨-, -, h1, h2⟩ | ⟨-, rfl, -⟩
  · exact WalkArith.wf_i64 (by have h3 := M.ok_shape (h1.mokW h2); show _ ∧ _; omega)
  · rfl
theorem takenTo_bd (m : M) (L t : Nat) : 0 ≤ takenTo m L t ∧ takenTo m L t ≤ t := cntTo_bd _ t
theorem countWords_bd (m : M) (n : Int) : -1 ≤ countWords m n ∧ countWords m n ≤ 59049 := by
  by_cases hg : (m.ok && countedB n) = true
  · obtain ⟨hk, hr⟩ : m.ok = true ∧ countedB n = true := by simpa using hg
    obtain ⟨L, rfl, hL⟩ := countedB_nat hr
    have h1 := takenTo_bd m L (3 ^ L)
    have h2 := (pow3_big L L (Nat.le_refl _) hL).2.2
    rw [countWords_yes hk hr, ← takenTo_all]
    omega
  · rw [countWords_no (by simpa using hg)]
    omega
theorem countWords_either {m k x y : M} {n : Int} (hn : countedB n = true) (hx : IsJoin (m.ok && k.ok) (fun u => m.lang 0 u || k.lang 0 u) x true) (hy : IsJoin (m.ok && k.ok) (fun u => m.lang 0 u && k.lang 0 u) y true) : countWords x n + countWords y n = countWords m n + countWords k n := by
  obtain ⟨L, rfl, -⟩ := countedB_nat hn
  rcases hx with ⟨-, hmk, h1, h2⟩ | ⟨h, -, -⟩
  · rcases hy with ⟨-, -, g1, g2⟩ | ⟨h, -, -⟩
    · rw [Bool.and_eq_true] at hmk
      rw [countWords_yes (h1.mokW h2) hn, countWords_yes (g1.mokW g2) hn, countWords_yes hmk.1 hn, countWords_yes hmk.2 hn]
      exact ways_either (fun u => congrFun h1.lang u) (fun u => congrFun g1.lang u) L
    · cases h
  · cases h
end Go.Proofs.Ytjdeahdngpccpaa

namespace Go.Proofs.Ytjdeahdngpccpaa
open Go.RowKit

set_option maxHeartbeats 4000000 in
theorem lawCountEither_walk {w : World} (a : Option Addr) (len cap : Nat) (zs : List Int) (h : IsRow .u8 w a len cap zs) (b : Option Addr) (len2 cap2 : Nat) (zs2 : List Int) (h2 : IsRow .u8 w b len2 cap2 zs2) :
    Calls Try.prog 9 #[.slice a len cap, .slice b len2 cap2] w fun e w' => e = .returned (.bool true) ∧ Below w.heap.size w w' := by
  have HD := Lib.hid (drawCountWords_any a len cap zs w h)
  have H2 := Lib.hid h2
  have hl := rowG_len h
  have hl2 := rowG_len h2
  clear h h2
  by_cases hbig : 1048576 < len
  · go_enter Try.func9, Try.ntmps9
    go_wp2_with fail
    go_ret
    exact ⟨rfl, Below.refl _ _⟩
  by_cases hbig2 : 1048576 < len2
  · go_enter Try.func9, Try.ntmps9
    go_wp2_with fail
    go_ret
    exact ⟨rfl, Below.refl _ _⟩
  go_enter Try.func9, Try.ntmps9
  go_wp2_with fail
  refine HD.out.mono ?_
  clear HD
  rintro e w1 ⟨m, a1, a2, c1, c2, n, rfl, hm, hn0, hn11, hi, hb, hB⟩
  have HSM := Lib.hid hm.1
  have A1 := Lib.hid (MachBox.new (st := m.st) 26 hi hb)
  have q1 := Lib.hid (hB.alloc hB.size (.cells #[.int .i64 m.st, .slice a1 m.next.length c1, .slice a2 m.ends.length c2] 26))
  have H3 := Lib.hid (drawCountWords_any b len2 cap2 zs2 _ (row_belowW H2.out q1.out))
  clear hi hb hB hm H2
  go_wp2_with fail
  generalize (w1.alloc (.cells #[.int .i64 m.st, .slice a1 m.next.length c1, .slice a2 m.ends.length c2] 26)) = W1 at *
  generalize w1.heap.size = b5 at *
  refine H3.out.mono ?_
  clear H3
  rintro e w2 ⟨k, a3, a4, c3, c4, n2, rfl, hk, -, -, hi, hb, hB⟩
  have HSK := Lib.hid hk.1
  have hal := hB.trans (((Below.refl w2.heap.size w2).alloc (Nat.le_refl _) (.cells #[.int .i64 k.st, .slice a3 k.next.length c3, .slice a4 k.ends.length c4] 26)).mono hB.size)
  have K2 := Lib.hid (MachBox.new (st := k.st) 26 hi hb)
  have A2 := Lib.hid (A1.out.below hal)
  have q2 := Lib.hid (q1.out.trans (hal.mono q1.out.size))
  clear hi hb hB hk hal A1 q1
  have y0 := A2.out.c0
  have y1 := A2.out.c1
  have y2 := A2.out.c2
  go_wp2_with fail
  clear y0 y1 y2
  generalize hW : (w2.alloc (.cells #[.int .i64 k.st, .slice a3 k.next.length c3, .slice a4 k.ends.length c4] 26)) = W2 at *
  generalize hB7 : w2.heap.size = b7 at *
  clear hW hB7
  refine (implEither_any m k _ _ _ _ W2 A2.out.ints A2.out.bools K2.out.ints K2.out.bools HSM.out HSK.out).mono ?_
  rintro e w3 h3
  obtain ⟨x, r1, nv3, ev3, hJ3, rfl, hn3, he3, hb3⟩ := h3.reads
  obtain ⟨d1, n1, e1, rfl⟩ := hn3.slice
  obtain ⟨d2, n2', e2, rfl⟩ := he3.slice
  have HX := Lib.hid hJ3
  have hwx := Lib.hid hJ3.wfW
  have hal := hb3.trans (((Below.refl w3.heap.size w3).alloc (Nat.le_refl _) (.cells #[.int .i64 x.st, .slice d1 n1 e1, .slice d2 n2' e2] 26)).mono hb3.size)
  have X3 := Lib.hid (MachBox.new (st := x.st) 26 hn3 he3)
  have A3 := Lib.hid (A2.out.below hal)
  have K3 := Lib.hid (K2.out.below hal)
  have q3 := Lib.hid (q2.out.trans (hal.mono q2.out.size))
  clear hb3 hal h3 hn3 he3 hJ3 A2 K2 q2
  have y0 := A3.out.c0
  have y1 := A3.out.c1
  have y2 := A3.out.c2
  have y3 := K3.out.c0
  have y4 := K3.out.c1
  have y5 := K3.out.c2
  go_wp2_with fail
  clear y0 y1 y2 y3 y4 y5
  generalize hW : (w3.alloc (.cells #[.int .i64 x.st, .slice d1 n1 e1, .slice d2 n2' e2] 26)) = W3 at *
  generalize hB9 : w3.heap.size = b9 at *
  clear hW hB9
  refine (implBoth_any m k _ _ _ _ W3 A3.out.ints A3.out.bools K3.out.ints K3.out.bools HSM.out HSK.out).mono ?_
  rintro e w4 h4
  obtain ⟨y, r2, nv4, ev4, hJ4, rfl, hn4, he4, hb4⟩ := h4.reads
  obtain ⟨d3, n3, e3, rfl⟩ := hn4.slice
  obtain ⟨d4, n4, e4, rfl⟩ := he4.slice
  have HY := Lib.hid hJ4
  have hwy := Lib.hid hJ4.wfW
  have hal := hb4.trans (((Below.refl w4.heap.size w4).alloc (Nat.le_refl _) (.cells #[.int .i64 y.st, .slice d3 n3 e3, .slice d4 n4 e4] 26)).mono hb4.size)
  have Y4 := Lib.hid (MachBox.new (st := y.st) 26 hn4 he4)
  have X4 := Lib.hid (X3.out.below hal)
  have A4 := Lib.hid (A3.out.below hal)
  have K4 := Lib.hid (K3.out.below hal)
  have q4 := Lib.hid (q3.out.trans (hal.mono q3.out.size))
  clear hb4 hal h4 hn4 he4 hJ4 A3 K3 X3 q3
  cases r1 with
  | false =>
    clear HX HY
    go_wp2_with (go_at_call 18; refine (aliveG_any _).mono ?_; rintro e w' ⟨rfl, rfl⟩)
    go_ret
    exact ⟨rfl, q4.out⟩
  | true =>
    cases r2 with
    | false =>
      clear HX HY
      go_wp2_with (go_at_call 18; refine (aliveG_any _).mono ?_; rintro e w' ⟨rfl, rfl⟩)
      go_ret
      exact ⟨rfl, q4.out⟩
    | true =>
      by_cases h0 : n < 0
      · clear HX HY
        go_wp2_with (go_at_call 18; refine (aliveG_any _).mono ?_; rintro e w' ⟨rfl, rfl⟩)
        go_ret
        exact ⟨rfl, q4.out⟩
      · by_cases h10 : 10 < n
        · clear HX HY
          go_wp2_with (go_at_call 18; refine (aliveG_any _).mono ?_; rintro e w' ⟨rfl, rfl⟩)
          go_ret
          exact ⟨rfl, q4.out⟩
        · have hc : countedB n = true := by simp only [countedB, Bool.and_eq_true, decide_eq_true_eq]; omega
          have HE := countWords_either hc HX.out HY.out
          have b1 := countWords_bd x n
          have b2 := countWords_bd y n
          have b3 := countWords_bd m n
          have b4 := countWords_bd k n
          have CX := Lib.hid (fun W h1 h2 => implCountWords_any x n (.slice d1 n1 e1) (.slice d2 n2' e2) W h1 h2 hwx.out)
          have CY := Lib.hid (fun W h1 h2 => implCountWords_any y n (.slice d3 n3 e3) (.slice d4 n4 e4) W h1 h2 hwy.out)
          have CM := Lib.hid (fun W h1 h2 => implCountWords_any m n (.slice a1 m.next.length c1) (.slice a2 m.ends.length c2) W h1 h2 HSM.out)
          have CK := Lib.hid (fun W h1 h2 => implCountWords_any k n (.slice a3 k.next.length c3) (.slice a4 k.ends.length c4) W h1 h2 HSK.out)
          generalize countWords x n = cx at *
          generalize countWords y n = cy at *
          generalize countWords m n = cm at *
          generalize countWords k n = ck at *
          have s1 : IntKind.i64.wrap (cx + cy) = cx + cy := IntWalk.i64_in _ (by omega)
          have s2 : IntKind.i64.wrap (cm + ck) = cm + ck := IntWalk.i64_in _ (by omega)
          have hee : (cx + cy == cm + ck) = true := by rw [HE]; simp
          have y0 := X4.out.c0
          have y1 := X4.out.c1
          have y2 := X4.out.c2
          clear HX HY hc HE b1 b2 b3 b4
          go_wp2_with fail
          clear y0 y1 y2
          generalize hW : (w4.alloc (.cells #[.int .i64 y.st, .slice d3 n3 e3, .slice d4 n4 e4] 26)) = W4 at *
          generalize hB11 : w4.heap.size = b11 at *
          clear hW hB11
          have XD := Lib.hid (X4.out.below (Below.refl _ _).drew)
          have YD := Lib.hid (Y4.out.below (Below.refl _ _).drew)
          have AD := Lib.hid (A4.out.below (Below.refl _ _).drew)
          have KD := Lib.hid (K4.out.below (Below.refl _ _).drew)
          have qD := Lib.hid (q4.out.trans ((Below.refl _ _).drew.mono q4.out.size))
          go_region_held3 (fun w' => (w'.cell? ⟨b9, 0, none⟩ = some (.int .i64 x.st) ∧ w'.cell? ⟨b9, 1, none⟩ = some (.slice d1 n1 e1) ∧ w'.cell? ⟨b9, 2, none⟩ = some (.slice d2 n2' e2)) ∧ (w'.cell? ⟨b11, 0, none⟩ = some (.int .i64 y.st) ∧ w'.cell? ⟨b11, 1, none⟩ = some (.slice d3 n3 e3) ∧ w'.cell? ⟨b11, 2, none⟩ = some (.slice d4 n4 e4)) ∧ (w'.cell? ⟨b5, 0, none⟩ = some (.int .i64 m.st) ∧ w'.cell? ⟨b5, 1, none⟩ = some (.slice a1 m.next.length c1) ∧ w'.cell? ⟨b5, 2, none⟩ = some (.slice a2 m.ends.length c2)) ∧ (w'.cell? ⟨b7, 0, none⟩ = some (.int .i64 k.st) ∧ w'.cell? ⟨b7, 1, none⟩ = some (.slice a3 k.next.length c3) ∧ w'.cell? ⟨b7, 2, none⟩ = some (.slice a4 k.ends.length c4)))
            (first | (with_reducible exact ⟨⟨XD.out.c0, XD.out.c1, XD.out.c2⟩, ⟨YD.out.c0, YD.out.c1, YD.out.c2⟩, ⟨AD.out.c0, AD.out.c1, AD.out.c2⟩, ⟨KD.out.c0, KD.out.c1, KD.out.c2⟩⟩) | (with_reducible exact ⟨⟨X5.out.c0, X5.out.c1, X5.out.c2⟩, ⟨Y5.out.c0, Y5.out.c1, Y5.out.c2⟩, ⟨A5.out.c0, A5.out.c1, A5.out.c2⟩, ⟨K5.out.c0, K5.out.c1, K5.out.c2⟩⟩) | (with_reducible exact ⟨⟨X6.out.c0, X6.out.c1, X6.out.c2⟩, ⟨Y6.out.c0, Y6.out.c1, Y6.out.c2⟩, ⟨A6.out.c0, A6.out.c1, A6.out.c2⟩, ⟨K6.out.c0, K6.out.c1, K6.out.c2⟩⟩) | (with_reducible exact ⟨⟨X7.out.c0, X7.out.c1, X7.out.c2⟩, ⟨Y7.out.c0, Y7.out.c1, Y7.out.c2⟩, ⟨A7.out.c0, A7.out.c1, A7.out.c2⟩, ⟨K7.out.c0, K7.out.c1, K7.out.c2⟩⟩) | (with_reducible exact ⟨⟨X8.out.c0, X8.out.c1, X8.out.c2⟩, ⟨Y8.out.c0, Y8.out.c1, Y8.out.c2⟩, ⟨A8.out.c0, A8.out.c1, A8.out.c2⟩, ⟨K8.out.c0, K8.out.c1, K8.out.c2⟩⟩))
            (first | (go_at_call 24; with_reducible refine (CX.out _ XD.out.ints XD.out.bools).mono ?_; rintro e w5 ⟨rfl, hb5⟩; have X5 := Lib.hid (XD.out.below hb5); have Y5 := Lib.hid (YD.out.below hb5); have A5 := Lib.hid (AD.out.below hb5); have K5 := Lib.hid (KD.out.below hb5); have q5 := Lib.hid (qD.out.trans (hb5.mono qD.out.size)); clear hb5) | (go_at_call 24; with_reducible refine (CY.out _ Y5.out.ints Y5.out.bools).mono ?_; rintro e w6 ⟨rfl, hb6⟩; have X6 := Lib.hid (X5.out.below hb6); have Y6 := Lib.hid (Y5.out.below hb6); have A6 := Lib.hid (A5.out.below hb6); have K6 := Lib.hid (K5.out.below hb6); have q6 := Lib.hid (q5.out.trans (hb6.mono q5.out.size)); clear hb6) | (go_at_call 24; with_reducible refine (CM.out _ A6.out.ints A6.out.bools).mono ?_; rintro e w7 ⟨rfl, hb7⟩; have X7 := Lib.hid (X6.out.below hb7); have Y7 := Lib.hid (Y6.out.below hb7); have A7 := Lib.hid (A6.out.below hb7); have K7 := Lib.hid (K6.out.below hb7); have q7 := Lib.hid (q6.out.trans (hb7.mono q6.out.size)); clear hb7) | (go_at_call 24; with_reducible refine (CK.out _ K7.out.ints K7.out.bools).mono ?_; rintro e w8 ⟨rfl, hb8⟩; have X8 := Lib.hid (X7.out.below hb8); have Y8 := Lib.hid (Y7.out.below hb8); have A8 := Lib.hid (A7.out.below hb8); have K8 := Lib.hid (K7.out.below hb8); have q8 := Lib.hid (q7.out.trans (hb8.mono q7.out.size)); clear hb8))
          all_goals
            go_wp2_with fail
            go_ret
            exact ⟨by first | exact ret_bool hee | rfl, q8.out⟩
end Go.Proofs.Ytjdeahdngpccpaa
