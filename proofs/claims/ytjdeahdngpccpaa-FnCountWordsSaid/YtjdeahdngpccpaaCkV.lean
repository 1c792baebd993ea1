/- The contract of partsUnder. No condition. TermOk of the program and of the model: what each returns, for every row of marks. No condition. spec.MachineOf. No condition. Drawing a machine and a number of letters. No condition. Drawing a machine and a number of letters, to be read: DrawCountWords. No condition. The alive check and the bound of a code's length. No condition. Rolls of a row of letters, the first of them, and how many there are. No program, no condition. Rings of a machine, walks that lead back, and necklaces: plain functions. No program, no condition. Walks that lead back, counted -/
import Derived.Test.YtjdeahdngpccpaaCkA
import Derived.Outline
import Derived.RegionTactic
import Derived.Test.YtjdeahdngpccpaaCkG
import Derived.Deep.CutBlock
import Derived.Test.YtjdeahdngpccpaaCkI
import Derived.Test.YtjdeahdngpccpaaMath
import Derived.Test.YtjdeahdngpccpaaStep
import Derived.Test.YtjdeahdngpccpaaWords
import Derived.Test.YtjdeahdngpccpaaLangWord
import Derived.Deep.AppendLies
import Derived.Test.YtjdeahdngpccpaaAfter
import Derived.Deep.RegionLaw
import Derived.Deep.RegionWith
import Derived.Test.YtjdeahdngpccpaaTakes
import Derived.Test.YtjdeahdngpccpaaRolled
import Derived.Test.YtjdeahdngpccpaaPairBase
import Derived.Test.YtjdeahdngpccpaaImplSame
import Derived.Test.YtjdeahdngpccpaaTrim
import Derived.Test.YtjdeahdngpccpaaFromWalk

namespace Go.Proofs.Ytjdeahdngpccpaa
open Go.RowKit

def UnderPost (m : Mk) (w : World) (e : Ending) (w' : World) : Prop := ∃ u : Int, e = .returned (.tuple #[.int .i64 u, .bool m.fine]) ∧ (m.fine = true → u = (m.under : Int)) ∧ Below w.heap.size w w'
theorem fine_void {k : Int} {r : Ru} (h : k = 1 ∨ k = 2 ∨ k = 3) : (Mk.mk k r).fine = r.isVoid := by
  rcases h with rfl | rfl | rfl <;> simp [Mk.fine]
theorem isVoid_parts (a : Int) (b c : ByteArray) (d : Int) : (Ru.mk a b c d).isVoid = ((a == 0) && (b.toList == []) && (c.toList == []) && (d == 0)) := by
  have e : ∀ t : ByteArray, noThen t = (t.toList == []) := fun t => by
    rw [ByteArray.toList_eq]
    cases t with
    | mk l => cases l with
      | mk l => cases l <;> simp [noThen]
  have f : ∀ x : Int, decide (x = 0) = (x == 0) := fun x => by by_cases h : x = 0 <;> simp [h]
  simp only [Ru.isVoid, e, f]

end Go.Proofs.Ytjdeahdngpccpaa

namespace Go.Proofs.Ytjdeahdngpccpaa
open Go.RowKit

theorem termOk_long {ts : List Mk} (h : 9 < ts.length) : termOk ts = false := by
  simp only [termOk, Bool.and_eq_false_iff, decide_eq_false_iff_not]
  exact .inl (by omega)
theorem termOk_end {ts : List Mk} {p : Nat} (h : leftOf (ts.take ts.length) 0 = some p) (hl : ts.length ≤ 9) : termOk ts = ((p : Int) == 1) := by
  rw [List.take_length] at h
  have e : decide (ts.length ≤ 9) = true := decide_eq_true hl
  rw [termOk, h, e, Bool.true_and]
  by_cases hp : p = 1
  · subst hp; rfl
  · rw [decide_eq_false (by simpa using hp)]
    have : ((p : Int) == 1) = false := by simp; omega
    rw [this]
theorem leftOf_yes {ts : List Mk} {k p : Nat} (hk : k < ts.length) (h : leftOf (ts.take k) 0 = some p) (hf : ts[k].fine = true) (hu : ts[k].under ≤ p) : leftOf (ts.take (k + 1)) 0 = some (p + 1 - ts[k].under) := by
  rw [leftOf_succ hk h, stepP, if_pos ⟨hf, hu⟩]
theorem leftOf_no {ts : List Mk} {k p : Nat} (hk : k < ts.length) (h : leftOf (ts.take k) 0 = some p) (hf : ¬ (ts[k].fine = true ∧ ts[k].under ≤ p)) : termOk ts = false :=
  termOk_stop (k := k + 1) (by rw [leftOf_succ hk h, stepP, if_neg hf])
theorem left_le {ts : List Mk} {k p : Nat} (hk : k ≤ ts.length) (h : leftOf (ts.take k) 0 = some p) : p ≤ k := by
  have := leftOf_le _ _ _ h
  rw [List.length_take] at this
  omega
set_option maxHeartbeats 1600000 in
theorem specTermOk_any (ms : List Mk) (v : Value) (w : World) (h : IsMarks w v ms) (hl : ms.length ≤ 1048576) :
    Calls Try.prog 136 #[v] w fun e w' => e = .returned (.bool (termOk ms)) ∧ Below w.heap.size w w' := by
  obtain ⟨a, cap, rfl, ha1, ha2, ha⟩ := h
  have HA := Lib.hid ha
  unfold maxLen at ha2
  clear ha
  go_enter Try.func136, Try.ntmps136
  go_wp2_with fail
  go_loopw [3, 4] (fun l i wr => ∃ (k p : Nat), k ≤ ms.length ∧ i = .int .i64 k ∧ l = .int .i64 p ∧ leftOf (ms.take k) 0 = some p ∧ Below w.heap.size w wr) (fun _ i _ => ms.length - (intOf i).toNat)
  case atStart => exact ⟨0, 0, Nat.zero_le _, rfl, rfl, rfl, Below.refl _ _⟩
  case round =>
    obtain ⟨k, p, hk, rfl, rfl, hp, hbel⟩ := hrel
    have hpk := left_le hk hp
    by_cases hlt : k < ms.length
    · obtain ⟨g, off, rfl, hg, hc⟩ := HA.out.resolve_left (fun h => by rw [h] at hlt; exact absurd hlt (Nat.not_lt_zero k))
      obtain ⟨c0, c1, c2, c3, c4⟩ := (hc k hlt).below hbel hg
      have HCK := Lib.hid (fun w' (hb : Below w.heap.size w w') => (hc k hlt).below hb hg)
      have HY := Lib.hid (leftOf_yes hlt hp)
      have HN := Lib.hid (leftOf_no hlt hp)
      have BB := Lib.hid hbel
      clear hc hbel hp
      generalize ms[k] = m at *
      obtain ⟨k1, r1, l1, t1, n1⟩ := m
      have HC2 : Hid (∀ w', Below w.heap.size w w' → w'.cell? ⟨g, off + k * 5, none⟩ = some (.int .i64 k1) ∧ w'.cell? ⟨g, off + k * 5 + 1, none⟩ = some (.int .i64 r1) ∧ w'.cell? ⟨g, off + k * 5 + 2, none⟩ = some (.string l1) ∧ w'.cell? ⟨g, off + k * 5 + 3, none⟩ = some (.string t1) ∧ w'.cell? ⟨g, off + k * 5 + 4, none⟩ = some (.int .i64 n1)) := Lib.hid HCK.out
      clear HCK
      simp only at c0 c1 c2 c3 c4
      by_cases k0 : k1 = 0
      · subst k0
        have HR := Lib.hid (fun W => specRuleOk_any r1 l1 t1 n1 W)
        have hf : (Mk.mk 0 ⟨r1, l1, t1, n1⟩).fine = (Ru.mk r1 l1 t1 n1).ok := by simp [Mk.fine]
        have hu : (Mk.mk 0 ⟨r1, l1, t1, n1⟩).under = 0 := by simp [Mk.under]
        rw [hf, hu] at HY HN
        clear hf hu
        generalize (Ru.mk r1 l1 t1 n1).ok = fb at *
        cases fb with
        | true =>
          have hp2 := Lib.hid (HY.out rfl (Nat.zero_le _))
          go_wp2_with (go_at_call 146; refine (HR.out _).mono ?_; rintro e w2 ⟨rfl, hb2⟩)
          go_roundw
          case rel => exact ⟨k + 1, p + 1 - 0, by omega, by go_num, by go_num, hp2.out, BB.out.trans (hb2.mono BB.out.size)⟩
          case measure => simp [intOf]; omega
        | false =>
          have HE := Lib.hid (HN.out (by simp))
          go_wp2_with (go_at_call 146; refine (HR.out _).mono ?_; rintro e w2 ⟨rfl, hb2⟩; obtain ⟨d0, d1, d2, d3, d4⟩ := HC2.out w2 (BB.out.trans (hb2.mono BB.out.size)))
          go_ret
          exact ⟨ret_bool HE.out.symm, BB.out.trans (hb2.mono BB.out.size)⟩
      · by_cases k123 : k1 = 1 ∨ k1 = 2 ∨ k1 = 3
        · have hf := fine_void (r := ⟨r1, l1, t1, n1⟩) k123
          by_cases hv : (Ru.mk r1 l1 t1 n1).isVoid = true
          · have hve := Ru.isVoid_iff.1 hv
            simp only [Ru.void, Ru.mk.injEq] at hve
            obtain ⟨rfl, rfl, rfl, rfl⟩ := hve
            rw [hf, hv] at HY HN
            clear hf hv k0
            rcases k123 with rfl | rfl | rfl
            · have hu : (Mk.mk 1 ⟨0, ⟨#[]⟩, ⟨#[]⟩, 0⟩).under = 2 := by simp [Mk.under]
              rw [hu] at HY HN
              clear hu
              by_cases h2 : 2 ≤ p
              · have hp2 := Lib.hid (HY.out rfl h2)
                go_wp2_with fail
                go_roundw
                case rel => exact ⟨k + 1, p + 1 - 2, by omega, by go_num, by go_num, hp2.out, BB.out⟩
                case measure => simp [intOf]; omega
              · have HE := Lib.hid (HN.out (fun h => h2 h.2))
                go_wp2_with fail
                go_ret
                exact ⟨ret_bool HE.out.symm, BB.out⟩
            · have hu : (Mk.mk 2 ⟨0, ⟨#[]⟩, ⟨#[]⟩, 0⟩).under = 2 := by simp [Mk.under]
              rw [hu] at HY HN
              clear hu
              by_cases h2 : 2 ≤ p
              · have hp2 := Lib.hid (HY.out rfl h2)
                go_wp2_with fail
                go_roundw
                case rel => exact ⟨k + 1, p + 1 - 2, by omega, by go_num, by go_num, hp2.out, BB.out⟩
                case measure => simp [intOf]; omega
              · have HE := Lib.hid (HN.out (fun h => h2 h.2))
                go_wp2_with fail
                go_ret
                exact ⟨ret_bool HE.out.symm, BB.out⟩
            · have hu : (Mk.mk 3 ⟨0, ⟨#[]⟩, ⟨#[]⟩, 0⟩).under = 1 := by simp [Mk.under]
              rw [hu] at HY HN
              clear hu
              by_cases h2 : 1 ≤ p
              · have hp2 := Lib.hid (HY.out rfl h2)
                go_wp2_with fail
                go_roundw
                case rel => exact ⟨k + 1, p + 1 - 1, by omega, by go_num, by go_num, hp2.out, BB.out⟩
                case measure => simp [intOf]; omega
              · have HE := Lib.hid (HN.out (fun h => h2 h.2))
                go_wp2_with fail
                go_ret
                exact ⟨ret_bool HE.out.symm, BB.out⟩
          · have hv' : (Ru.mk r1 l1 t1 n1).isVoid = false := by simpa using hv
            have HE := Lib.hid (HN.out (by rw [hf, hv']; simp))
            have hvp := isVoid_parts r1 l1 t1 n1
            rw [hv'] at hvp
            have hveq : ∀ W : World, (if r1 = 0 then if l1.toList = [] then if t1.toList = [] then if n1 = 0 then Result.ok (Next.value (Value.bool true)) W else Result.ok (Next.value (Value.bool false)) W else Result.ok (Next.value (Value.bool false)) W else Result.ok (Next.value (Value.bool false)) W else Result.ok (Next.value (Value.bool false)) W) = Result.ok (Next.value (Value.bool false)) W := fun W => by
              by_cases ha : r1 = 0
              · by_cases hb : l1.toList = []
                · by_cases hc : t1.toList = []
                  · by_cases hd : n1 = 0
                    · rw [ha, hb, hc, hd] at hvp; exact absurd hvp (by decide)
                    · simp [ha, hb, hc, hd]
                  · simp [ha, hb, hc]
                · simp [ha, hb]
              · simp [ha]
            clear hf hv hv' hvp k0
            rcases k123 with rfl | rfl | rfl
            · go_wp2_with fail
              go_ret
              exact ⟨ret_bool HE.out.symm, BB.out⟩
            · go_wp2_with fail
              go_ret
              exact ⟨ret_bool HE.out.symm, BB.out⟩
            · go_wp2_with fail
              go_ret
              exact ⟨ret_bool HE.out.symm, BB.out⟩
        · have hf : (Mk.mk k1 ⟨r1, l1, t1, n1⟩).fine = false := by simp only [Mk.fine]; rw [if_neg k0, if_neg k123]
          have HE := Lib.hid (HN.out (by rw [hf]; simp))
          have e1 : (k1 == 0) = false := by simpa using k0
          have e2 : ¬ k1 = 1 := fun h => k123 (.inl h)
          have e3 : ¬ k1 = 2 := fun h => k123 (.inr (.inl h))
          have e4 : ¬ k1 = 3 := fun h => k123 (.inr (.inr h))
          clear hf k123
          go_wp2_with fail
          go_ret
          exact ⟨ret_bool HE.out.symm, BB.out⟩
    · obtain rfl : k = ms.length := by omega
      by_cases h9 : ms.length ≤ 9
      · have HE := Lib.hid (termOk_end hp h9)
        by_cases hp1 : ((p : Int) == 1) = true
        · rw [hp1] at HE
          go_wp2_with fail
          go_ret
          exact ⟨ret_bool (by rw [HE.out]; first | rfl | exact decide_eq_true (by omega) | exact decide_eq_false (by omega)), hbel⟩
        · have hp1' : ((p : Int) == 1) = false := by simpa using hp1
          rw [hp1'] at HE
          clear hp1
          go_wp2_with fail
          go_ret
          exact ⟨ret_bool HE.out.symm, hbel⟩
      · have HE := Lib.hid (termOk_long (by omega : 9 < ms.length))
        by_cases hp1 : ((p : Int) == 1) = true
        · go_wp2_with fail
          go_ret
          exact ⟨ret_bool (by rw [HE.out]; first | rfl | exact decide_eq_true (by omega) | exact decide_eq_false (by omega)), hbel⟩
        · have hp1' : ((p : Int) == 1) = false := by simpa using hp1
          clear hp1
          go_wp2_with fail
          go_ret
          exact ⟨ret_bool HE.out.symm, hbel⟩
end Go.Proofs.Ytjdeahdngpccpaa

namespace Go.Proofs.Ytjdeahdngpccpaa
open Go.RowKit

/-- MachineOf's answer -/
def OfNew (ms : List Mk) (w : World) (e : Ending) (w' : World) : Prop :=
  ∃ (m : M) (b : Bool) (a1 a2 : Option Addr) (c1 c2 : Nat), IsOf ms m b ∧ e = .returned (.tuple #[.agg #[.int .i64 m.st, .slice a1 m.next.length c1, .slice a2 m.ends.length c2], .bool b]) ∧
    Apart w.heap.size [rowT 3 1 (.slice a1 m.next.length c1) m.next.length (m.next.map (Value.int .i64)), rowT 4 1 (.slice a2 m.ends.length c2) m.ends.length (m.ends.map Value.bool)] w' ∧ Below w.heap.size w w'
theorem IsOf.no {ms : List Mk} (h : termOk ms = false) : IsOf ms ⟨0, [], []⟩ false := ⟨fun h' => (by rw [h] at h'; cases h'), fun _ => ⟨rfl, rfl⟩⟩
theorem IsOf.yes {ms : List Mk} {T : Tm} {m : M} (hg : T.good = true) (hp : T.post = ms) (h : TmM T m) (hok : termOk ms = true) : IsOf ms m m.ok := ⟨fun _ => ⟨T, hg, hp, h, rfl⟩, fun h' => (by rw [hok] at h'; cases h')⟩
theorem IsOf.len {ms : List Mk} {m : M} {b : Bool} (h : IsOf ms m b) : m.next.length ≤ 144 ∧ m.ends.length ≤ 48 ∧ (Lit.int .i64 m.st).wf = true ∧ (b = true → m.ok = true) ∧ (b = false → m = ⟨0, [], []⟩) := by
  cases ht : termOk ms with
  | true =>
    obtain ⟨T, h1, h2, h3, rfl⟩ := h.1 ht
    have := h3.len h1
    exact ⟨this.1, this.2, h3.wf h1, fun h => h, fun h => h3.zero h1 h⟩
  | false =>
    obtain ⟨rfl, rfl⟩ := h.2 ht
    exact ⟨Nat.zero_le _, Nat.zero_le _, rfl, fun h => by (cases h), fun _ => rfl⟩

set_option maxHeartbeats 3200000 in
theorem specMachineOf_any (ms : List Mk) (v : Value) (w : World) (h : IsMarks w v ms) (hl : ms.length ≤ 1048576) :
    Calls Try.prog 111 #[v] w (OfNew ms w) := by
  have O0 := Lib.hid ((Own.nil w).box #[.int .i64 0, .slice none 0 0, .slice none 0 0] 26)
  have H1 := Lib.hid (fun W (hb : Below w.heap.size w W) => specTermOk_any ms v W (h.below hb) hl)
  have HLM := Lib.hid (fun W (hb : Below w.heap.size w W) (T : Tm) (hg : T.good = true) (hp : T.post = ms) (h9 : ms.length ≤ 9) => l5Machine_any T hg v W (by rw [hp]; exact h.below hb) (by rw [hp]; exact h9))
  obtain ⟨a, n, c, rfl⟩ := h.slice
  clear h hl
  go_enter Try.func111, Try.ntmps111
  go_upto_region 1 with fail
  generalize hW0 : (w.alloc (.cells #[.int .i64 0, .slice none 0 0, .slice none 0 0] 26)) = W0 at *
  clear hW0
  have H1W := Lib.hid (H1.out _ O0.out.keep)
  go_wp2_with fail
  refine H1W.out.mono ?_
  rintro e w1 ⟨rfl, hb1⟩
  have O1 := Lib.hid (O0.out.below hb1)
  have HLW := Lib.hid (HLM.out _ O1.out.keep)
  have z0 := cellsT_cell (O1.out.cells 0 (by simp) rfl) 0
  have z1 := cellsT_cell (O1.out.cells 0 (by simp) rfl) 1
  have z2 := cellsT_cell (O1.out.cells 0 (by simp) rfl) 2
  have zf := cellsT_frozen (O1.out.cells 0 (by simp) rfl)
  simp only [List.getElem?_toArray, List.getElem?_cons_succ, List.getElem?_cons_zero] at z0 z1 z2
  clear hb1
  cases hk : termOk ms with
  | false =>
    have HI := Lib.hid (IsOf.no hk)
    obtain ⟨f1, f2, r0, r1, r2⟩ := O1.out.fin (us := []) 0 (by simp) rfl (List.nil_sublist _) (x := .int .i64 0) (y := .slice none 0 0) (z := .slice none 0 0) rfl
    have HF := Lib.hid (And.intro ((f1.idle (rowT 4 1 (.slice none 0 0) 0 []) (World.ownsRow_nil _ _ _ _) rfl).idle (rowT 3 1 (.slice none 0 0) 0 []) (World.ownsRow_nil _ _ _ _) rfl) f2)
    clear f1 f2
    generalize hR : w.heap.size = R at *
    go_wp2_with fail
    generalize (((w1.setCell ⟨R, 0, none⟩ (.int .i64 0)).setCell ⟨R, 1, none⟩ (.slice none 0 0)).setCell ⟨R, 2, none⟩ (.slice none 0 0)) = WE at *
    refine bodyPost_ret (v := .tuple #[.agg #[.int .i64 0, .slice none 0 0, .slice none 0 0], .bool false]) ?_ rfl ⟨⟨0, [], []⟩, false, none, none, 0, 0, HI.out, rfl, by rw [hR]; exact HF.out.1, by rw [hR]; exact HF.out.2⟩
    simp [results, Try.results111, go_sem, r0, r1, r2]
  | true =>
    obtain ⟨T, hg, hp, h9⟩ := tree_of hk
    have HLX := Lib.hid (HLW.out T hg hp h9)
    have HIY : Hid (∀ m, TmM T m → IsOf ms m m.ok ∧ (m.ok = false → m = ⟨0, [], []⟩)) := Lib.hid (fun m h => ⟨IsOf.yes hg hp h hk, fun ho => h.zero hg ho⟩)
    clear hg hp h9
    generalize hR : w.heap.size = R at *
    have HR := Lib.hid hR
    clear hR
    go_wp2_with fail
    refine HLX.out.mono ?_
    rintro e w2 ⟨m, a1, a2, d1, d2, hm, rfl, hA2, hb2⟩
    have HI := Lib.hid (HIY.out m hm).1
    have HIZ := Lib.hid (HIY.out m hm).2
    have O2 := Lib.hid (O1.out.join hA2 hb2)
    have O3 := Lib.hid (O2.out.box #[.int .i64 m.st, .slice a1 m.next.length d1, .slice a2 m.ends.length d2] 26)
    clear hm hA2 hb2 z0 z1 z2 zf
    go_upto_region 4 with fail
    generalize hW3 : (w2.alloc (.cells #[.int .i64 m.st, .slice a1 m.next.length d1, .slice a2 m.ends.length d2] 26)) = W3 at *
    clear hW3
    generalize w2.heap.size = B3 at *
    have b0 := cellsT_cell (O3.out.cells 0 (by simp) rfl) 0
    have b1 := cellsT_cell (O3.out.cells 0 (by simp) rfl) 1
    have b2 := cellsT_cell (O3.out.cells 0 (by simp) rfl) 2
    have z0 := cellsT_cell (O3.out.cells 3 (by simp) rfl) 0
    have z1 := cellsT_cell (O3.out.cells 3 (by simp) rfl) 1
    have z2 := cellsT_cell (O3.out.cells 3 (by simp) rfl) 2
    have zf := cellsT_frozen (O3.out.cells 3 (by simp) rfl)
    simp only [List.getElem?_toArray, List.getElem?_cons_succ, List.getElem?_cons_zero] at b0 b1 b2 z0 z1 z2
    cases hmo : m.ok with
    | false =>
      have hmz := HIZ.out hmo
      have HI2 : Hid (IsOf ms ⟨0, [], []⟩ false) := Lib.hid (by have h := HI.out; rw [hmo, hmz] at h; exact h)
      obtain ⟨f1, f2, r0, r1, r2⟩ := O3.out.fin (us := []) 3 (by simp) rfl (List.nil_sublist _) (x := .int .i64 0) (y := .slice none 0 0) (z := .slice none 0 0) rfl
      have HF := Lib.hid (And.intro ((f1.idle (rowT 4 1 (.slice none 0 0) 0 []) (World.ownsRow_nil _ _ _ _) rfl).idle (rowT 3 1 (.slice none 0 0) 0 []) (World.ownsRow_nil _ _ _ _) rfl) f2)
      clear f1 f2 hmz HIZ HI
      rw [hmo] at *
      go_wp2_with fail
      generalize (((W3.setCell ⟨R, 0, none⟩ (.int .i64 0)).setCell ⟨R, 1, none⟩ (.slice none 0 0)).setCell ⟨R, 2, none⟩ (.slice none 0 0)) = WE at *
      refine bodyPost_ret (v := .tuple #[.agg #[.int .i64 0, .slice none 0 0, .slice none 0 0], .bool false]) ?_ rfl ⟨⟨0, [], []⟩, false, none, none, 0, 0, HI2.out, rfl, HF.out.1, HF.out.2⟩
      simp [results, Try.results111, go_sem, r0, r1, r2]
    | true =>
      have HI2 : Hid (IsOf ms m true) := Lib.hid (by have h := HI.out; rwa [hmo] at h)
      obtain ⟨f1, f2, r0, r1, r2⟩ := O3.out.fin (us := [_, _]) 3 (by simp) rfl (List.Sublist.cons _ (List.Sublist.cons_cons _ (List.Sublist.cons_cons _ (List.nil_sublist _)))) (x := .int .i64 m.st) (y := .slice a1 m.next.length d1) (z := .slice a2 m.ends.length d2) rfl
      have HF := Lib.hid (And.intro f1 f2)
      clear f1 f2
      rw [hmo] at *
      go_wp2_with fail
      generalize (((W3.setCell ⟨R, 0, none⟩ (.int .i64 m.st)).setCell ⟨R, 1, none⟩ (.slice a1 m.next.length d1)).setCell ⟨R, 2, none⟩ (.slice a2 m.ends.length d2)) = WE at *
      refine bodyPost_ret (v := .tuple #[.agg #[.int .i64 m.st, .slice a1 m.next.length d1, .slice a2 m.ends.length d2], .bool true]) ?_ rfl ⟨m, true, a1, a2, d1, d2, HI2.out, rfl, HF.out.1, HF.out.2⟩
      simp [results, Try.results111, go_sem, r0, r1, r2]
end Go.Proofs.Ytjdeahdngpccpaa

namespace Go.Proofs.Ytjdeahdngpccpaa
open Go.RowKit

section
variable {B R : Nat} {a : Option Addr} {len cap : Nat} {w0 : World} {k : Nat} {ts us : List Thing} {w w' : World}
theorem OwR.box (h : OwR B R a len cap w0 k ts w) (cs : Array Value) (t : TypeId) : OwR B R a len cap w0 k (cellsT w.heap.size cs t :: ts) (w.alloc (.cells cs t)) :=
  have h1 := h.alloc (.cells cs t)
  ⟨h1.rd, h1.hR, h1.keep, h.ap.more (World.grownBy_alloc w _ none) _ (heap_alloc_new w _) h.size (fun j e => by cases e; simp)⟩
theorem OwR.put {i b : Nat} {cs : Array Value} {t : TypeId} (h : OwR B R a len cap w0 k ts w) (hi : i < ts.length) (he : ts[i] = cellsT b cs t) (j : Nat) (u : Value) :
    OwR B R a len cap w0 k (ts.set i (cellsT b (cs.setIfInBounds j u) t)) (w.setCell ⟨b, j, none⟩ u) := by
  have hlt := h.ap.ltAt i hi
  rw [he] at hlt
  have hb := (hlt b rfl).1
  have hR := h.hR
  exact ⟨h.rd.grown (grown_setCell w b j u) (fun k e => by cases e; omega), h.hR, h.keep.grown (grown_setCell w b j u) (fun k e => by cases e; exact hb), h.ap.setAt i hi he h.size j u⟩
theorem OwR.put3 {i b : Nat} {x0 y0 z0 : Value} {t : TypeId} (h : OwR B R a len cap w0 k ts w) (hi : i < ts.length) (he : ts[i] = cellsT b #[x0, y0, z0] t) (x y z : Value) :
    OwR B R a len cap w0 k (ts.set i (cellsT b #[x, y, z] t)) (((w.setCell ⟨b, 0, none⟩ x).setCell ⟨b, 1, none⟩ y).setCell ⟨b, 2, none⟩ z) := by
  have h1 := h.put hi he 0 x
  have h2 := h1.put (i := i) (b := b) (cs := #[x, y0, z0]) (t := t) (by simpa using hi) (by rw [List.getElem_set_self]; rfl) 1 y
  have h3 := h2.put (i := i) (b := b) (cs := #[x, y, z0]) (t := t) (by simpa using hi) (by rw [List.getElem_set_self]; rfl) 2 z
  rw [List.set_set, List.set_set] at h3
  exact h3
theorem OwR.tri (h : OwR B R a len cap w0 k ts w) (i : Nat) (hi : i < ts.length) {b : Nat} {x y z : Value} {t : TypeId} (he : ts[i] = cellsT b #[x, y, z] t) :
    w.cell? ⟨b, 0, none⟩ = some x ∧ w.cell? ⟨b, 1, none⟩ = some y ∧ w.cell? ⟨b, 2, none⟩ = some z ∧ w.frozen? ⟨b, 0, none⟩ = false ∧ w.frozen? ⟨b, 1, none⟩ = false ∧ w.frozen? ⟨b, 2, none⟩ = false ∧ w0.heap.size ≤ b ∧ b < w.heap.size := by
  have hs := h.ap.at i hi
  have hl := h.ap.ltAt i hi
  rw [he] at hs hl
  exact ⟨cellsT_cell hs 0, cellsT_cell hs 1, cellsT_cell hs 2, cellsT_frozen hs 0, cellsT_frozen hs 1, cellsT_frozen hs 2, hl b rfl⟩
theorem OwR.join {k' : Nat} (h : OwR B R a len cap w0 k ts w) (hr : RdAt B R a len cap k' w') (hk : KeepsBut R w w') (hA : Apart w.heap.size us w') : OwR B R a len cap w0 k' (us ++ ts) w' := by
  have h' := h.picked hr hk
  refine ⟨h'.rd, h'.hR, h'.keep, ⟨fun t ht => ?_, List.pairwise_append.2 ⟨hA.two, h'.ap.two, fun a ha b hb' k e e' => ?_⟩⟩⟩
  · rcases List.mem_append.1 ht with ht | ht
    · exact ⟨(hA.all t ht).1, fun k e => ⟨Nat.le_trans h.size ((hA.all t ht).2 k e).1, ((hA.all t ht).2 k e).2⟩⟩
    · exact h'.ap.all t ht
  · have := ((hA.all a ha).2 k e).1
    have := ((h.ap.all b hb').2 k e').2
    omega
theorem OwR.joinB (h : OwR B R a len cap w0 k ts w) (hb : Below w.heap.size w w') (hA : Apart w.heap.size us w') : OwR B R a len cap w0 k (us ++ ts) w' :=
  h.join (h.rd.keeps hb) (KeepsBut.of_below hb) hA
end
theorem counted_n {v1 v2 v3 : Int} (a0 : 0 ≤ v1) (a1 : v1 < 7) (b0 : 0 ≤ v2) (b1 : v2 < 40) (c0 : 0 ≤ v3) (c1 : v3 < 40) :
    -7 ≤ IntKind.i64.wrap (IntKind.i64.wrap (v1 + IntKind.i64.wrap (IntKind.i64.wrap (v2.tdiv 39) * 5)) - IntKind.i64.wrap (IntKind.i64.wrap (v3.tdiv 39) * 7)) ∧
    IntKind.i64.wrap (IntKind.i64.wrap (v1 + IntKind.i64.wrap (IntKind.i64.wrap (v2.tdiv 39) * 5)) - IntKind.i64.wrap (IntKind.i64.wrap (v3.tdiv 39) * 7)) ≤ 11 := by
  rw [Int.tdiv_eq_ediv_of_nonneg b0, Int.tdiv_eq_ediv_of_nonneg c0]
  have hb : v2 / 39 = 0 ∨ v2 / 39 = 1 := by omega
  have hc : v3 / 39 = 0 ∨ v3 / 39 = 1 := by omega
  have e0 : IntKind.i64.wrap (IntKind.i64.wrap 0 * 5) = 0 := by decide
  have e1 : IntKind.i64.wrap (IntKind.i64.wrap 1 * 5) = 5 := by decide
  have e2 : IntKind.i64.wrap (IntKind.i64.wrap 0 * 7) = 0 := by decide
  have e3 : IntKind.i64.wrap (IntKind.i64.wrap 1 * 7) = 7 := by decide
  rcases hb with hb | hb <;> rcases hc with hc | hc <;> rw [hb, hc] <;> simp only [e0, e1, e2, e3] <;> (rw [IntWalk.i64_in (v1 + _) (by omega), IntWalk.i64_in _ (by omega)]; omega)

/-- a machine, good or not, as large as one may be -/
def M.small (m : M) : Prop := (Lit.int .i64 m.st).wf = true ∧ -100 ≤ m.st ∧ m.st ≤ 100 ∧ m.next.length ≤ 144 ∧ m.ends.length ≤ 48
theorem IsOf.small {ms : List Mk} {m : M} (h : IsOf ms m true) : m.small := by
  have hl := h.len
  have hs := M.ok_shape (hl.2.2.2.1 rfl)
  exact ⟨hl.2.2.1, by omega, by omega, hl.1, hl.2.1⟩
/-- what drawing a machine and a number leaves -/
def CountDrawn (B R : Nat) (a : Option Addr) (len cap k : Nat) (w : World) (e : Ending) (w' : World) : Prop :=
  ∃ (m : M) (a1 a2 : Option Addr) (c1 c2 : Nat) (n : Int), e = .returned (.tuple #[.agg #[.int .i64 m.st, .slice a1 m.next.length c1, .slice a2 m.ends.length c2], .int .i64 n]) ∧ m.small ∧ (-7 ≤ n ∧ n ≤ 11) ∧
    ∃ k', k ≤ k' ∧ k' ≤ k + 200 ∧ OwR B R a len cap w k' [rowT 3 1 (.slice a1 m.next.length c1) m.next.length (m.next.map (Value.int .i64)), rowT 4 1 (.slice a2 m.ends.length c2) m.ends.length (m.ends.map Value.bool)] w'

set_option maxHeartbeats 3200000 in
theorem l20Counted_any (B R : Nat) (a : Option Addr) (len cap k : Nat) (w : World) (H : RdAt B R a len cap k w) (hk : k ≤ 700000) :
    Calls Try.prog 71 #[.pointer (some ⟨R, 0, none⟩)] w (CountDrawn B R a len cap k w) := by
  have O0 := Lib.hid ((OwR.start H).box #[.int .i64 0, .slice none 0 0, .slice none 0 0] 26)
  have HC := Lib.hid (l20Machine_any B R a len cap k 14 _ O0.out.rd (by omega) (by omega) (by omega))
  have hRw := H.hR
  clear H
  go_enter Try.func71, Try.ntmps71
  go_wp2_with fail
  refine HC.out.mono ?_
  clear HC
  rintro e w2 ⟨st, xs, bs, nv, ev, rfl, h0, h1, h2, h3, ⟨k1, hk1, hk2, hR1⟩, hK1, hA⟩
  obtain ⟨a1, c1, rfl⟩ := ownsRow_sliceD hA.head
  obtain ⟨a2, c2, rfl⟩ := ownsRow_sliceD hA.tail.head
  have HM : Hid (M.small ⟨st, xs, bs⟩) := Lib.hid ⟨(WalkArith.wf_i64 (by omega) : (Lit.int .i64 st).wf = true), by show -100 ≤ st; omega, by show st ≤ 100; omega, by show xs.length ≤ 144; omega, by show bs.length ≤ 48; omega⟩
  have O1 : Hid (OwR B R a len cap w k1 [rowT 3 1 (.slice a1 xs.length c1) xs.length (xs.map (Value.int .i64)), rowT 4 1 (.slice a2 bs.length c2) bs.length (bs.map Value.bool), cellsT w.heap.size #[.int .i64 0, .slice none 0 0, .slice none 0 0] 26] w2) := Lib.hid (O0.out.join hR1 hK1 hA)
  have O2 : Hid (OwR B R a len cap w k1 [rowT 3 1 (.slice a1 xs.length c1) xs.length (xs.map (Value.int .i64)), rowT 4 1 (.slice a2 bs.length c2) bs.length (bs.map Value.bool), cellsT w2.heap.size #[.int .i64 st, .slice a1 xs.length c1, .slice a2 bs.length c2] 26, cellsT w.heap.size #[.int .i64 0, .slice none 0 0, .slice none 0 0] 26] (w2.alloc (.cells #[.int .i64 st, .slice a1 xs.length c1, .slice a2 bs.length c2] 26))) :=
    Lib.hid ((O1.out.box #[.int .i64 st, .slice a1 xs.length c1, .slice a2 bs.length c2] 26).perm ((List.perm_append_comm (l₁ := [_]) (l₂ := [_, _])).append_right [_]))
  have HKB := Lib.hid (show k ≤ k1 ∧ k1 ≤ k + 30 ∧ k ≤ 700000 by omega)
  have hlt := (O1.out.tri 2 (by simp) rfl).2.2.2.2.2.2.2
  clear O0 O1 hR1 hK1 hA h0 h1 h2 h3 hk1 hk2 hk
  go_wp2_with fail
  generalize (w2.alloc (.cells #[.int .i64 st, .slice a1 xs.length c1, .slice a2 bs.length c2] 26)) = W2 at *
  generalize w2.heap.size = B4 at *
  refine (pick_any B R a len cap k1 3 _ O2.out.rd (by have := HKB.out; omega) (by omega) (by omega)).mono ?_
  rintro e w3 ⟨v, rfl, hv0, -, hR3, hK3⟩
  have O3 := Lib.hid (O2.out.picked hR3 hK3)
  clear O2 hR3 hK3
  generalize hR0 : w.heap.size = R0 at *
  have hne1 : B4 ≠ R0 := by omega
  have hne2 : R0 ≠ B4 := by omega
  clear hlt
  by_cases hv : v = 0
  · subst hv
    go_wp2_with fail
    refine (l20Term_any B R a len cap (k1 + 1) 0 _ O3.out.rd (by have := HKB.out; omega) (by omega) (by omega)).mono ?_
    rintro e w4 ⟨ms, mv, k4, rfl, hms, hwf, hk3, hk4, hT⟩
    have O4 : Hid (OwR B R a len cap w k4 [rowT 108 5 mv ms.length (cellsM ms), rowT 3 1 (.slice a1 xs.length c1) xs.length (xs.map (Value.int .i64)), rowT 4 1 (.slice a2 bs.length c2) bs.length (bs.map Value.bool), cellsT B4 #[.int .i64 st, .slice a1 xs.length c1, .slice a2 bs.length c2] 26, cellsT R0 #[.int .i64 0, .slice none 0 0, .slice none 0 0] 26] w4) := Lib.hid (O3.out.join hT.rd hT.keep hT.ap)
    have HO := Lib.hid (specMachineOf_any ms mv w4 (IsMarks.of_owns (O4.out.row 0 (by simp) rfl)) (by omega))
    replace HKB := Lib.hid (show k ≤ k4 ∧ k4 ≤ k + 131 ∧ k ≤ 700000 by have := HKB.out; omega)
    clear hT O3 hms hwf hk3 hk4
    go_wp2_with fail
    refine HO.out.mono ?_
    clear HO
    rintro e w5 ⟨m, b, a3, a4, c3, c4, hof, rfl, hA5, hb5⟩
    have O5 : Hid (OwR B R a len cap w k4 [rowT 3 1 (.slice a3 m.next.length c3) m.next.length (m.next.map (Value.int .i64)), rowT 4 1 (.slice a4 m.ends.length c4) m.ends.length (m.ends.map Value.bool), rowT 108 5 mv ms.length (cellsM ms), rowT 3 1 (.slice a1 xs.length c1) xs.length (xs.map (Value.int .i64)), rowT 4 1 (.slice a2 bs.length c2) bs.length (bs.map Value.bool), cellsT B4 #[.int .i64 st, .slice a1 xs.length c1, .slice a2 bs.length c2] 26, cellsT R0 #[.int .i64 0, .slice none 0 0, .slice none 0 0] 26] w5) := Lib.hid (O4.out.joinB hb5 hA5)
    clear O4 hA5 hb5
    cases b with
    | false =>
      have O6 := Lib.hid ((O5.out.sub (us := [_, _, _, _]) (List.Sublist.cons _ (List.Sublist.cons _ (List.Sublist.cons _ (List.Sublist.refl _))))).alloc (.cells #[.int .i64 m.st, .slice a3 m.next.length c3, .slice a4 m.ends.length c4] 26))
      clear O5 hof
      go_upto_region 6 with fail
      generalize (w5.alloc (.cells #[.int .i64 m.st, .slice a3 m.next.length c3, .slice a4 m.ends.length c4] 26)) = W6 at *
      obtain ⟨y00, y01, y02, -⟩ := O6.out.tri 2 (by simp) rfl
      skip
      have OD := Lib.hid O6.out.drew
      go_region_held3 (fun w' => w'.cell? ⟨B4, 0, none⟩ = some (.int .i64 st) ∧ w'.cell? ⟨B4, 1, none⟩ = some (.slice a1 xs.length c1) ∧ w'.cell? ⟨B4, 2, none⟩ = some (.slice a2 bs.length c2))
        (refine ⟨?_, ?_, ?_⟩ <;> go_simp)
        (first | (go_at_call 81; (first | (refine (pick_any B R a len cap (k4 + 2) 40 _ P2.out.rd (by have := HKB.out; omega) (by omega) (by omega)).mono ?_; rintro e p3 ⟨v3, rfl, q30, q31, hR3, hK3⟩; have P3 := Lib.hid (P2.out.picked hR3 hK3); have q32 := q31 (by omega); obtain ⟨y30, y31, y32, -⟩ := P3.out.tri 2 (by simp) rfl; obtain ⟨m30, m31, m32, x30, x31, x32, -, -⟩ := P3.out.tri 3 (by simp) rfl; clear q31 hR3 hK3) | (refine (pick_any B R a len cap (k4 + 1) 40 _ P1.out.rd (by have := HKB.out; omega) (by omega) (by omega)).mono ?_; rintro e p2 ⟨v2, rfl, q20, q21, hR2, hK2⟩; have P2 := Lib.hid (P1.out.picked hR2 hK2); have q22 := q21 (by omega); obtain ⟨y20, y21, y22, -⟩ := P2.out.tri 2 (by simp) rfl; obtain ⟨m20, m21, m22, x20, x21, x22, -, -⟩ := P2.out.tri 3 (by simp) rfl; clear q21 hR2 hK2) | (refine (pick_any B R a len cap (k4 + 0) 7 _ OD.out.rd (by have := HKB.out; omega) (by omega) (by omega)).mono ?_; rintro e p1 ⟨v1, rfl, q10, q11, hR1, hK1⟩; have P1 := Lib.hid (OD.out.picked hR1 hK1); have q12 := q11 (by omega); obtain ⟨y10, y11, y12, -⟩ := P1.out.tri 2 (by simp) rfl; obtain ⟨m10, m11, m12, x10, x11, x12, -, -⟩ := P1.out.tri 3 (by simp) rfl; clear q11 hR1 hK1))))
      all_goals
        have PF := Lib.hid (P3.out.put3 (i := 3) (by simp) rfl (.int .i64 st) (.slice a1 xs.length c1) (.slice a2 bs.length c2))
        go_wp2
        obtain ⟨r0, r1, r2, -⟩ := PF.out.tri 3 (by simp) rfl
        refine bodyPost_ret (v := .tuple #[.agg #[.int .i64 st, .slice a1 xs.length c1, .slice a2 bs.length c2], .int .i64 (IntKind.i64.wrap (IntKind.i64.wrap (v1 + IntKind.i64.wrap (IntKind.i64.wrap (v2.tdiv 39) * 5)) - IntKind.i64.wrap (IntKind.i64.wrap (v3.tdiv 39) * 7)))]) ?_ rfl ⟨⟨st, xs, bs⟩, _, _, _, _, _, rfl, HM.out, counted_n q10 q12 q20 q22 q30 q32, k4 + 3, by have := HKB.out; omega, by have := HKB.out; omega, PF.out.sub (List.Sublist.cons_cons _ (List.Sublist.cons_cons _ (List.nil_sublist _)))⟩
        simp [results, Try.results71, go_sem, r0, r1, r2]
    | true =>
      have O6 := Lib.hid ((O5.out.sub (us := [rowT 3 1 (.slice a3 m.next.length c3) m.next.length (m.next.map (Value.int .i64)), rowT 4 1 (.slice a4 m.ends.length c4) m.ends.length (m.ends.map Value.bool), cellsT B4 #[.int .i64 st, .slice a1 xs.length c1, .slice a2 bs.length c2] 26, cellsT R0 #[.int .i64 0, .slice none 0 0, .slice none 0 0] 26]) (List.Sublist.cons_cons _ (List.Sublist.cons_cons _ (List.Sublist.cons _ (List.Sublist.cons _ (List.Sublist.cons _ (List.Sublist.refl _))))))).box #[.int .i64 m.st, .slice a3 m.next.length c3, .slice a4 m.ends.length c4] 26)
      replace HM := Lib.hid hof.small
      clear O5 hof
      obtain ⟨u0, u1, u2, u3, u4, u5, -, u6⟩ := O6.out.tri 3 (by simp) rfl
      have O7 := Lib.hid ((O6.out.put3 (i := 3) (by simp) rfl (.int .i64 m.st) (.slice a3 m.next.length c3) (.slice a4 m.ends.length c4)).sub (us := [rowT 3 1 (.slice a3 m.next.length c3) m.next.length (m.next.map (Value.int .i64)), rowT 4 1 (.slice a4 m.ends.length c4) m.ends.length (m.ends.map Value.bool), cellsT B4 #[.int .i64 m.st, .slice a3 m.next.length c3, .slice a4 m.ends.length c4] 26, cellsT R0 #[.int .i64 0, .slice none 0 0, .slice none 0 0] 26]) (List.Sublist.cons _ (List.Sublist.refl _)))
      have t6 := (O6.out.tri 0 (by simp) rfl).2.2.2.2.2.2
      go_upto_region 6 with fail
      clear u0 u1 u2 u3 u4 u5 u6 t6 O6
      generalize ((((w5.alloc (.cells #[.int .i64 m.st, .slice a3 m.next.length c3, .slice a4 m.ends.length c4] 26)).setCell ⟨B4, 0, none⟩ (.int .i64 m.st)).setCell ⟨B4, 1, none⟩ (.slice a3 m.next.length c3)).setCell ⟨B4, 2, none⟩ (.slice a4 m.ends.length c4)) = W7 at *
      obtain ⟨y00, y01, y02, -⟩ := O7.out.tri 2 (by simp) rfl
      skip
      have OD := Lib.hid O7.out.drew
      go_region_held3 (fun w' => w'.cell? ⟨B4, 0, none⟩ = some (.int .i64 m.st) ∧ w'.cell? ⟨B4, 1, none⟩ = some (.slice a3 m.next.length c3) ∧ w'.cell? ⟨B4, 2, none⟩ = some (.slice a4 m.ends.length c4))
        (refine ⟨?_, ?_, ?_⟩ <;> go_simp)
        (first | (go_at_call 81; (first | (refine (pick_any B R a len cap (k4 + 2) 40 _ P2.out.rd (by have := HKB.out; omega) (by omega) (by omega)).mono ?_; rintro e p3 ⟨v3, rfl, q30, q31, hR3, hK3⟩; have P3 := Lib.hid (P2.out.picked hR3 hK3); have q32 := q31 (by omega); obtain ⟨y30, y31, y32, -⟩ := P3.out.tri 2 (by simp) rfl; obtain ⟨m30, m31, m32, x30, x31, x32, -, -⟩ := P3.out.tri 3 (by simp) rfl; clear q31 hR3 hK3) | (refine (pick_any B R a len cap (k4 + 1) 40 _ P1.out.rd (by have := HKB.out; omega) (by omega) (by omega)).mono ?_; rintro e p2 ⟨v2, rfl, q20, q21, hR2, hK2⟩; have P2 := Lib.hid (P1.out.picked hR2 hK2); have q22 := q21 (by omega); obtain ⟨y20, y21, y22, -⟩ := P2.out.tri 2 (by simp) rfl; obtain ⟨m20, m21, m22, x20, x21, x22, -, -⟩ := P2.out.tri 3 (by simp) rfl; clear q21 hR2 hK2) | (refine (pick_any B R a len cap (k4 + 0) 7 _ OD.out.rd (by have := HKB.out; omega) (by omega) (by omega)).mono ?_; rintro e p1 ⟨v1, rfl, q10, q11, hR1, hK1⟩; have P1 := Lib.hid (OD.out.picked hR1 hK1); have q12 := q11 (by omega); obtain ⟨y10, y11, y12, -⟩ := P1.out.tri 2 (by simp) rfl; obtain ⟨m10, m11, m12, x10, x11, x12, -, -⟩ := P1.out.tri 3 (by simp) rfl; clear q11 hR1 hK1))))
      all_goals
        have PF := Lib.hid (P3.out.put3 (i := 3) (by simp) rfl (.int .i64 m.st) (.slice a3 m.next.length c3) (.slice a4 m.ends.length c4))
        go_wp2
        obtain ⟨r0, r1, r2, -⟩ := PF.out.tri 3 (by simp) rfl
        refine bodyPost_ret (v := .tuple #[.agg #[.int .i64 m.st, .slice a3 m.next.length c3, .slice a4 m.ends.length c4], .int .i64 (IntKind.i64.wrap (IntKind.i64.wrap (v1 + IntKind.i64.wrap (IntKind.i64.wrap (v2.tdiv 39) * 5)) - IntKind.i64.wrap (IntKind.i64.wrap (v3.tdiv 39) * 7)))]) ?_ rfl ⟨m, _, _, _, _, _, rfl, HM.out, counted_n q10 q12 q20 q22 q30 q32, k4 + 3, by have := HKB.out; omega, by have := HKB.out; omega, PF.out.sub (List.Sublist.cons_cons _ (List.Sublist.cons_cons _ (List.nil_sublist _)))⟩
        simp [results, Try.results71, go_sem, r0, r1, r2]
  · go_upto_region 6 with fail
    obtain ⟨y00, y01, y02, -⟩ := O3.out.tri 2 (by simp) rfl
    skip
    have OD := Lib.hid O3.out.drew
    go_region_held3 (fun w' => w'.cell? ⟨B4, 0, none⟩ = some (.int .i64 st) ∧ w'.cell? ⟨B4, 1, none⟩ = some (.slice a1 xs.length c1) ∧ w'.cell? ⟨B4, 2, none⟩ = some (.slice a2 bs.length c2))
      (refine ⟨?_, ?_, ?_⟩ <;> go_simp)
      (first | (go_at_call 81; (first | (refine (pick_any B R a len cap ((k1 + 1) + 2) 40 _ P2.out.rd (by have := HKB.out; omega) (by omega) (by omega)).mono ?_; rintro e p3 ⟨v3, rfl, q30, q31, hR3, hK3⟩; have P3 := Lib.hid (P2.out.picked hR3 hK3); have q32 := q31 (by omega); obtain ⟨y30, y31, y32, -⟩ := P3.out.tri 2 (by simp) rfl; obtain ⟨m30, m31, m32, x30, x31, x32, -, -⟩ := P3.out.tri 3 (by simp) rfl; clear q31 hR3 hK3) | (refine (pick_any B R a len cap ((k1 + 1) + 1) 40 _ P1.out.rd (by have := HKB.out; omega) (by omega) (by omega)).mono ?_; rintro e p2 ⟨v2, rfl, q20, q21, hR2, hK2⟩; have P2 := Lib.hid (P1.out.picked hR2 hK2); have q22 := q21 (by omega); obtain ⟨y20, y21, y22, -⟩ := P2.out.tri 2 (by simp) rfl; obtain ⟨m20, m21, m22, x20, x21, x22, -, -⟩ := P2.out.tri 3 (by simp) rfl; clear q21 hR2 hK2) | (refine (pick_any B R a len cap ((k1 + 1) + 0) 7 _ OD.out.rd (by have := HKB.out; omega) (by omega) (by omega)).mono ?_; rintro e p1 ⟨v1, rfl, q10, q11, hR1, hK1⟩; have P1 := Lib.hid (OD.out.picked hR1 hK1); have q12 := q11 (by omega); obtain ⟨y10, y11, y12, -⟩ := P1.out.tri 2 (by simp) rfl; obtain ⟨m10, m11, m12, x10, x11, x12, -, -⟩ := P1.out.tri 3 (by simp) rfl; clear q11 hR1 hK1))))
    all_goals
      have PF := Lib.hid (P3.out.put3 (i := 3) (by simp) rfl (.int .i64 st) (.slice a1 xs.length c1) (.slice a2 bs.length c2))
      go_wp2
      obtain ⟨r0, r1, r2, -⟩ := PF.out.tri 3 (by simp) rfl
      refine bodyPost_ret (v := .tuple #[.agg #[.int .i64 st, .slice a1 xs.length c1, .slice a2 bs.length c2], .int .i64 (IntKind.i64.wrap (IntKind.i64.wrap (v1 + IntKind.i64.wrap (IntKind.i64.wrap (v2.tdiv 39) * 5)) - IntKind.i64.wrap (IntKind.i64.wrap (v3.tdiv 39) * 7)))]) ?_ rfl ⟨⟨st, xs, bs⟩, _, _, _, _, _, rfl, HM.out, counted_n q10 q12 q20 q22 q30 q32, (k1 + 1) + 3, by have := HKB.out; omega, by have := HKB.out; omega, PF.out.sub (List.Sublist.cons_cons _ (List.Sublist.cons_cons _ (List.nil_sublist _)))⟩
      simp [results, Try.results71, go_sem, r0, r1, r2]
end Go.Proofs.Ytjdeahdngpccpaa

namespace Go.Proofs.Ytjdeahdngpccpaa
open Go.RowKit

theorem row_belowW {k : IntKind} {w w' : World} {a : Option Addr} {len cap : Nat} {zs : List Int} (h : IsRow k w a len cap zs) (hb : Below w.heap.size w w') : IsRow k w' a len cap zs := by
  rcases h with h | ⟨x, h1, h2, h3, h4, h5, h6⟩
  · exact .inl h
  · exact .inr ⟨x, h1, h2, h3, h4, fun i hi => (hb.cell (World.block_lt_of_cell? w _ (h5 i hi))).trans (h5 i hi), h6⟩
/-- what drawing a machine and a number of letters returns -/
def CountRes (w : World) (e : Ending) (w' : World) : Prop :=
  ∃ (m : M) (a3 a4 : Option Addr) (c3 c4 : Nat) (n : Int), e = .returned (.tuple #[.agg #[.int .i64 m.st, .slice a3 m.next.length c3, .slice a4 m.ends.length c4], .int .i64 n]) ∧ m.small ∧ -7 ≤ n ∧ n ≤ 11 ∧
    IsInts w' (.slice a3 m.next.length c3) m.next ∧ IsBools w' (.slice a4 m.ends.length c4) m.ends ∧ Below w.heap.size w w'

set_option maxHeartbeats 1600000 in
theorem drawCountWords_any (a : Option Addr) (len cap : Nat) (zs : List Int) (w : World) (h : IsRow .u8 w a len cap zs) :
    Calls Try.prog 23 #[.slice a len cap] w (CountRes w) := by
  have H0 := row_belowW h ((Below.refl w.heap.size w).alloc (Nat.le_refl _) (.cells #[.int .i64 0, .slice none 0 0, .slice none 0 0] 26))
  have HO := Lib.hid (l20Open_any a len cap zs _ H0)
  clear H0 h
  go_enter Try.func23, Try.ntmps23
  go_wp2_with fail
  refine HO.out.mono ?_
  clear HO
  rintro e w1 ⟨a1, len1, cap1, rfl, hR, hb1⟩
  simp only [World.size_alloc] at hR hb1
  have hRR := hR.hR
  have c0 : w1.cell? ⟨w.heap.size, 0, none⟩ = some (.int .i64 0) := (hb1.cell (p := ⟨w.heap.size, 0, none⟩) (Nat.lt_succ_self _)).trans (World.cell?_alloc_new w _ _ 0)
  have c1 : w1.cell? ⟨w.heap.size, 1, none⟩ = some (.slice none 0 0) := (hb1.cell (p := ⟨w.heap.size, 1, none⟩) (Nat.lt_succ_self _)).trans (World.cell?_alloc_new w _ _ 1)
  have c2 : w1.cell? ⟨w.heap.size, 2, none⟩ = some (.slice none 0 0) := (hb1.cell (p := ⟨w.heap.size, 2, none⟩) (Nat.lt_succ_self _)).trans (World.cell?_alloc_new w _ _ 2)
  have f0 : ∀ i, w1.frozen? ⟨w.heap.size, i, none⟩ = false := fun i => (hb1.frozen (p := ⟨w.heap.size, i, none⟩) (Nat.lt_succ_self _)).trans (World.frozen?_alloc_new w _ _ i)
  have hbw : Below w.heap.size w w1 := ((Below.refl w.heap.size w).alloc (Nat.le_refl _) _).trans (hb1.mono (Nat.le_succ _))
  clear hb1
  have HR0 : Hid (∀ W, KeepsBut (w.heap.size + 1) w1 W → W.cell? ⟨w.heap.size, 0, none⟩ = some (.int .i64 0) ∧ W.cell? ⟨w.heap.size, 1, none⟩ = some (.slice none 0 0) ∧ W.cell? ⟨w.heap.size, 2, none⟩ = some (.slice none 0 0) ∧ W.frozen? ⟨w.heap.size, 0, none⟩ = false ∧ W.frozen? ⟨w.heap.size, 1, none⟩ = false ∧ W.frozen? ⟨w.heap.size, 2, none⟩ = false) := Lib.hid (fun W hK =>
    ⟨(hK.cell (p := ⟨w.heap.size, 0, none⟩) (by show w.heap.size < _; omega) (by show w.heap.size ≠ _; omega)).trans c0,
     (hK.cell (p := ⟨w.heap.size, 1, none⟩) (by show w.heap.size < _; omega) (by show w.heap.size ≠ _; omega)).trans c1,
     (hK.cell (p := ⟨w.heap.size, 2, none⟩) (by show w.heap.size < _; omega) (by show w.heap.size ≠ _; omega)).trans c2,
     (hK.frozen (p := ⟨w.heap.size, 0, none⟩) (by show w.heap.size < _; omega) (by show w.heap.size ≠ _; omega)).trans (f0 0),
     (hK.frozen (p := ⟨w.heap.size, 1, none⟩) (by show w.heap.size < _; omega) (by show w.heap.size ≠ _; omega)).trans (f0 1),
     (hK.frozen (p := ⟨w.heap.size, 2, none⟩) (by show w.heap.size < _; omega) (by show w.heap.size ≠ _; omega)).trans (f0 2)⟩)
  clear c0 c1 c2 f0
  go_wp2_with fail
  refine (l20Counted_any _ _ a1 len1 cap1 0 w1 hR (by omega)).mono ?_
  rintro e w2 ⟨m, a3, a4, c3, c4, n0, rfl, hm, hn, k', -, hk2, hO⟩
  have HM := Lib.hid hm
  have HN := Lib.hid hn
  have FIN : ∀ W, W = ((w2.setCell ⟨w.heap.size, 0, none⟩ (.int .i64 m.st)).setCell ⟨w.heap.size, 1, none⟩ (.slice a3 m.next.length c3)).setCell ⟨w.heap.size, 2, none⟩ (.slice a4 m.ends.length c4) →
      IsInts W (.slice a3 m.next.length c3) m.next ∧ IsBools W (.slice a4 m.ends.length c4) m.ends ∧ Below w.heap.size w W := by
    rintro W rfl
    have hA := hO.ap
    have hbw2 : Below w.heap.size w w2 := hbw.trans (hO.keep.below (by omega) (by omega))
    have hr : ∀ k, some w.heap.size = some k → k < w1.heap.size := fun k e => by cases e; omega
    have hA2 := ((hA.other (grown_setCell w2 w.heap.size 0 (.int .i64 m.st)) hr).other (grown_setCell _ w.heap.size 1 (.slice a3 m.next.length c3)) hr).other (grown_setCell _ w.heap.size 2 (.slice a4 m.ends.length c4)) hr
    exact ⟨IsInts.of_owns hA2.head, IsBools.of_owns hA2.tail.head, ((hbw2.setCell (p := ⟨w.heap.size, 0, none⟩) (Nat.le_refl _) _).setCell (p := ⟨w.heap.size, 1, none⟩) (Nat.le_refl _) _).setCell (p := ⟨w.heap.size, 2, none⟩) (Nat.le_refl _) _⟩
  have FI := Lib.hid FIN
  obtain ⟨m00, m01, m02, x00, x01, x02⟩ := HR0.out _ hO.keep
  clear FIN hO hm hn hk2 hR hbw hRR
  go_wp2
  obtain ⟨r1, r6, r2⟩ := FI.out _ rfl
  have r3 : (((w2.setCell ⟨w.heap.size, 0, none⟩ (.int .i64 m.st)).setCell ⟨w.heap.size, 1, none⟩ (.slice a3 m.next.length c3)).setCell ⟨w.heap.size, 2, none⟩ (.slice a4 m.ends.length c4)).cell? ⟨w.heap.size, 0, none⟩ = some (.int .i64 m.st) := by go_simp
  have r4 : (((w2.setCell ⟨w.heap.size, 0, none⟩ (.int .i64 m.st)).setCell ⟨w.heap.size, 1, none⟩ (.slice a3 m.next.length c3)).setCell ⟨w.heap.size, 2, none⟩ (.slice a4 m.ends.length c4)).cell? ⟨w.heap.size, 1, none⟩ = some (.slice a3 m.next.length c3) := by go_simp
  have r5 : (((w2.setCell ⟨w.heap.size, 0, none⟩ (.int .i64 m.st)).setCell ⟨w.heap.size, 1, none⟩ (.slice a3 m.next.length c3)).setCell ⟨w.heap.size, 2, none⟩ (.slice a4 m.ends.length c4)).cell? ⟨w.heap.size, 2, none⟩ = some (.slice a4 m.ends.length c4) := by go_simp
  refine bodyPost_ret (v := .tuple #[.agg #[.int .i64 m.st, .slice a3 m.next.length c3, .slice a4 m.ends.length c4], .int .i64 n0]) ?_ rfl ⟨m, _, _, _, _, _, rfl, HM.out, HN.out.1, HN.out.2, r1, r6, r2⟩
  simp [results, Try.results23, go_sem, r3, r4, r5]
end Go.Proofs.Ytjdeahdngpccpaa

namespace Go.Proofs.Ytjdeahdngpccpaa
open Go.RowKit

theorem aliveG_any (w : World) : Calls Try.prog 18 #[] w fun e w' => e = .returned (.bool true) ∧ w = w' := by
  have h1 : wordOk ⟨#[114, 100, 110]⟩ = true := by decide +kernel
  have h2 : wordOk ⟨#[120]⟩ = false := by decide +kernel
  go_enter Try.func18, Try.ntmps18
  go_wp2_with (go_at_call 67; refine (implWordOk_any _ _ (by decide)).mono ?_; rintro e w' ⟨rfl, rfl⟩)
  go_ret
  exact ⟨rfl, rfl⟩
theorem rowG_len {w : World} {a : Option Addr} {len cap : Nat} {zs : List Int} (h : IsRow .u8 w a len cap zs) : len ≤ 9223372036854775807 := by
  rcases h with ⟨_, rfl, _⟩ | ⟨x, _, h1, h2, _⟩
  · exact Nat.zero_le _
  · exact Nat.le_trans h1 h2
end Go.Proofs.Ytjdeahdngpccpaa

namespace Go.Proofs.Ytjdeahdngpccpaa

/-- the first letter is put behind the others -/
def rt1 : List UInt8 → List UInt8
  | [] => []
  | c :: cs => cs ++ [c]
/-- so many letters are put behind the others -/
def rt : Nat → List UInt8 → List UInt8
  | 0, l => l
  | k + 1, l => rt1 (rt k l)
/-- whether a word comes befR another one, in the order r, d, n -/
def befR : List UInt8 → List UInt8 → Bool
  | a :: xs, b :: ys => if a = b then befR xs ys else decide (letterOf (a.toNat : Int) < letterOf (b.toNat : Int))
  | _, _ => false
/-- the first one of the first rolls -/
def leastTo (l : List UInt8) : Nat → List UInt8
  | 0 => l
  | k + 1 => if befR (rt (k + 1) l) (leastTo l k) = true then rt (k + 1) l else leastTo l k
/-- the first one of all rolls -/
def leastR (l : List UInt8) : List UInt8 := leastTo l (l.length - 1)
/-- how many rolls there are, sought from a number on -/
def perFrom (l : List UInt8) : Nat → Nat → Nat
  | 0, k => k
  | f + 1, k => if rt k l = l then k else perFrom l f (k + 1)
/-- how many different words a word is by rolling -/
def per (l : List UInt8) : Nat := perFrom l (l.length - 1) 1
/-- a text of a row of bytes -/
def txtOf (l : List UInt8) : ByteArray := ⟨l.toArray⟩
theorem txtOf_list (l : List UInt8) : (txtOf l).data.toList = l := by simp [txtOf]
theorem txtOf_size (l : List UInt8) : (txtOf l).size = l.length := by rw [← len_data, txtOf_list]
/-- LeastRoll -/
def leastRoll (s : ByteArray) : ByteArray := if wordOk s = true then txtOf (leastR s.data.toList) else ⟨#[]⟩
/-- RollsOf -/
def rollsOf (s : ByteArray) : Int := if wordOk s = true then (per s.data.toList : Int) else -1
end Go.Proofs.Ytjdeahdngpccpaa

namespace Go.Proofs.Ytjdeahdngpccpaa
open Go.RowKit

/-- StateFrom -/
def M.from (m : M) (s : Int) (word : ByteArray) : Int := if (m.ok && wordOk word && (decide (0 ≤ s) && decide (s ≤ m.st - 1))) = true then m.goes s word.data.toList else -2
/-- the least state from which a row of letters leads back, sought from a state on -/
def ringTo (m : M) (l : List UInt8) : Nat → Int → Int
  | 0, _ => -1
  | f + 1, s => if m.goes s l = s then s else ringTo m l f (s + 1)
/-- RingState of letters -/
def ringL (m : M) (l : List UInt8) : Int := ringTo m l m.st.toNat 0
/-- RingState -/
def ringState (m : M) (word : ByteArray) : Int := if (m.ok && wordOk word && decide (0 < word.size)) = true then ringL m word.data.toList else -1
/-- RingOk -/
def ringOk (m : M) (word : ByteArray) : Bool := decide (0 ≤ ringState m word)
/-- the sum of the first values of a function -/
def sumN (f : Nat → Int) : Nat → Int
  | 0 => 0
  | k + 1 => sumN f k + f k
/-- by how many letters a machine goes on from a state to another one -/
def M.steps (m : M) (i j : Nat) : Int := (if m.nx i 0 = (j : Int) then 1 else 0) + (if m.nx i 1 = (j : Int) then 1 else 0) + (if m.nx i 2 = (j : Int) then 1 else 0)
/-- of the first letters -/
def M.stepsTo (m : M) (l : Nat) (i j : Nat) : Int := sumN (fun c => if m.nx i (c : Int) = (j : Int) then 1 else 0) l
/-- the walks from state to state with one letter more than so many -/
def M.walks (m : M) : Nat → Nat → Nat → Int
  | 0, i, j => m.steps i j
  | k + 1, i, j => sumN (fun b => m.walks k i b * m.steps b j) m.ends.length
/-- the diagonal's sum -/
def M.backs (m : M) (k : Nat) : Int := sumN (fun i => m.walks k i i) m.ends.length
/-- bounds: 3, 432, .. -/
def wbd : Nat → Int
  | 0 => 3
  | k + 1 => 48 * (wbd k * 3)
/-- CountWalks -/
def ringNum (n : Int) : Bool := decide (1 ≤ n) && decide (n ≤ 6)
def countWalks (m : M) (n : Int) : Int := if (m.ok && ringNum n) = true then m.backs (n.toNat - 1) else -1

/-- a word of so many letters, told by a number: its letters are the digits in base 3, the least one first -/
def digits : Nat → Nat → List UInt8
  | 0, _ => []
  | k + 1, way => digits k way ++ [if way / 3 ^ k % 3 = 0 then 114 else if way / 3 ^ k % 3 = 1 then 100 else 110]
/-- all words of so many letters, each with each letter behind -/
def wordsL : Nat → List (List UInt8)
  | 0 => [[]]
  | k + 1 => (wordsL k).flatMap fun w => [w ++ [114], w ++ [100], w ++ [110]]
/-- how often a test holds in a row -/
def cntOf (p : List UInt8 → Bool) : List (List UInt8) → Int
  | [] => 0
  | w :: ws => (if p w = true then 1 else 0) + cntOf p ws
theorem cntOf_append (p : List UInt8 → Bool) (a b : List (List UInt8)) : cntOf p (a ++ b) = cntOf p a + cntOf p b := by
  induction a with
  | nil => simp [cntOf]
  | cons x xs ih => rw [List.cons_append, cntOf, cntOf, ih, Int.add_assoc]
theorem cntOf_flat (p : List UInt8 → Bool) (a : List (List UInt8)) : cntOf p (a.flatMap fun w => [w ++ [114], w ++ [100], w ++ [110]]) = cntOf (fun w => p (w ++ [114])) a + cntOf (fun w => p (w ++ [100])) a + cntOf (fun w => p (w ++ [110])) a := by
  induction a with
  | nil => simp [cntOf]
  | cons x xs ih =>
    rw [List.flatMap_cons, cntOf_append, ih]
    simp only [cntOf]; omega
theorem cntTo_add (p : Nat → Bool) (a b : Nat) : cntTo p (a + b) = cntTo p a + cntTo (fun i => p (a + i)) b := by
  induction b with
  | zero => simp [cntTo]
  | succ b ih => rw [← Nat.add_assoc, cntTo, cntTo, ih, Int.add_assoc]
theorem cntTo_cgr (p q : Nat → Bool) (k : Nat) (h : ∀ i, i < k → p i = q i) : cntTo p k = cntTo q k := by
  induction k with
  | zero => rfl
  | succ k ih => rw [cntTo, cntTo, ih (fun i hi => h i (by omega)), h k (by omega)]
theorem digits_mod (k j way : Nat) (h : k ≤ j) (t : Nat) : digits k (t * 3 ^ j + way) = digits k way := by
  induction k with
  | zero => rfl
  | succ k ih =>
    have e : (t * 3 ^ j + way) / 3 ^ k % 3 = way / 3 ^ k % 3 := by
      obtain ⟨d, rfl⟩ : ∃ d, j = k + 1 + d := ⟨j - (k + 1), by omega⟩
      have e1 : t * 3 ^ (k + 1 + d) + way = 3 ^ k * (3 * (t * 3 ^ d)) + way := by
        rw [Nat.pow_add, Nat.pow_succ]; simp [Nat.mul_comm, Nat.mul_assoc, Nat.mul_left_comm]
      rw [e1, Nat.mul_add_div (Nat.pow_pos (by omega)), Nat.mul_add_mod]
    rw [digits, digits, ih (by omega), e]
theorem digits_split (k way t : Nat) (h : way < 3 ^ k) (ht : t < 3) : digits (k + 1) (3 ^ k * t + way) = digits k way ++ [if t = 0 then 114 else if t = 1 then 100 else 110] := by
  have hp : 0 < 3 ^ k := Nat.pow_pos (by omega)
  have e : (3 ^ k * t + way) / 3 ^ k % 3 = t := by
    rw [Nat.mul_add_div hp, Nat.div_eq_of_lt h, Nat.add_zero, Nat.mod_eq_of_lt ht]
  rw [digits, e, Nat.mul_comm, digits_mod k k way (Nat.le_refl _) t]
/-- both ways to tell all words count the same -/
theorem words_count (k : Nat) (p : List UInt8 → Bool) : cntTo (fun way => p (digits k way)) (3 ^ k) = cntOf p (wordsL k) := by
  induction k generalizing p with
  | zero => simp [cntTo, cntOf, wordsL, digits]
  | succ k ih =>
    have part : ∀ (t : Nat) (c : UInt8), t < 3 → (if t = 0 then (114 : UInt8) else if t = 1 then 100 else 110) = c → cntTo (fun way => p (digits (k + 1) (3 ^ k * t + way))) (3 ^ k) = cntOf (fun w => p (w ++ [c])) (wordsL k) := by
      intro t c ht hc
      rw [← ih (fun w => p (w ++ [c]))]
      exact cntTo_cgr _ _ _ (fun i hi => by simp only [digits_split k i t hi ht, hc])
    have h0 := part 0 114 (by omega) rfl
    have h1 := part 1 100 (by omega) rfl
    have h2 := part 2 110 (by omega) rfl
    rw [show 3 ^ (k + 1) = 3 ^ k + 3 ^ k + 3 ^ k by rw [Nat.pow_succ]; omega, cntTo_add, cntTo_add, wordsL, cntOf_flat, ← h0, ← h1, ← h2]
    simp only [Nat.mul_zero, Nat.zero_add, Nat.mul_one]
    congr 1
    exact cntTo_cgr _ _ _ (fun i _ => by rw [show 3 ^ k * 2 = 3 ^ k + 3 ^ k by omega])
theorem digits_length (k way : Nat) : (digits k way).length = k := by
  induction k with
  | zero => rfl
  | succ k ih => rw [digits, List.length_append, ih]; rfl
theorem digits_all (k way : Nat) : allL (digits k way) = true := by
  induction k with
  | zero => rfl
  | succ k ih =>
    rw [digits, allL, List.all_append]
    rw [allL] at ih
    rw [ih]; split
    · rfl
    · split <;> rfl
theorem wordsL_mem (k : Nat) (w : List UInt8) (h : w ∈ wordsL k) : w.length = k ∧ allL w = true := by
  induction k generalizing w with
  | zero => simp [wordsL] at h; subst h; exact ⟨rfl, rfl⟩
  | succ k ih =>
    rw [wordsL, List.mem_flatMap] at h
    obtain ⟨v, hv, hw⟩ := h
    obtain ⟨h1, h2⟩ := ih v hv
    rw [allL] at h2
    simp only [List.mem_cons, List.not_mem_nil, or_false] at hw
    rcases hw with rfl | rfl | rfl <;> (refine ⟨by simp [h1], ?_⟩; rw [allL, List.all_append, h2]; rfl)
theorem wordsL_length (k : Nat) : (wordsL k).length = 3 ^ k := by
  induction k with
  | zero => rfl
  | succ k ih =>
    have : ∀ a : List (List UInt8), (a.flatMap fun w => [w ++ [114], w ++ [100], w ++ [110]]).length = a.length * 3 := by
      intro a
      induction a with
      | nil => rfl
      | cons x xs ihx => rw [List.flatMap_cons, List.length_append, ihx]; simp; omega
    rw [wordsL, this, ih, Nat.pow_succ]
/-- whether a word is a necklace of a machine -/
def neckB (m : M) (l : List UInt8) : Bool := decide (leastR l = l) && decide (0 ≤ ringL m l)
/-- CountNecklaces -/
def countNecks (m : M) (n : Int) : Int := if (m.ok && ringNum n) = true then cntOf (neckB m) (wordsL n.toNat) else -1
end Go.Proofs.Ytjdeahdngpccpaa

namespace Go.Proofs.Ytjdeahdngpccpaa

/-- a sum over words -/
def sumW (f : List UInt8 → Int) : List (List UInt8) → Int
  | [] => 0
  | w :: ws => f w + sumW f ws
theorem cntOf_sum (p : List UInt8 → Bool) (ws : List (List UInt8)) : cntOf p ws = sumW (fun w => if p w = true then 1 else 0) ws := by
  induction ws with
  | nil => rfl
  | cons w ws ih => rw [cntOf, sumW, ih]
theorem sumW_congr {f g : List UInt8 → Int} {ws : List (List UInt8)} (h : ∀ w ∈ ws, f w = g w) : sumW f ws = sumW g ws := by
  induction ws with
  | nil => rfl
  | cons w ws ih => rw [sumW, sumW, h w (by simp), ih (fun x hx => h x (by simp [hx]))]
/-- how many states a word leads back to themselves -/
def backAt (m : M) (l : List UInt8) (t : Nat) : Int := sumN (fun s => if m.goes (s : Int) l = (s : Int) then 1 else 0) t
/-- how many pairs of a word and a state lead back, of the first so many words -/
def backTo (m : M) (L way : Nat) : Int := sumN (fun v => backAt m (digits L v) m.ends.length) way
end Go.Proofs.Ytjdeahdngpccpaa

namespace Go.Proofs.Ytjdeahdngpccpaa
open Go.RowKit

/-- a letter by its number -/
def lettB (l : Nat) : UInt8 := if l = 0 then 114 else if l = 1 then 100 else 110
theorem letts_at (l : Nat) (h : l < 3) : (⟨#[114, 100, 110]⟩ : ByteArray).extract l (l + 1) = txtOf [lettB l] := by
  have : l = 0 ∨ l = 1 ∨ l = 2 := by omega
  rcases this with rfl | rfl | rfl <;> rfl
theorem letts_run (l : Nat) (li : Int) (h : l < 3) (e : li = (l : Int)) (w : World) :
    (Instr.slice 9 (.string ⟨#[114, 100, 110]⟩) (some (.int .i64 li)) (some (.int .i64 (li + 1))) none).run Try.prog w = .ok (.string (txtOf [lettB l])) w := by
  subst e
  have hs : (⟨#[114, 100, 110]⟩ : ByteArray).size = 3 := rfl
  have := run_slice_string (P := Try.prog) (w := w) 9 ⟨#[114, 100, 110]⟩ .i64 .i64 (l : Int) ((l : Int) + 1) Try.underlying9 (by omega) (by omega) (by rw [hs]; omega)
  rw [this, show ((l : Int) + 1).toNat = l + 1 from by omega, Int.toNat_natCast, letts_at l h]
theorem txt_more (w : List UInt8) (c : UInt8) : txtOf w ++ txtOf [c] = txtOf (w ++ [c]) := by
  apply bytes_ext
  rw [ByteArray.data_append, Array.toList_append, txtOf_list, txtOf_list, txtOf_list]
theorem digit_div (k way : Nat) : way / 3 ^ k / 3 = way / 3 ^ (k + 1) := by rw [Nat.div_div_eq_div_mul, Nat.pow_succ]
theorem digits_lett (k way : Nat) : digits (k + 1) way = digits k way ++ [lettB (way / 3 ^ k % 3)] := rfl
theorem pow3_big (r k : Nat) (h : k ≤ r) (hr : r ≤ 10) : 1 ≤ 3 ^ k ∧ 3 ^ k ≤ 3 ^ r ∧ 3 ^ r ≤ 59049 := by
  refine ⟨Nat.pow_pos (by omega), Nat.pow_le_pow_right (by omega) h, ?_⟩
  have := Nat.pow_le_pow_right (n := 3) (by omega) hr
  exact this
theorem txt_word10 {l : List UInt8} {n : Nat} (h : l.length = n) (ha : allL l = true) (hn : n ≤ 10) : wordOk (txtOf l) = true := by
  simp only [wordOk, Bool.and_eq_true, decide_eq_true_eq]
  rw [txtOf_list, txtOf_size]
  exact ⟨ha, by omega⟩
end Go.Proofs.Ytjdeahdngpccpaa

namespace Go.Proofs.Ytjdeahdngpccpaa

theorem words_first (k : Nat) (p : List UInt8 → Bool) : cntOf p (wordsL (k + 1)) = cntOf (fun w => p (114 :: w)) (wordsL k) + cntOf (fun w => p (100 :: w)) (wordsL k) + cntOf (fun w => p (110 :: w)) (wordsL k) := by
  induction k generalizing p with
  | zero => simp [wordsL, cntOf]; exact (Int.add_assoc _ _ _).symm
  | succ k ih =>
    have hf : ∀ j, wordsL (j + 1) = (wordsL j).flatMap fun w => [w ++ [114], w ++ [100], w ++ [110]] := fun j => rfl
    rw [hf (k + 1), cntOf_flat, ih, ih, ih, hf k, cntOf_flat, cntOf_flat, cntOf_flat]
    simp only [List.cons_append]
    omega
/-- the ways are the words that are taken from there -/
theorem ways_words (m : M) (k : Nat) (s : Int) : m.ways k s = cntOf (fun w => m.endAt (m.goes s w)) (wordsL k) := by
  induction k generalizing s with
  | zero => simp [M.ways_end, wordsL, cntOf, M.goes]; first | rfl | (split <;> rfl)
  | succ k ih =>
    have h1 : letterOf ((114 : UInt8).toNat : Int) = ((0 : Nat) : Int) := by decide
    have h2 : letterOf ((100 : UInt8).toNat : Int) = ((1 : Nat) : Int) := by decide
    have h3 : letterOf ((110 : UInt8).toNat : Int) = ((2 : Nat) : Int) := by decide
    rw [M.ways_succ, M.waysTo_succ, M.waysTo_succ, M.waysTo_succ, M.waysTo_zero, words_first, ih, ih, ih]
    simp only [M.goes, h1, h2, h3]
    omega
theorem cntOf_congr {p q : List UInt8 → Bool} {ws : List (List UInt8)} (h : ∀ w ∈ ws, p w = q w) : cntOf p ws = cntOf q ws := by
  rw [cntOf_sum, cntOf_sum]
  exact sumW_congr fun w hw => by rw [h w hw]
/-- .. by their language -/
theorem ways_lang (m : M) (k : Nat) : m.ways k 0 = cntOf (fun w => m.lang 0 (lettersF w)) (wordsL k) := by
  rw [ways_words]
  refine cntOf_congr fun w hw => ?_
  rw [M.lang, goes_walk m w (wordsL_mem k w hw).2]
theorem ways_same {m k : M} (h : k.lang 0 = m.lang 0) (n : Nat) : k.ways n 0 = m.ways n 0 := by rw [ways_lang, ways_lang, h]
theorem cntOf_not (p : List UInt8 → Bool) (ws : List (List UInt8)) : cntOf (fun w => !p w) ws + cntOf p ws = ws.length := by
  induction ws with
  | nil => rfl
  | cons w ws ih =>
    rw [cntOf, cntOf, List.length_cons]
    cases p w <;> simp <;> omega
/-- taken and not taken are all words -/
theorem ways_not {m k : M} (h : ∀ u, k.lang 0 u = !m.lang 0 u) (n : Nat) : k.ways n 0 + m.ways n 0 = ((3 ^ n : Nat) : Int) := by
  rw [ways_lang, ways_lang, ← wordsL_length n, ← cntOf_not (fun w => m.lang 0 (lettersF w)) (wordsL n)]
  congr 1
  exact cntOf_congr fun w _ => h _
/-- how many of the first so many words are taken -/
def takenTo (m : M) (L way : Nat) : Int := cntTo (fun v => m.endAt (m.goes 0 (digits L v))) way
theorem takenTo_all (m : M) (L : Nat) : takenTo m L (3 ^ L) = m.ways L 0 := by
  unfold takenTo
  rw [words_count L (fun w => m.endAt (m.goes 0 w)), ways_words]
end Go.Proofs.Ytjdeahdngpccpaa

namespace Go.Proofs.Ytjdeahdngpccpaa
open Go.RowKit

theorem infoIntW : (Try.prog.info? 3).map (fun i => (i.zero, i.size, i.bytes)) = some (some (.int .i64 0), 1, 8) := by kernel_rfl
theorem cellW (w : World) (u : Value) (t : TypeId) : ∀ j x, [u][j]? = some x → (w.alloc (.cells #[u] t)).cell? ((⟨w.heap.size, 0, none⟩ : Addr).add j) = some x := by
  intro j x hx
  rw [show (⟨w.heap.size, 0, none⟩ : Addr).add j = ⟨w.heap.size, j, none⟩ by unfold Addr.add; split <;> simp_all, World.cell?_alloc_new]
  simpa using hx
theorem M.waysRow_take (m : M) (r k : Nat) (h : k < m.ends.length) : (m.waysRow r).take (k + 1) = (m.waysRow r).take k ++ [m.ways r (k : Int)] := by
  rw [List.take_succ_eq_append_getElem (by rw [m.waysRow_length]; exact h), m.waysRow_at]
theorem M.waysRow_cell (m : M) (r t : Nat) (h : t < m.ends.length) : ((m.waysRow r).map (Value.int .i64))[t]? = some (.int .i64 (m.ways r (t : Int))) := by
  rw [List.getElem?_map, List.getElem?_eq_getElem (by rw [m.waysRow_length]; exact h), m.waysRow_at]; rfl
/-- a row of the first ways -/
def wT (m : M) (v : Value) (r k : Nat) : Thing := rowT 3 1 v k (((m.waysRow r).take k).map (Value.int .i64))
theorem wT_next (m : M) (v : Value) (r k : Nat) (h : k < m.ends.length) : wT m v r (k + 1) = rowT 3 1 v (k + 1) (((m.waysRow r).take k).map (Value.int .i64) ++ [.int .i64 (m.ways r (k : Int))]) := by
  rw [wT, m.waysRow_take r k h, List.map_append]; rfl
theorem wT_all (m : M) (v : Value) (r : Nat) : wT m v r m.ends.length = rowT 3 1 v m.ends.length ((m.waysRow r).map (Value.int .i64)) := by
  rw [wT, List.take_of_length_le (by rw [m.waysRow_length]; exact Nat.le_refl _)]

set_option maxHeartbeats 3200000 in
theorem l6Many_core (xs : List Int) (bs : List Bool) (nv ev : Value) (w : World) (h1 : IsInts w nv xs) (h2 : IsBools w ev bs) (hg : M.good ⟨(bs.length : Int), xs, bs⟩) (s r : Nat) (hs : s < bs.length) (hr : r ≤ 10) :
    Calls Try.prog 75 #[.agg #[.int .i64 (bs.length : Int), nv, ev], .int .i64 (s : Int), .int .i64 (r : Int)] w fun e w' => e = .returned (.int .i64 (M.ways ⟨(bs.length : Int), xs, bs⟩ r (s : Int))) ∧ Below w.heap.size w w' := by
  obtain ⟨i0, hi, hz0, hz1, hz2⟩ := info_parts infoIntW
  have HI := Lib.hid (And.intro hi (And.intro hz0 (And.intro hz1 hz2)))
  clear hi hz0 hz1 hz2
  have hsh := M.good_shape hg
  simp only at hsh
  obtain ⟨an, nn, cn, rfl⟩ := h1.slice
  obtain ⟨g1, off1, rfl, rfl, hcn, hcnm, hg1, hcellN⟩ := ints_cells h1 (by omega)
  obtain ⟨ae, ne, ce, rfl⟩ := h2.slice
  obtain ⟨g2, off2, rfl, rfl, hg2, hcellE⟩ := bools_cells3 h2 (by omega)
  unfold maxLen at hcnm
  have M0 := Lib.hid (MachBox.new (st := (bs.length : Int)) 26 h1 h2)
  have K0 := Lib.hid ((Below.refl w.heap.size w).alloc (Nat.le_refl _) (.cells #[.int .i64 (bs.length : Int), .slice (some ⟨g1, off1, none⟩) xs.length cn, .slice (some ⟨g2, off2, none⟩) bs.length ce] 26))
  have hx4 : xs.length ≤ 12000 := by omega
  have hb4 : bs.length ≤ 4000 := by omega
  have HL3 := Lib.hid hsh.2.2.1
  have HG := Lib.hid hg
  clear h1 h2 hcellN hcellE hsh hg
  go_enter Try.func75, Try.ntmps75
  go_upto_region 1 with fail
  generalize hW0 : (w.alloc (.cells #[.int .i64 (bs.length : Int), .slice (some ⟨g1, off1, none⟩) xs.length cn, .slice (some ⟨g2, off2, none⟩) bs.length ce] 26)) = W0 at *
  have HSZ : Hid (W0.heap.size = w.heap.size + 1) := by rw [← hW0]; exact Lib.hid (by simp)
  clear hW0
  generalize hR : w.heap.size = R at *
  have HR := Lib.hid hR
  clear hR
  generalize hm : (⟨(bs.length : Int), xs, bs⟩ : M) = m at *
  have HME : Hid (m.ends = bs) := by rw [← hm]; exact Lib.hid rfl
  have HMN : Hid (m.next = xs) := by rw [← hm]; exact Lib.hid rfl
  have HMS : Hid (m.st = (bs.length : Int)) := by rw [← hm]; exact Lib.hid rfl
  have HM := Lib.hid hm
  clear hm
  have AT : Hid (∀ W, Below W0.heap.size W0 W → W.cell? ⟨R, 0, none⟩ = some (.int .i64 (bs.length : Int)) ∧ W.cell? ⟨R, 1, none⟩ = some (.slice (some ⟨g1, off1, none⟩) xs.length cn) ∧ W.cell? ⟨R, 2, none⟩ = some (.slice (some ⟨g2, off2, none⟩) bs.length ce) ∧
      (∀ k (h : k < xs.length), W.cell? ⟨g1, off1 + k, none⟩ = some (.int .i64 xs[k])) ∧ (∀ k (h : k < bs.length), W.cell? ⟨g2, off2 + k, none⟩ = some (.bool bs[k]))) := Lib.hid (by
    intro W hW
    have M1 := M0.out.below hW
    obtain ⟨g, o, he, _, _, _, _, hc⟩ := ints_cells M1.ints (by have := HL3.out; omega)
    simp only [Option.some.injEq, Addr.mk.injEq, and_true] at he
    obtain ⟨rfl, rfl⟩ := he
    obtain ⟨g, o, he, _, _, hc2⟩ := bools_cells3 M1.bools (by omega)
    simp only [Option.some.injEq, Addr.mk.injEq, and_true] at he
    obtain ⟨rfl, rfl⟩ := he
    exact ⟨M1.c0, M1.c1, M1.c2, hc, hc2⟩)
  clear M0
  have O0 := Lib.hid ((Own.nil W0).lit 3 #[] 0 rfl (Nat.zero_le _))
  have HZ : Hid (W0.heap.size = W0.heap.size) := Lib.hid rfl
  go_wp2_with fail
  go_loopw [7, 8] (fun qv i wr => ∃ (k g c : Nat), k ≤ bs.length ∧ i = .int .i64 (k : Int) ∧ qv = .slice (some ⟨g, 0, none⟩) k c ∧ Own W0 [wT m (.slice (some ⟨g, 0, none⟩) k c) 0 k] wr) (fun _ i _ => bs.length - (intOf i).toNat)
  case atStart => exact ⟨0, _, 0, Nat.zero_le _, rfl, rfl, O0.out⟩
  case round =>
    obtain ⟨k, g, c, hk, rfl, rfl, hO⟩ := hrel
    have O1 := Lib.hid hO
    clear hO
    obtain ⟨m0, m1, m2, hcx, hcb⟩ := AT.out _ O1.out.keep
    by_cases hlt : k < bs.length
    · have hcell := hcb k hlt
      have hltI : (k : Int) < (bs.length : Int) := by omega
      have HW : Hid (m.ways 0 (k : Int) = if bs[k] = true then 1 else 0) := Lib.hid (by
        have h : m.endAt (k : Int) = bs[k] := by
          rw [M.endAt, if_neg (by omega), HME.out, Int.toNat_natCast, List.getD_eq_getElem?_getD, List.getElem?_eq_getElem hlt]; rfl
        rw [M.ways_end, h])
      have HNX := Lib.hid (fun v => wT_next m v 0 k (by rw [HME.out]; exact hlt))
      clear hcb hcx m1
      generalize bs[k] = b at *
      cases b with
      | true =>
        have HW2 : Hid (m.ways 0 (k : Int) = 1) := Lib.hid (by rw [HW.out]; rfl)
        go_wp2_with (at_builtin; refine wpList_append_lies _ rfl _ _ 23 rfl 0 3 i0 (.int .i64 0) 1 8 Try.underlying23 HI.out.1 HI.out.2.1 HI.out.2.2.1 HI.out.2.2.2 rfl (by decide) (.slice (some ⟨g, 0, none⟩) k c) k (((m.waysRow 0).take k).map (Value.int .i64)) rfl ((O1.out.row 0 (by simp) rfl).alloc _) ⟨wr.heap.size, 0, none⟩ 1 1 [.int .i64 1] rfl rfl (cellW _ _ _) (by simp [Value.oneCell']) (by omega) (by unfold maxLen; omega) (by omega) (Nat.zero_le _) _ rfl ?_; intro g9 cp w4 hown hgrow hat hlt3; have O2 := Lib.hid (O1.out.push (i := 0) (by simp) rfl hgrow hown hat); clear hown hgrow hat hlt3)
        go_roundw
        case rel => exact ⟨k + 1, g9, cp, by omega, by go_num, rfl, by rw [HNX.out, HW2.out]; exact O2.out⟩
        case measure => simp [intOf]; omega
      | false =>
        have HW2 : Hid (m.ways 0 (k : Int) = 0) := Lib.hid (by rw [HW.out]; rfl)
        go_wp2_with (at_builtin; refine wpList_append_lies _ rfl _ _ 23 rfl 0 3 i0 (.int .i64 0) 1 8 Try.underlying23 HI.out.1 HI.out.2.1 HI.out.2.2.1 HI.out.2.2.2 rfl (by decide) (.slice (some ⟨g, 0, none⟩) k c) k (((m.waysRow 0).take k).map (Value.int .i64)) rfl ((O1.out.row 0 (by simp) rfl).alloc _) ⟨wr.heap.size, 0, none⟩ 1 1 [.int .i64 0] rfl rfl (cellW _ _ _) (by simp [Value.oneCell']) (by omega) (by unfold maxLen; omega) (by omega) (Nat.zero_le _) _ rfl ?_; intro g9 cp w4 hown hgrow hat hlt3; have O2 := Lib.hid (O1.out.push (i := 0) (by simp) rfl hgrow hown hat); clear hown hgrow hat hlt3)
        go_roundw
        case rel => exact ⟨k + 1, g9, cp, by omega, by go_num, rfl, by rw [HNX.out, HW2.out]; exact O2.out⟩
        case measure => simp [intOf]; omega
    · obtain rfl : k = bs.length := by omega
      clear hcx hcb m1 m2
      go_wp2_with fail
      clear m0
      go_loopw [7, 10] (fun qv i wr => ∃ (n g c : Nat), n ≤ r ∧ i = .int .i64 (n : Int) ∧ qv = .slice (some ⟨g, 0, none⟩) bs.length c ∧ Own W0 [wT m (.slice (some ⟨g, 0, none⟩) bs.length c) n bs.length] wr) (fun _ i _ => r - (intOf i).toNat)
      case atStart => exact ⟨0, g, c, Nat.zero_le _, rfl, rfl, O1.out⟩
      case round =>
        obtain ⟨n, g5, c5, hn, rfl, rfl, hO⟩ := hrel
        have O3 := Lib.hid hO
        clear hO O1
        by_cases hlt2 : n < r
        · have hlt2I : (n : Int) < (r : Int) := by omega
          have O4 := Lib.hid (O3.out.lit 3 #[] 0 rfl (Nat.zero_le _))
          go_wp2_with fail
          go_loopw [11, 12] (fun qv i wr2 => ∃ (k g7 c7 : Nat), k ≤ bs.length ∧ i = .int .i64 (k : Int) ∧ qv = .slice (some ⟨g7, 0, none⟩) k c7 ∧ Own W0 [wT m (.slice (some ⟨g7, 0, none⟩) k c7) (n + 1) k, wT m (.slice (some ⟨g5, 0, none⟩) bs.length c5) n bs.length] wr2) (fun _ i _ => bs.length - (intOf i).toNat)
          case atStart => exact ⟨0, _, 0, Nat.zero_le _, rfl, rfl, O4.out⟩
          case round =>
            obtain ⟨k, g7, c7, hk7, rfl, rfl, hO⟩ := hrel
            have O5 := Lib.hid hO
            clear hO
            obtain ⟨m0, m1, m2, hcx, hcb⟩ := AT.out _ O5.out.keep
            by_cases hlt7 : k < bs.length
            · have hltI : (k : Int) < (bs.length : Int) := by omega
              have HNX := Lib.hid (fun v => wT_next m v (n + 1) k (by rw [HME.out]; exact hlt7))
              have HWS := Lib.hid (m.ways_succ n (k : Int))
              have hbw := m.waysTo_bd n (k : Int) 3 (by omega) (by omega)
              clear hcx hcb m1 m2
              go_wp2_with fail
              clear m0
              go_loopw [13, 14] (fun sv i wr3 => ∃ (l : Nat), l ≤ 3 ∧ i = .int .i64 (l : Int) ∧ sv = .int .i64 (m.waysTo n (k : Int) l) ∧ wr3 = wr) (fun _ i _ => 3 - (intOf i).toNat)
              case atStart => exact ⟨0, Nat.zero_le _, rfl, rfl, rfl⟩
              case round =>
                obtain ⟨l, hl, rfl, rfl, rfl⟩ := hrel
                by_cases hl3 : l < 3
                · obtain ⟨m0, m1, m2, hcx, hcb⟩ := AT.out _ O5.out.keep
                  have hx3 := HL3.out
                  have hil : 3 * k + l < xs.length := by omega
                  have hcell := hcx (3 * k + l) hil
                  have hnx : m.nx (k : Int) (l : Int) = xs[3 * k + l] := by
                    rw [M.nx, if_neg (by omega), show (3 * (k : Int) + (l : Int)).toNat = 3 * k + l by omega, HMN.out, List.getD_eq_getElem?_getD, List.getElem?_eq_getElem hil]; rfl
                  have hnb : -1 ≤ xs[3 * k + l] ∧ xs[3 * k + l] ≤ (bs.length : Int) - 1 := by
                    have h := HG.out.nxt (3 * k + l) (by rw [HMN.out]; exact hil)
                    rw [HMS.out] at h
                    simp only [HMN.out] at h
                    exact h
                  have HST := Lib.hid (m.waysTo_succ n (k : Int) l)
                  have hb1 := m.waysTo_bd n (k : Int) l hl (by omega)
                  have hq1 : IntKind.i64.wrap (3 * (k : Int)) = 3 * (k : Int) := IntWalk.i64_in _ (by omega)
                  have hq2 : IntKind.i64.wrap (3 * (k : Int) + (l : Int)) = 3 * (k : Int) + (l : Int) := IntWalk.i64_in _ (by omega)
                  have hq3 : 3 * (k : Int) + (l : Int) = ((3 * k + l : Nat) : Int) := by omega
                  rw [hnx] at HST
                  clear hcx hcb m2 hnx hx3
                  generalize 3 * k + l = i at *
                  generalize xs[i] = y at *
                  by_cases hy : y < 0
                  · have hz := m.ways_lt n y hy
                    have HS2 : Hid (m.waysTo n (k : Int) (l + 1) = m.waysTo n (k : Int) l) := Lib.hid (by rw [HST.out, hz]; omega)
                    clear hz HST
                    generalize m.waysTo n (k : Int) l = S at *
                    go_wp2_with fail
                    go_roundw
                    case rel => exact ⟨l + 1, by omega, by go_num, by rw [HS2.out], by trivial⟩
                    case measure => simp [intOf]; omega
                  · obtain ⟨t, rfl⟩ := Int.eq_ofNat_of_zero_le (show 0 ≤ y by omega)
                    have htl : t < bs.length := by omega
                    have hrow := O5.out.row 1 (by simp) (show _ = rowT 3 1 (.slice (some ⟨g5, 0, none⟩) bs.length c5) bs.length ((m.waysRow n).map (Value.int .i64)) from by
                      have := wT_all m (.slice (some ⟨g5, 0, none⟩) bs.length c5) n
                      rw [HME.out] at this; exact this)
                    have hnow := (World.ownsRow.cellAt hrow t (by omega)).trans (m.waysRow_cell n t (by rw [HME.out]; exact htl))
                    have hb3 := m.ways_bd n (t : Int) (by omega)
                    have hsum : IntKind.i64.wrap (m.waysTo n (k : Int) l + m.ways n (t : Int)) = m.waysTo n (k : Int) l + m.ways n (t : Int) := IntWalk.i64_in _ (by omega)
                    clear hrow
                    generalize m.waysTo n (k : Int) l = S at *
                    generalize m.ways n (t : Int) = x at *
                    go_wp2_with fail
                    go_roundw
                    case rel => exact ⟨l + 1, by omega, by go_num, by rw [HST.out], by trivial⟩
                    case measure => simp [intOf]; omega
                · obtain rfl : l = 3 := by omega
                  generalize hS : m.waysTo n (k : Int) 3 = S at *
                  go_wp2_with (at_builtin; refine wpList_append_lies _ rfl _ _ 23 rfl 0 3 i0 (.int .i64 0) 1 8 Try.underlying23 HI.out.1 HI.out.2.1 HI.out.2.2.1 HI.out.2.2.2 rfl (by decide) (.slice (some ⟨g7, 0, none⟩) k c7) k (((m.waysRow (n + 1)).take k).map (Value.int .i64)) rfl ((O5.out.row 0 (by simp) rfl).alloc _) ⟨wr.heap.size, 0, none⟩ 1 1 [.int .i64 S] rfl rfl (cellW _ _ _) (by simp [Value.oneCell']) (by omega) (by unfold maxLen; omega) (by omega) (Nat.zero_le _) _ rfl ?_; intro g9 cp w4 hown hgrow hat hlt3; have O6 := Lib.hid (O5.out.push (i := 0) (by simp) rfl hgrow hown hat); clear hown hgrow hat hlt3)
                  go_roundw
                  case rel => exact ⟨k + 1, g9, cp, by omega, by go_num, rfl, by rw [HNX.out, HWS.out]; exact O6.out⟩
                  case measure => simp [intOf]; omega
            · obtain rfl : k = bs.length := by omega
              clear hcx hcb m1 m2
              go_wp2_with fail
              go_roundw
              case rel => exact ⟨n + 1, g7, c7, by omega, by go_num, rfl, O5.out.sub (List.Sublist.cons_cons _ (List.nil_sublist _))⟩
              case measure => simp [intOf]; omega
        · obtain rfl : n = r := by omega
          have hrow := O3.out.row 0 (by simp) (show _ = rowT 3 1 (.slice (some ⟨g5, 0, none⟩) bs.length c5) bs.length ((m.waysRow n).map (Value.int .i64)) from by
            have := wT_all m (.slice (some ⟨g5, 0, none⟩) bs.length c5) n
            rw [HME.out] at this; exact this)
          have hnow := (World.ownsRow.cellAt hrow s (by omega)).trans (m.waysRow_cell n s (by rw [HME.out]; exact hs))
          have Q := Lib.hid (K0.out.trans (O3.out.keep.mono (by rw [HSZ.out]; omega)))
          clear hrow
          generalize hx : m.ways n (s : Int) = x at *
          have HX := Lib.hid hx
          clear hx
          go_wp2_with fail
          go_ret
          exact ⟨ret_int (by rw [HM.out]; exact HX.out.symm), by rw [HR.out]; exact Q.out⟩
theorem l6Many_any (m : M) (s : Int) (r : Nat) (nv ev : Value) (w : World) (h1 : IsInts w nv m.next) (h2 : IsBools w ev m.ends) (hg : m.good) (s0 : 0 ≤ s) (s1 : s < m.st) (hr : r ≤ 10) :
    Calls Try.prog 75 #[.agg #[.int .i64 m.st, nv, ev], .int .i64 s, .int .i64 (r : Int)] w fun e w' => e = .returned (.int .i64 (m.ways r s)) ∧ Below w.heap.size w w' := by
  obtain ⟨st, xs, bs⟩ := m
  obtain ⟨j, rfl⟩ := Int.eq_ofNat_of_zero_le s0
  obtain rfl : st = (bs.length : Int) := hg.le.symm
  exact l6Many_core xs bs nv ev w h1 h2 hg j r (by simp only at s1; omega) hr
end Go.Proofs.Ytjdeahdngpccpaa

namespace Go.Proofs.Ytjdeahdngpccpaa
open Go.RowKit

/-- a block that holds a machine with a table -/
structure CtBox (B : Nat) (m : M) (N : Nat) (nv ev tv : Value) (w : World) : Prop where
  hB : B < w.heap.size
  c0 : w.cell? ⟨B, 0, none⟩ = some (.int .i64 m.st)
  c1 : w.cell? ⟨B, 1, none⟩ = some nv
  c2 : w.cell? ⟨B, 2, none⟩ = some ev
  c3 : w.cell? ⟨B, 3, none⟩ = some tv
  ints : IsInts w nv m.next
  tab : IsTab w tv m N
theorem CtBox.below {B : Nat} {m : M} {N : Nat} {nv ev tv : Value} {w w' : World} (h : CtBox B m N nv ev tv w) (hb : Below w.heap.size w w') : CtBox B m N nv ev tv w' :=
  ⟨Nat.lt_of_lt_of_le h.hB hb.size, (hb.cell (p := ⟨B, 0, none⟩) h.hB).trans h.c0, (hb.cell (p := ⟨B, 1, none⟩) h.hB).trans h.c1, (hb.cell (p := ⟨B, 2, none⟩) h.hB).trans h.c2, (hb.cell (p := ⟨B, 3, none⟩) h.hB).trans h.c3, h.ints.below hb, h.tab.below hb⟩
theorem CtBox.new {m : M} {N : Nat} {nv ev tv : Value} {w : World} (t : TypeId) (h1 : IsInts w nv m.next) (h2 : IsTab w tv m N) : CtBox w.heap.size m N nv ev tv (w.alloc (.cells #[.int .i64 m.st, nv, ev, tv] t)) :=
  ⟨by simp, World.cell?_alloc_new w _ _ 0, World.cell?_alloc_new w _ _ 1, World.cell?_alloc_new w _ _ 2, World.cell?_alloc_new w _ _ 3, h1.below ((Below.refl _ _).alloc (Nat.le_refl _) _), h2.alloc _⟩

set_option maxHeartbeats 800000 in
theorem implWays_any (m : M) (N k : Nat) (s : Int) (nv ev tv : Value) (w : World) (ht : IsTab w tv m N) (hm : m.good) (s0 : -1 ≤ s) (s1 : s < m.st) (hk : k ≤ N) :
    Calls Try.prog 74 #[.agg #[.int .i64 m.st, nv, ev, tv], .int .i64 s, .int .i64 (k : Int)] w fun e w' => e = .returned (.int .i64 (m.ways k s)) ∧ Below w.heap.size w w' := by
  by_cases hs : s = -1
  · subst hs
    have HN := Lib.hid (m.ways_lt k (-1) (by omega))
    clear ht hm
    go_enter Try.func74, Try.ntmps74
    go_wp2_with fail
    go_ret
    exact ⟨ret_int HN.out.symm, (Below.refl _ _).alloc (Nat.le_refl _) _⟩
  · obtain ⟨j, rfl⟩ := Int.eq_ofNat_of_zero_le (show 0 ≤ s by omega)
    have hsh := M.good_shape hm
    have hj : j < m.ends.length := by omega
    obtain ⟨g, off, cap, rfl, h1, h2, h3, h4⟩ := ht
    obtain ⟨rv, hr1, hr2⟩ := h4 k hk
    obtain ⟨ra, rn, rc, rfl⟩ := hr2.slice
    obtain ⟨gr, ofr, rfl, rfl, hc1, hc2, hgr, hcell⟩ := ints_cells hr2 (by rw [m.waysRow_length]; omega)
    replace hcell := hcell j (by rw [m.waysRow_length]; exact hj)
    rw [m.waysRow_at] at hcell
    have hrl := m.waysRow_length k
    unfold maxLen at h2 hc2
    have hjl : j < (m.waysRow k).length := by omega
    have hb1 : ((j : Int) == -1) = false := by simp
    clear hsh hm h4 hr2 hrl
    generalize (m.waysRow k).length = n at *
    generalize m.ways k (j : Int) = x at *
    go_enter Try.func74, Try.ntmps74
    go_wp2_with fail
    go_ret
    exact ⟨rfl, (Below.refl _ _).alloc (Nat.le_refl _) _⟩

set_option maxHeartbeats 1600000 in
theorem implWaysBy_any (m : M) (N k : Nat) (s left l : Int) (nv ev tv : Value) (w : World) (hi : IsInts w nv m.next) (ht : IsTab w tv m N) (hm : m.ok = true) (s0 : -1 ≤ s) (s1 : s < m.st) (l0 : 0 ≤ l) (l1 : l ≤ 2) (hl : left = (k : Int) + 1) (hk : k ≤ N) (hN : N ≤ 10) :
    Calls Try.prog 87 #[.agg #[.int .i64 m.st, nv, ev, tv], .int .i64 s, .int .i64 left, .int .i64 l] w fun e w' => e = .returned (.int .i64 (m.ways k (m.nx s l))) ∧ Below w.heap.size w w' := by
  have X0 := Lib.hid (CtBox.new (ev := ev) 77 hi ht)
  have q0 : Hid (Below w.heap.size w (w.alloc (.cells #[.int .i64 m.st, nv, ev, tv] 77))) := Lib.hid ((Below.refl _ _).alloc (Nat.le_refl _) _)
  have hw : IntKind.i64.wrap (left - 1) = (k : Int) := by rw [IntWalk.i64_in _ (by omega)]; omega
  have HC1 := Lib.hid (fun W a => implNextOf_any m s l nv ev W a hm s0 s1 l0 l1)
  have hnb := M.nx_bd hm s l s1 l0 l1
  have HC2 := Lib.hid (fun W a => implWays_any m N k (m.nx s l) nv ev tv W a (M.ok_good hm) hnb.1 hnb.2 hk)
  have c0 := X0.out.c0
  have c1 := X0.out.c1
  have c2 := X0.out.c2
  have c3 := X0.out.c3
  generalize m.ways k (m.nx s l) = x at *
  generalize m.nx s l = t at *
  clear hi ht hm hl hnb
  go_enter Try.func87, Try.ntmps87
  go_upto_region 1 with fail
  generalize (w.alloc (.cells #[.int .i64 m.st, nv, ev, tv] 77)) = W0 at *
  generalize hR : w.heap.size = R at *
  have HR := Lib.hid hR
  clear hR
  have X0d := Lib.hid (X0.out.below (Below.refl _ _).drew)
  go_region_with (first | (go_at_call 78; refine (HC1.out _ X0d.out.ints).mono ?_; rintro e w1 ⟨rfl, hb1⟩; have X1 := X0d.out.below hb1; have d0 := X1.c0; have d1 := X1.c1; have d2 := X1.c2; have d3 := X1.c3) | (go_at_call 74; refine (HC2.out _ X1.tab).mono ?_; rintro e w2 ⟨rfl, hb2⟩))
  all_goals
    go_wp2
    go_ret
    have hs0 : R ≤ W0.heap.size := by rw [← HR.out]; exact q0.out.size
    have q1 := q0.out.drew.trans (hb1.mono hs0)
    rw [HR.out]
    exact ⟨rfl, q1.trans (hb2.mono (by rw [← HR.out]; exact q1.size))⟩
end Go.Proofs.Ytjdeahdngpccpaa

namespace Go.Proofs.Ytjdeahdngpccpaa
open Go.RowKit

theorem infoSlW : (Try.prog.info? 23).map (fun i => (i.zero, i.size, i.bytes)) = some (some (.slice none 0 0), 1, 24) := by kernel_rfl
/-- the row of ends, the first ones told -/
def M.endRow (m : M) (k : Nat) : List Int := (List.range m.ends.length).map fun (s : Nat) => if s < k then m.ways 0 (s : Int) else 0
/-- a row of ways, the first ones told, and the first letters of one -/
def M.midRow (m : M) (n k l : Nat) : List Int := (List.range m.ends.length).map fun (s : Nat) => if s < k then m.ways (n + 1) (s : Int) else if s = k then m.waysTo n (s : Int) l else 0
theorem M.endRow_zero (m : M) : m.endRow 0 = List.replicate m.ends.length 0 := by
  apply List.ext_getElem
  · simp [M.endRow]
  · intro i h1 h2; simp [M.endRow]
theorem M.endRow_length (m : M) (k : Nat) : (m.endRow k).length = m.ends.length := by simp [M.endRow]
theorem M.endRow_all (m : M) : m.endRow m.ends.length = m.waysRow 0 := by
  apply List.ext_getElem
  · simp [M.endRow, M.waysRow]
  · intro i h1 h2
    rw [M.endRow_length] at h1
    simp [M.endRow, M.waysRow, h1]
theorem M.endRow_no {m : M} {k : Nat} (h : m.ways 0 (k : Int) = 0) : m.endRow (k + 1) = m.endRow k := by
  apply List.ext_getElem
  · simp [M.endRow]
  · intro i h1 h2
    simp only [M.endRow, List.getElem_map, List.getElem_range]
    by_cases e : i = k
    · subst e; rw [if_pos (by omega), if_neg (by omega), h]
    · by_cases g : i < k
      · rw [if_pos (by omega), if_pos g]
      · rw [if_neg (by omega), if_neg g]
theorem M.endRow_yes {m : M} {k : Nat} (h : m.ways 0 (k : Int) = 1) : m.endRow (k + 1) = (m.endRow k).set k 1 := by
  apply List.ext_getElem
  · simp [M.endRow]
  · intro i h1 h2
    rw [List.getElem_set]
    simp only [M.endRow, List.getElem_map, List.getElem_range]
    by_cases e : k = i
    · subst e; rw [if_pos rfl, if_pos (Nat.lt_succ_self _), h]
    · rw [if_neg e]
      by_cases g : i < k
      · rw [if_pos g, if_pos (by omega)]
      · rw [if_neg g, if_neg (by omega)]
theorem M.midRow_length (m : M) (n k l : Nat) : (m.midRow n k l).length = m.ends.length := by simp [M.midRow]
theorem M.midRow_zero (m : M) (n : Nat) : m.midRow n 0 0 = List.replicate m.ends.length 0 := by
  apply List.ext_getElem
  · simp [M.midRow]
  · intro i h1 h2
    simp only [M.midRow, List.getElem_map, List.getElem_range, List.getElem_replicate]
    rw [if_neg (by omega)]
    split
    · rfl
    · rfl
theorem M.midRow_all (m : M) (n : Nat) : m.midRow n m.ends.length 0 = m.waysRow (n + 1) := by
  apply List.ext_getElem
  · simp [M.midRow, M.waysRow]
  · intro i h1 h2
    rw [M.midRow_length] at h1
    simp [M.midRow, M.waysRow, h1]
theorem M.midRow_next (m : M) (n k : Nat) : m.midRow n k 3 = m.midRow n (k + 1) 0 := by
  apply List.ext_getElem
  · simp [M.midRow]
  · intro i h1 h2
    simp only [M.midRow, List.getElem_map, List.getElem_range]
    by_cases g : i < k
    · rw [if_pos g, if_pos (by omega)]
    · rw [if_neg g]
      by_cases e : i = k
      · subst e; rw [if_pos rfl, if_pos (by omega), m.ways_succ]
      · rw [if_neg e, if_neg (by omega)]
        split
        · rfl
        · rfl
theorem M.midRow_set (m : M) (n k l : Nat) : m.midRow n k (l + 1) = (m.midRow n k l).set k (m.waysTo n (k : Int) (l + 1)) := by
  apply List.ext_getElem
  · simp [M.midRow]
  · intro i h1 h2
    rw [List.getElem_set]
    simp only [M.midRow, List.getElem_map, List.getElem_range]
    by_cases e : k = i
    · subst e; rw [if_pos rfl, if_neg (Nat.lt_irrefl _), if_pos rfl]
    · rw [if_neg e]
      have e2 : ¬ i = k := fun h => e h.symm
      rw [if_neg e2, if_neg e2]
theorem M.midRow_at (m : M) (n k l : Nat) (h : k < m.ends.length) : ((m.midRow n k l).map (Value.int .i64))[k]? = some (.int .i64 (m.waysTo n (k : Int) l)) := by
  rw [List.getElem?_map, List.getElem?_eq_getElem (by rw [m.midRow_length]; exact h)]
  simp [M.midRow]

set_option maxHeartbeats 3200000 in
theorem implCounts_core (xs : List Int) (bs : List Bool) (nv ev : Value) (w : World) (h1 : IsInts w nv xs) (h2 : IsBools w ev bs) (hg : M.ok ⟨(bs.length : Int), xs, bs⟩ = true) (N : Nat) (hN : N ≤ 10) :
    Calls Try.prog 73 #[.agg #[.int .i64 (bs.length : Int), nv, ev], .int .i64 (N : Int)] w fun e w' => ∃ tv, e = .returned (.agg #[.int .i64 (bs.length : Int), nv, ev, tv]) ∧ IsTab w' tv ⟨(bs.length : Int), xs, bs⟩ N ∧ Below w.heap.size w w' := by
  obtain ⟨i0, hi, hz0, hz1, hz2⟩ := info_parts infoIntW
  obtain ⟨s0, hs, hy0, hy1, hy2⟩ := info_parts infoSlW
  have hsh := M.ok_shape hg
  simp only at hsh
  have HI := Lib.hid (And.intro hi (And.intro hz0 (And.intro hz1 hz2)))
  have HMK := Lib.hid (show i0.bytes * bs.length ≤ 281474976710656 by rw [hz2]; omega)
  have HJ := Lib.hid (And.intro hs (And.intro hy0 (And.intro hy1 hy2)))
  clear hi hz0 hz1 hz2 hs hy0 hy1 hy2
  have HI1 := Lib.hid h1
  obtain ⟨an, nn, cn, rfl⟩ := h1.slice
  obtain ⟨ae, ne, ce, rfl⟩ := h2.slice
  obtain ⟨g2, off2, rfl, rfl, hg2, hcellE⟩ := bools_cells3 h2 (by omega)
  have M0 := Lib.hid (MachBox.new (st := (bs.length : Int)) 26 h1 h2)
  have K0 := Lib.hid ((Below.refl w.heap.size w).alloc (Nat.le_refl _) (.cells #[.int .i64 (bs.length : Int), .slice an nn cn, .slice (some ⟨g2, off2, none⟩) bs.length ce] 26))
  have hb4 : bs.length ≤ 48 := by omega
  have HL3 := Lib.hid hsh
  have HG := Lib.hid hg
  clear h1 h2 hcellE hsh hg
  have y0 := M0.out.c0
  have y1 := M0.out.c1
  have y2 := M0.out.c2
  go_enter Try.func73, Try.ntmps73
  go_upto_region 2 with fail
  generalize hW0 : (w.alloc (.cells #[.int .i64 (bs.length : Int), .slice an nn cn, .slice (some ⟨g2, off2, none⟩) bs.length ce] 26)) = W0 at *
  have hsz : W0.heap.size = w.heap.size + 1 := by rw [← hW0]; simp
  clear hW0
  have O0 := ((Own.nil W0).box #[.int .i64 0, .slice none 0 0, .slice none 0 0, .slice none 0 0] 77).box #[.int .i64 (bs.length : Int), .slice an nn cn, .slice (some ⟨g2, off2, none⟩) bs.length ce, .slice none 0 0] 77
  rw [World.size_alloc, hsz] at O0
  have HSZ := Lib.hid (show w.heap.size ≤ W0.heap.size by omega)
  have K0 := Lib.hid K0.out
  clear hsz
  generalize hR2 : w.heap.size + 1 + 1 = R2 at *
  clear hR2
  generalize hR1 : w.heap.size + 1 = R1 at *
  clear hR1
  generalize hR : w.heap.size = R at *
  have HR := Lib.hid hR
  clear hR
  generalize ((W0.alloc (.cells #[.int .i64 0, .slice none 0 0, .slice none 0 0, .slice none 0 0] 77)).alloc (.cells #[.int .i64 (bs.length : Int), .slice an nn cn, .slice (some ⟨g2, off2, none⟩) bs.length ce, .slice none 0 0] 77)) = W1 at *
  generalize hm : (⟨(bs.length : Int), xs, bs⟩ : M) = m at *
  have HME : Hid (m.ends = bs) := by rw [← hm]; exact Lib.hid rfl
  have HMN : Hid (m.next = xs) := by rw [← hm]; exact Lib.hid rfl
  have HMS : Hid (m.st = (bs.length : Int)) := by rw [← hm]; exact Lib.hid rfl
  have HM := Lib.hid hm
  clear hm
  have AT : Hid (∀ W, Below W0.heap.size W0 W → W.cell? ⟨R, 0, none⟩ = some (.int .i64 (bs.length : Int)) ∧ W.cell? ⟨R, 1, none⟩ = some (.slice an nn cn) ∧ W.cell? ⟨R, 2, none⟩ = some (.slice (some ⟨g2, off2, none⟩) bs.length ce) ∧
      IsInts W (.slice an nn cn) xs ∧ (∀ k (h : k < bs.length), W.cell? ⟨g2, off2 + k, none⟩ = some (.bool bs[k]))) := Lib.hid (by
    intro W hW
    have M1 := M0.out.below hW
    obtain ⟨g, o, he, _, _, hc2⟩ := bools_cells3 M1.bools (by have := HL3.out; omega)
    simp only [Option.some.injEq, Addr.mk.injEq, and_true] at he
    obtain ⟨rfl, rfl⟩ := he
    exact ⟨M1.c0, M1.c1, M1.c2, M1.ints, hc2⟩)
  clear M0 y0 y1 y2
  have O1 := Lib.hid O0
  clear O0
  obtain ⟨y0, y1, y2, -, -⟩ := AT.out _ O1.out.keep
  go_wp2_with (at_make; refine wpList_make_full _ rfl _ _ 23 rfl 0 3 i0 (.int .i64 0) 1 Try.underlying23 HI.out.1 HI.out.2.1 HI.out.2.2.1 .i64 .i64 _ _ bs.length rfl rfl rfl rfl HMK.out (by unfold maxLen; omega) (Nat.zero_le _) ?_; intro w3 hown3 hgrow3; have O2 := Lib.hid (Own.new O1.out hgrow3 hown3); obtain ⟨z0, z1, z2, -, -⟩ := AT.out _ O2.out.keep; clear hown3 hgrow3)
  have hmade : (madeCells (Value.int .i64 0).cells (bs.length * 1)).toList = (m.endRow 0).map (Value.int .i64) := by
    rw [Nat.mul_one, m.endRow_zero, HME.out, List.map_replicate]; exact toList_madeCells_one _ _
  rw [hmade] at O2
  clear hmade z0 z1 z2 y0 y1 y2 O1
  generalize W1.heap.size = G at *
  go_loopw [21] (fun i wr => ∃ k : Nat, k ≤ bs.length ∧ i = .int .i64 (k : Int) ∧ Own W0 [rowT 3 1 (.slice (some ⟨G, 0, none⟩) bs.length bs.length) bs.length ((m.endRow k).map (Value.int .i64)),
    cellsT R2 #[.int .i64 (bs.length : Int), .slice an nn cn, .slice (some ⟨g2, off2, none⟩) bs.length ce, .slice none 0 0] 77, cellsT R1 #[.int .i64 0, .slice none 0 0, .slice none 0 0, .slice none 0 0] 77] wr) (fun i _ => bs.length - (intOf i).toNat)
  case atStart => exact ⟨0, Nat.zero_le _, rfl, O2.out⟩
  case round =>
    obtain ⟨k, hk, rfl, hO⟩ := hrel
    have O3 := Lib.hid hO
    clear hO O2
    by_cases hlt : k < bs.length
    · obtain ⟨-, -, -, -, hcb⟩ := AT.out _ O3.out.keep
      have hcell := hcb k hlt
      have hltI : (k : Int) < (bs.length : Int) := by omega
      have HW : Hid (m.ways 0 (k : Int) = if bs[k] = true then 1 else 0) := Lib.hid (by
        have h : m.endAt (k : Int) = bs[k] := by
          rw [M.endAt, if_neg (by omega), HME.out, Int.toNat_natCast, List.getD_eq_getElem?_getD, List.getElem?_eq_getElem hlt]; rfl
        rw [M.ways_end, h])
      clear hcb
      generalize bs[k] = b at *
      cases b with
      | true =>
        have HW2 : Hid (m.endRow (k + 1) = (m.endRow k).set k 1) := Lib.hid (M.endRow_yes (by rw [HW.out]; rfl))
        have hrow := O3.out.row 0 (by simp) rfl
        have hfr := World.ownsRow.frozenAt hrow k
        have hold : ∃ u, wr.cell? ⟨G, k, none⟩ = some u := ⟨_, (World.ownsRow.cellAt hrow k (by omega)).trans (by rw [List.getElem?_map, List.getElem?_eq_getElem (by rw [m.endRow_length, HME.out]; exact hlt)]; rfl)⟩
        obtain ⟨u0, hold⟩ := hold
        have O4 := Lib.hid (O3.out.store (i := 0) (by simp) rfl k (.int .i64 1))
        clear hrow HW
        go_wp2_with fail
        go_roundw
        case rel => exact ⟨k + 1, by omega, by go_num, by rw [HW2.out, List.map_set]; exact O4.out⟩
        case measure => simp [intOf]; omega
      | false =>
        have HW2 : Hid (m.endRow (k + 1) = m.endRow k) := Lib.hid (M.endRow_no (by rw [HW.out]; rfl))
        clear HW
        go_wp2_with fail
        go_roundw
        case rel => exact ⟨k + 1, by omega, by go_num, by rw [HW2.out]; exact O3.out⟩
        case measure => simp [intOf]; omega
    · obtain rfl : k = bs.length := by omega
      have hend : m.endRow bs.length = m.waysRow 0 := by rw [← HME.out]; exact m.endRow_all
      rw [hend] at O3
      clear hend
      have O4 := Lib.hid (O3.out.idle 23)
      have c3 := cellsT_cell (O4.out.cells 2 (by simp) rfl) 3
      simp only [List.getElem?_toArray, List.getElem?_cons_succ, List.getElem?_cons_zero] at c3
      go_wp2_with (at_builtin; refine wpList_append_lies _ rfl _ _ 75 rfl 0 23 s0 (.slice none 0 0) 1 24 Try.underlying75 HJ.out.1 HJ.out.2.1 HJ.out.2.2.1 HJ.out.2.2.2 rfl (by decide) (.slice none 0 0) 0 [] rfl ((O4.out.row 0 (by simp) rfl).alloc _) ⟨wr.heap.size, 0, none⟩ 1 1 [.slice (some ⟨G, 0, none⟩) bs.length bs.length] rfl rfl (cellW _ _ _) (by simp [Value.oneCell']) (by omega) (by unfold maxLen; omega) (by omega) (Nat.zero_le _) _ rfl ?_; intro g9 cp w4 hown hgrow hat hlt3; have O5 := Lib.hid (O4.out.push (i := 0) (by simp) rfl hgrow hown hat); have c4 := cellsT_cell (O5.out.cells 2 (by simp) rfl) 3; have f4 := cellsT_frozen (O5.out.cells 2 (by simp) rfl) 3; simp only [List.getElem?_toArray, List.getElem?_cons_succ, List.getElem?_cons_zero] at c4; clear hown hgrow hat hlt3)
      have O6 := Lib.hid (O5.out.put (i := 2) (by simp) rfl 3 (.slice (some ⟨g9, 0, none⟩) 1 cp))
      have O7 : Hid (Own W0 (cellsT R2 #[.int .i64 (bs.length : Int), .slice an nn cn, .slice (some ⟨g2, off2, none⟩) bs.length ce, .slice (some ⟨g9, 0, none⟩) (0 + 1) cp] 77 :: rowT 23 1 (.slice (some ⟨g9, 0, none⟩) (0 + 1) cp) (0 + 1) [.slice (some ⟨G, 0, none⟩) bs.length bs.length] :: cellsT R1 #[.int .i64 0, .slice none 0 0, .slice none 0 0, .slice none 0 0] 77 :: [inn (.slice (some ⟨G, 0, none⟩) bs.length bs.length, m.waysRow 0)]) (w4.setCell ⟨R2, 3, none⟩ (.slice (some ⟨g9, 0, none⟩) 1 cp))) := Lib.hid (by
        have h := O6.out
        have hi : inn (.slice (some ⟨G, 0, none⟩) bs.length bs.length, m.waysRow 0) = rowT 3 1 (.slice (some ⟨G, 0, none⟩) bs.length bs.length) bs.length ((m.waysRow 0).map (Value.int .i64)) := by unfold inn; rw [m.waysRow_length, HME.out]
        rw [hi]
        refine h.perm ?_
        have p : ∀ (a b c d : Thing), [a, b, c, d].Perm [c, a, d, b] := fun a b c d => by
          have h1 : [a, b, c, d].Perm (c :: [a, b, d]) := List.perm_middle (l₁ := [a, b]) (l₂ := [d])
          exact h1.trans (((List.Perm.swap d b []).cons a).cons c)
        exact p _ _ _ _)
      have HG1 : Hid (m.st = (bs.length : Int) ∧ m.ok = true ∧ m.next = xs) := Lib.hid ⟨HMS.out, HG.out, HMN.out⟩
      clear O3 O4 O5 O6 c3 c4 f4
      generalize hWX : (w4.setCell ⟨R2, 3, none⟩ (.slice (some ⟨g9, 0, none⟩) 1 cp)) = WX at *
      clear hWX
      go_loopw [9] (fun i wr => ∃ (n g c : Nat) (ps : List (Value × List Int)) (left : Int), n ≤ N ∧ left = (n : Int) + 1 ∧ i = .int .i64 left ∧ ps.length = n + 1 ∧ ps.map Prod.snd = (List.range (n + 1)).map m.waysRow ∧
        Own W0 (cellsT R2 #[.int .i64 (bs.length : Int), .slice an nn cn, .slice (some ⟨g2, off2, none⟩) bs.length ce, .slice (some ⟨g, 0, none⟩) (n + 1) c] 77 :: rowT 23 1 (.slice (some ⟨g, 0, none⟩) (n + 1) c) (n + 1) (ps.map Prod.fst) :: cellsT R1 #[.int .i64 0, .slice none 0 0, .slice none 0 0, .slice none 0 0] 77 :: ps.map inn) wr) (fun i _ => N + 1 - (intOf i).toNat)
      case atStart => exact ⟨0, g9, cp, [(.slice (some ⟨G, 0, none⟩) bs.length bs.length, m.waysRow 0)], 1, Nat.zero_le _, rfl, rfl, rfl, rfl, O7.out⟩
      case round =>
        obtain ⟨n, gO, cO, ps, left, hn, hleft, rfl, hpl, hps, hO⟩ := hrel
        have O8 := Lib.hid hO
        have HPL := Lib.hid hpl
        have HPS := Lib.hid hps
        have HLE := Lib.hid hleft
        clear hO O7 hpl hps
        by_cases hlt : left ≤ (N : Int)
        · have hn10 : n < 10 := by omega
          have hl11 : left ≤ 10 := by omega
          have hl1 : 1 ≤ left := by omega
          clear hleft
          obtain ⟨y0, -, -, -, -⟩ := AT.out _ O8.out.keep
          go_wp2_with (at_make; refine wpList_make_full _ rfl _ _ 23 rfl 0 3 i0 (.int .i64 0) 1 Try.underlying23 HI.out.1 HI.out.2.1 HI.out.2.2.1 .i64 .i64 _ _ bs.length rfl rfl rfl rfl HMK.out (by unfold maxLen; omega) (Nat.zero_le _) ?_; intro w3 hown3 hgrow3; have O9 := Lib.hid (Own.new O8.out hgrow3 hown3); clear hown3 hgrow3)
          have hmade : (madeCells (Value.int .i64 0).cells (bs.length * 1)).toList = (m.midRow n 0 0).map (Value.int .i64) := by
            rw [Nat.mul_one, m.midRow_zero, HME.out, List.map_replicate]; exact toList_madeCells_one _ _
          rw [hmade] at O9
          clear hmade y0 O8
          generalize wr.heap.size = G5 at *
          go_loopw [47] (fun i wr => ∃ k : Nat, k ≤ bs.length ∧ i = .int .i64 (k : Int) ∧ Own W0 (rowT 3 1 (.slice (some ⟨G5, 0, none⟩) bs.length bs.length) bs.length ((m.midRow n k 0).map (Value.int .i64)) :: cellsT R2 #[.int .i64 (bs.length : Int), .slice an nn cn, .slice (some ⟨g2, off2, none⟩) bs.length ce, .slice (some ⟨gO, 0, none⟩) (n + 1) cO] 77 :: rowT 23 1 (.slice (some ⟨gO, 0, none⟩) (n + 1) cO) (n + 1) (ps.map Prod.fst) :: cellsT R1 #[.int .i64 0, .slice none 0 0, .slice none 0 0, .slice none 0 0] 77 :: ps.map inn) wr) (fun i _ => bs.length - (intOf i).toNat)
          case atStart => exact ⟨0, Nat.zero_le _, rfl, O9.out⟩
          case round =>
            obtain ⟨k, hk, rfl, hO⟩ := hrel
            have O10 := Lib.hid hO
            clear hO O9
            by_cases hltk : k < bs.length
            · have hltI : (k : Int) < (bs.length : Int) := by omega
              go_wp2_with fail
              go_loopw [50] (fun i wr => ∃ l : Nat, l ≤ 3 ∧ i = .int .i64 (l : Int) ∧ Own W0 (rowT 3 1 (.slice (some ⟨G5, 0, none⟩) bs.length bs.length) bs.length ((m.midRow n k l).map (Value.int .i64)) :: cellsT R2 #[.int .i64 (bs.length : Int), .slice an nn cn, .slice (some ⟨g2, off2, none⟩) bs.length ce, .slice (some ⟨gO, 0, none⟩) (n + 1) cO] 77 :: rowT 23 1 (.slice (some ⟨gO, 0, none⟩) (n + 1) cO) (n + 1) (ps.map Prod.fst) :: cellsT R1 #[.int .i64 0, .slice none 0 0, .slice none 0 0, .slice none 0 0] 77 :: ps.map inn) wr) (fun i _ => 3 - (intOf i).toNat)
              case atStart => exact ⟨0, by omega, rfl, O10.out⟩
              case round =>
                obtain ⟨l, hl, rfl, hO⟩ := hrel
                have O11 := Lib.hid hO
                clear hO O10
                by_cases hl3 : l < 3
                · have hrow := O11.out.row 0 (by simp) rfl
                  have HAT := Lib.hid (m.midRow_at n k l (by rw [HME.out]; exact hltk))
                  have hx0 := (World.ownsRow.cellAt hrow k (by omega)).trans HAT.out
                  have hf0 := World.ownsRow.frozenAt hrow k
                  have hc0 := cellsT_cell (O11.out.cells 1 (by simp) rfl) 0
                  have hc1 := cellsT_cell (O11.out.cells 1 (by simp) rfl) 1
                  have hc2 := cellsT_cell (O11.out.cells 1 (by simp) rfl) 2
                  have hc3 := cellsT_cell (O11.out.cells 1 (by simp) rfl) 3
                  simp only [List.getElem?_toArray, List.getElem?_cons_succ, List.getElem?_cons_zero] at hc0 hc1 hc2 hc3
                  have HTB := Lib.hid (fun (W : World) (h : Own W0 (rowT 3 1 (.slice (some ⟨G5, 0, none⟩) bs.length bs.length) bs.length ((m.midRow n k l).map (Value.int .i64)) :: cellsT R2 #[.int .i64 (bs.length : Int), .slice an nn cn, .slice (some ⟨g2, off2, none⟩) bs.length ce, .slice (some ⟨gO, 0, none⟩) (n + 1) cO] 77 :: rowT 23 1 (.slice (some ⟨gO, 0, none⟩) (n + 1) cO) (n + 1) (ps.map Prod.fst) :: cellsT R1 #[.int .i64 0, .slice none 0 0, .slice none 0 0, .slice none 0 0] 77 :: ps.map inn) W) =>
                    Own.tab (N := n) (ov := .slice (some ⟨gO, 0, none⟩) (n + 1) cO) (ps := ps) h HPL.out HPS.out (by rw [HPL.out]; simp) (fun p hp => List.mem_cons_of_mem _ (List.mem_cons_of_mem _ (List.mem_cons_of_mem _ (List.mem_cons_of_mem _ (List.mem_map_of_mem hp))))))
                  have HCALL : Hid (∀ W, Own W0 (rowT 3 1 (.slice (some ⟨G5, 0, none⟩) bs.length bs.length) bs.length ((m.midRow n k l).map (Value.int .i64)) :: cellsT R2 #[.int .i64 (bs.length : Int), .slice an nn cn, .slice (some ⟨g2, off2, none⟩) bs.length ce, .slice (some ⟨gO, 0, none⟩) (n + 1) cO] 77 :: rowT 23 1 (.slice (some ⟨gO, 0, none⟩) (n + 1) cO) (n + 1) (ps.map Prod.fst) :: cellsT R1 #[.int .i64 0, .slice none 0 0, .slice none 0 0, .slice none 0 0] 77 :: ps.map inn) W →
                      Calls Try.prog 87 #[.agg #[.int .i64 (bs.length : Int), .slice an nn cn, .slice (some ⟨g2, off2, none⟩) bs.length ce, .slice (some ⟨gO, 0, none⟩) (n + 1) cO], .int .i64 (k : Int), .int .i64 left, .int .i64 (l : Int)] W fun e w' => e = .returned (.int .i64 (m.ways n (m.nx (k : Int) (l : Int)))) ∧ Below W.heap.size W w') := Lib.hid (fun W h => by
                    have := implWaysBy_any m n n (k : Int) left (l : Int) (.slice an nn cn) (.slice (some ⟨g2, off2, none⟩) bs.length ce) (.slice (some ⟨gO, 0, none⟩) (n + 1) cO) W (by rw [HG1.out.2.2]; exact (AT.out _ h.keep).2.2.2.1) (HTB.out W h) HG1.out.2.1 (by omega) (by rw [HG1.out.1]; omega) (by omega) (by omega) HLE.out (Nat.le_refl _) (by omega)
                    rwa [HG1.out.1] at this)
                  have HST := Lib.hid (m.waysTo_succ n (k : Int) l)
                  have hb1 := m.waysTo_bd n (k : Int) l hl (by omega)
                  have hb2 := m.waysTo_bd n (k : Int) (l + 1) (by omega) (by omega)
                  have hsum : IntKind.i64.wrap (m.waysTo n (k : Int) l + m.ways n (m.nx (k : Int) (l : Int))) = m.waysTo n (k : Int) (l + 1) := by
                    rw [← HST.out]; exact IntWalk.i64_in _ (by omega)
                  have HSET := Lib.hid (m.midRow_set n k l)
                  clear hrow HST hb1 hb2
                  generalize m.ways n (m.nx (k : Int) (l : Int)) = x at *
                  generalize m.waysTo n (k : Int) l = S at *
                  generalize m.waysTo n (k : Int) (l + 1) = S' at *
                  have O12 := Lib.hid (O11.out.same (grown_drew wr none))
                  go_wp2_with fail
                  go_region_law (first | (go_simp; go_at_call 87; refine (HCALL.out _ O12.out).mono ?_; rintro e w5 ⟨rfl, hb5⟩; have O13 := Lib.hid (O12.out.below hb5); have hx5 := (World.ownsRow.cellAt (O13.out.row 0 (by simp) rfl) k (by omega)).trans HAT.out; have hf5 := World.ownsRow.frozenAt (O13.out.row 0 (by simp) rfl) k))
                  all_goals
                    have O14 := Lib.hid (O13.out.store (i := 0) (by simp) rfl k (.int .i64 S'))
                    go_wp2
                    go_roundw
                    case rel => exact ⟨l + 1, by omega, by go_num, by rw [HSET.out, List.map_set]; exact O14.out⟩
                    case measure => simp [intOf]; omega
                · obtain rfl : l = 3 := by omega
                  have HNX := Lib.hid (m.midRow_next n k)
                  go_wp2_with fail
                  go_roundw
                  case rel => exact ⟨k + 1, by omega, by go_num, by rw [← HNX.out]; exact O11.out⟩
                  case measure => simp [intOf]; omega
            · obtain rfl : k = bs.length := by omega
              have hall : m.midRow n bs.length 0 = m.waysRow (n + 1) := by rw [← HME.out]; exact m.midRow_all n
              rw [hall] at O10
              clear hall
              have c3 := cellsT_cell (O10.out.cells 1 (by simp) rfl) 3
              simp only [List.getElem?_toArray, List.getElem?_cons_succ, List.getElem?_cons_zero] at c3
              have hpn : n + 1 ≤ 10 := by omega
              go_wp2_with (at_builtin; refine wpList_append_lies _ rfl _ _ 75 rfl 0 23 s0 (.slice none 0 0) 1 24 Try.underlying75 HJ.out.1 HJ.out.2.1 HJ.out.2.2.1 HJ.out.2.2.2 rfl (by decide) (.slice (some ⟨gO, 0, none⟩) (n + 1) cO) (n + 1) (ps.map Prod.fst) rfl ((O10.out.row 2 (by simp) rfl).alloc _) ⟨wr.heap.size, 0, none⟩ 1 1 [.slice (some ⟨G5, 0, none⟩) bs.length bs.length] rfl rfl (cellW _ _ _) (by simp [Value.oneCell']) (by omega) (by unfold maxLen; omega) (by omega) (Nat.zero_le _) _ rfl ?_; intro g10 cp2 w6 hown hgrow hat hlt3; have O15 := Lib.hid (O10.out.push (i := 2) (by simp) rfl hgrow hown hat); have c4 := cellsT_cell (O15.out.cells 1 (by simp) rfl) 3; have f4 := cellsT_frozen (O15.out.cells 1 (by simp) rfl) 3; simp only [List.getElem?_toArray, List.getElem?_cons_succ, List.getElem?_cons_zero] at c4; clear hown hgrow hat hlt3)
              have O16 := Lib.hid (O15.out.put (i := 1) (by simp) rfl 3 (.slice (some ⟨g10, 0, none⟩) (n + 1 + 1) cp2))
              have hq : IntKind.i64.wrap (left + 1) = left + 1 := IntWalk.i64_in _ (by omega)
              go_roundw
              case rel =>
                refine ⟨n + 1, g10, cp2, ps ++ [(.slice (some ⟨G5, 0, none⟩) bs.length bs.length, m.waysRow (n + 1))], left + 1, by have := HLE.out; omega, by have := HLE.out; omega, by first | rfl | rw [hq], by rw [List.length_append, HPL.out]; rfl, by rw [List.map_append, HPS.out, List.range_succ (n := n + 1), List.map_append]; rfl, ?_⟩
                have h := O16.out
                have hi : inn (.slice (some ⟨G5, 0, none⟩) bs.length bs.length, m.waysRow (n + 1)) = rowT 3 1 (.slice (some ⟨G5, 0, none⟩) bs.length bs.length) bs.length ((m.waysRow (n + 1)).map (Value.int .i64)) := by unfold inn; rw [m.waysRow_length, HME.out]
                rw [List.map_append, List.map_append]
                refine h.perm ?_
                rw [← hi]
                exact (List.perm_append_singleton (inn (.slice (some ⟨G5, 0, none⟩) bs.length bs.length, m.waysRow (n + 1))) _).symm
              case measure => simp [intOf]; omega
        · have HN : Hid (n = N) := Lib.hid (by omega)
          have hc0 := cellsT_cell (O8.out.cells 0 (by simp) rfl) 0
          have hc1 := cellsT_cell (O8.out.cells 0 (by simp) rfl) 1
          have hc2 := cellsT_cell (O8.out.cells 0 (by simp) rfl) 2
          have hc3 := cellsT_cell (O8.out.cells 0 (by simp) rfl) 3
          have d0 := cellsT_cell (O8.out.cells 2 (by simp) rfl) 0
          have d1 := cellsT_cell (O8.out.cells 2 (by simp) rfl) 1
          have d2 := cellsT_cell (O8.out.cells 2 (by simp) rfl) 2
          have d3 := cellsT_cell (O8.out.cells 2 (by simp) rfl) 3
          have f0 := cellsT_frozen (O8.out.cells 2 (by simp) rfl)
          simp only [List.getElem?_toArray, List.getElem?_cons_succ, List.getElem?_cons_zero] at hc0 hc1 hc2 hc3 d0 d1 d2 d3
          clear hleft
          go_wp2_with fail
          have O20 := (((O8.out.put (i := 2) (by simp) rfl 0 (.int .i64 (bs.length : Int))).put (i := 2) (by simp) rfl 1 (.slice an nn cn)).put (i := 2) (by simp) rfl 2 (.slice (some ⟨g2, off2, none⟩) bs.length ce)).put (i := 2) (by simp) rfl 3 (.slice (some ⟨gO, 0, none⟩) (n + 1) cO)
          have r0 := cellsT_cell (O20.cells 2 (by simp) rfl) 0
          have r1 := cellsT_cell (O20.cells 2 (by simp) rfl) 1
          have r2 := cellsT_cell (O20.cells 2 (by simp) rfl) 2
          have r3 := cellsT_cell (O20.cells 2 (by simp) rfl) 3
          have hT := Own.tab (N := n) (m := m) (ov := .slice (some ⟨gO, 0, none⟩) (n + 1) cO) (ps := ps) O20 HPL.out HPS.out (by rw [HPL.out]; simp) (fun p hp => by
            refine List.mem_cons_of_mem _ (List.mem_cons_of_mem _ (List.mem_cons_of_mem _ (List.mem_map_of_mem hp))))
          have HT := Lib.hid (And.intro hT (K0.out.trans (O20.keep.mono HSZ.out)))
          clear hT O20
          generalize hWE : ((((wr.setCell ⟨R1, 0, none⟩ (.int .i64 (bs.length : Int))).setCell ⟨R1, 1, none⟩ (.slice an nn cn)).setCell ⟨R1, 2, none⟩ (.slice (some ⟨g2, off2, none⟩) bs.length ce)).setCell ⟨R1, 3, none⟩ (.slice (some ⟨gO, 0, none⟩) (n + 1) cO)) = WE at *
          refine bodyPost_ret (v := .agg #[.int .i64 (bs.length : Int), .slice an nn cn, .slice (some ⟨g2, off2, none⟩) bs.length ce, .slice (some ⟨gO, 0, none⟩) (n + 1) cO]) ?_ rfl ⟨.slice (some ⟨gO, 0, none⟩) (n + 1) cO, rfl, by rw [HM.out, ← HN.out]; exact HT.out.1, by rw [HR.out]; exact HT.out.2⟩
          simp at r0 r1 r2 r3
          simp [results, Try.results73, go_sem, r0, r1, r2, r3]

theorem implCounts_any (m : M) (N : Nat) (nv ev : Value) (w : World) (h1 : IsInts w nv m.next) (h2 : IsBools w ev m.ends) (hg : m.ok = true) (hN : N ≤ 10) :
    Calls Try.prog 73 #[.agg #[.int .i64 m.st, nv, ev], .int .i64 (N : Int)] w fun e w' => ∃ tv, e = .returned (.agg #[.int .i64 m.st, nv, ev, tv]) ∧ IsTab w' tv m N ∧ Below w.heap.size w w' := by
  obtain ⟨st, xs, bs⟩ := m
  obtain rfl : st = (bs.length : Int) := (M.ok_shape hg).2.2.2.symm
  exact implCounts_core xs bs nv ev w h1 h2 hg N hN
end Go.Proofs.Ytjdeahdngpccpaa

namespace Go.Proofs.Ytjdeahdngpccpaa
open Go.RowKit

/-- the bytes of a row -/
def bv (p : List UInt8) : List Value := p.map fun b => .int .u8 (b.toNat : Int)
/-- wordAt's answer -/
def wordZ (m : M) (r : Nat) (a : Int) : ByteArray × Bool := if 0 ≤ a ∧ a < m.ways r 0 then (⟨(m.wordOn r 0 a).toArray⟩, true) else (⟨#[]⟩, false)
/-- a letter is tried, and what is left of the place -/
structure LetAt (m : M) (j : Nat) (s a : Int) (l : Nat) (li a2 : Int) : Prop where
  e1 : li = (l : Int)
  e2 : a2 = a - m.waysTo j s l
  e3 : 0 ≤ a2
end Go.Proofs.Ytjdeahdngpccpaa

namespace Go.Proofs.Ytjdeahdngpccpaa
open Go.RowKit

/-- numbers of letters that are counted -/
def countedB (n : Int) : Bool := decide (0 ≤ n) && decide (n ≤ 10)
theorem countedB_nat {n : Int} (h : countedB n = true) : ∃ r : Nat, n = (r : Int) ∧ r ≤ 10 := by
  simp only [countedB, Bool.and_eq_true, decide_eq_true_eq] at h
  exact ⟨n.toNat, by omega, by omega⟩
/-- CountWords -/
def countWords (m : M) (n : Int) : Int := if (m.ok && countedB n) = true then m.ways n.toNat 0 else -1
theorem countWords_yes {m : M} {r : Nat} (h : m.ok = true) (g : countedB (r : Int) = true) : countWords m (r : Int) = m.ways r 0 := by
  rw [countWords, if_pos (by rw [h, g]; rfl), Int.toNat_natCast]
theorem countWords_no {m : M} {n : Int} (h : (m.ok && countedB n) = false) : countWords m n = -1 := by rw [countWords, h]; rfl
/-- WordAt -/
def wordAtZ (m : M) (n a : Int) : ByteArray × Bool := if (m.ok && countedB n) = true then wordZ m n.toNat a else (⟨#[]⟩, false)
/-- PlaceOf -/
def placeOf (m : M) (word : ByteArray) : Int := if (countedB (word.size : Int) && m.takes word) = true then m.rank 0 word.data.toList else -1
theorem implCountedOk_any (n : Int) (w : World) : Calls Try.prog 72 #[.int .i64 n] w fun e w' => e = .returned (.bool (countedB n)) ∧ w = w' := by
  by_cases h1 : 0 ≤ n
  · by_cases h2 : n ≤ 10
    · have H : Hid (countedB n = true) := Lib.hid (by rw [countedB, decide_eq_true h1, decide_eq_true h2]; rfl)
      go_enter Try.func72, Try.ntmps72
      go_wp2_with fail
      go_ret
      exact ⟨ret_bool H.out.symm, rfl⟩
    · have H : Hid (countedB n = false) := Lib.hid (by rw [countedB, decide_eq_false h2, Bool.and_false])
      go_enter Try.func72, Try.ntmps72
      go_wp2_with fail
      go_ret
      exact ⟨ret_bool H.out.symm, rfl⟩
  · have H : Hid (countedB n = false) := Lib.hid (by rw [countedB, decide_eq_false h1, Bool.false_and])
    go_enter Try.func72, Try.ntmps72
    go_wp2_with fail
    go_ret
    exact ⟨ret_bool H.out.symm, rfl⟩

set_option maxHeartbeats 1600000 in
theorem implCountWords_any (m : M) (n : Int) (nv ev : Value) (w : World) (h1 : IsInts w nv m.next) (h2 : IsBools w ev m.ends) (hst : (Lit.int .i64 m.st).wf = true) :
    Calls Try.prog 24 #[.agg #[.int .i64 m.st, nv, ev], .int .i64 n] w fun e w' => e = .returned (.int .i64 (countWords m n)) ∧ Below w.heap.size w w' := by
  have MB := Lib.hid (MachBox.new (st := m.st) 26 h1 h2)
  have q0 := Lib.hid ((Below.refl w.heap.size w).alloc (Nat.le_refl _) (.cells #[.int .i64 m.st, nv, ev] 26))
  have HOK := Lib.hid (fun W a b => implMachineOk_any m nv ev W a b hst)
  have HCO := Lib.hid (fun W => implCountedOk_any n W)
  have y0 := MB.out.c0
  have y1 := MB.out.c1
  have y2 := MB.out.c2
  clear h1 h2
  go_enter Try.func24, Try.ntmps24
  go_wp2_with fail
  refine (HOK.out _ MB.out.ints MB.out.bools).mono ?_
  rintro e w1 ⟨rfl, hb1⟩
  have M1 := Lib.hid (MB.out.below hb1)
  have q1 := Lib.hid (q0.out.trans (hb1.mono q0.out.size))
  have z0 := M1.out.c0
  have z1 := M1.out.c1
  have z2 := M1.out.c2
  clear y0 y1 y2 hb1
  cases hk : m.ok with
  | false =>
    have HR := Lib.hid (countWords_no (m := m) (n := n) (by rw [hk, Bool.false_and]))
    go_wp2_with fail
    go_ret
    exact ⟨ret_int HR.out.symm, q1.out⟩
  | true =>
    have HK := Lib.hid hk
    go_wp2_with fail
    refine (HCO.out _).mono ?_
    rintro e w2 ⟨rfl, rfl⟩
    cases hc : countedB n with
    | false =>
      have HR := Lib.hid (countWords_no (m := m) (n := n) (by rw [hc, Bool.and_false]))
      go_wp2_with fail
      go_ret
      exact ⟨ret_int HR.out.symm, q1.out⟩
    | true =>
      obtain ⟨r, rfl, hr⟩ := countedB_nat hc
      have HR := Lib.hid (countWords_yes HK.out hc)
      have hsh := M.ok_shape HK.out
      clear hc HCO
      go_wp2_with fail
      refine (implCounts_any m r nv ev _ M1.out.ints M1.out.bools HK.out hr).mono ?_
      rintro e w3 ⟨tv, rfl, ht, hb3⟩
      have q3 := Lib.hid (q1.out.trans (hb3.mono q1.out.size))
      have HT := Lib.hid ht
      clear ht z0 z1 z2 hb3
      go_wp2_with fail
      refine (implWays_any m r r 0 nv ev tv _ HT.out (M.ok_good HK.out) (by omega) (by omega) (Nat.le_refl _)).mono ?_
      rintro e w4 ⟨rfl, hb4⟩
      have q4 := Lib.hid (q3.out.trans (hb4.mono q3.out.size))
      clear hb4
      go_wp2_with fail
      go_ret
      exact ⟨ret_int HR.out.symm, q4.out⟩

end Go.Proofs.Ytjdeahdngpccpaa

namespace Go.Proofs.Ytjdeahdngpccpaa
open Go.RowKit

theorem countedB_eq (n : Int) : (decide (0 ≤ n) && decide (n ≤ 10)) = countedB n := rfl

set_option maxHeartbeats 1600000 in
theorem specCountWords_any (m : M) (n : Int) (nv ev : Value) (w : World) (h1 : IsInts w nv m.next) (h2 : IsBools w ev m.ends) (hst : (Lit.int .i64 m.st).wf = true) :
    Calls Try.prog 25 #[.agg #[.int .i64 m.st, nv, ev], .int .i64 n] w fun e w' => e = .returned (.int .i64 (countWords m n)) ∧ Below w.heap.size w w' := by
  have MB := Lib.hid (MachBox.new (st := m.st) 26 h1 h2)
  have q0 := Lib.hid ((Below.refl w.heap.size w).alloc (Nat.le_refl _) (.cells #[.int .i64 m.st, nv, ev] 26))
  have HOK := Lib.hid (fun W a b => specMachineOk_any m nv ev W a b hst)
  have HCO := Lib.hid (fun W => l1In_any n 0 10 W)
  rw [countedB_eq] at HCO
  have y0 := MB.out.c0
  have y1 := MB.out.c1
  have y2 := MB.out.c2
  clear h1 h2
  go_enter Try.func25, Try.ntmps25
  go_wp2_with fail
  refine (HOK.out _ MB.out.ints MB.out.bools).mono ?_
  rintro e w1 ⟨rfl, hb1⟩
  have M1 := Lib.hid (MB.out.below hb1)
  have q1 := Lib.hid (q0.out.trans (hb1.mono q0.out.size))
  have z0 := M1.out.c0
  have z1 := M1.out.c1
  have z2 := M1.out.c2
  clear y0 y1 y2 hb1
  cases hk : m.ok with
  | false =>
    have HR := Lib.hid (countWords_no (m := m) (n := n) (by rw [hk, Bool.false_and]))
    go_wp2_with fail
    go_ret
    exact ⟨ret_int HR.out.symm, q1.out⟩
  | true =>
    have HK := Lib.hid hk
    go_wp2_with fail
    refine (HCO.out _).mono ?_
    rintro e w2 ⟨rfl, rfl⟩
    cases hc : countedB n with
    | false =>
      have HR := Lib.hid (countWords_no (m := m) (n := n) (by rw [hc, Bool.and_false]))
      go_wp2_with fail
      go_ret
      exact ⟨ret_int HR.out.symm, q1.out⟩
    | true =>
      obtain ⟨r, rfl, hr⟩ := countedB_nat hc
      have HR := Lib.hid (countWords_yes HK.out hc)
      have hsh := M.ok_shape HK.out
      clear hc HCO
      go_wp2_with fail
      refine (l6Many_any m 0 r nv ev _ M1.out.ints M1.out.bools (M.ok_good HK.out) (Int.le_refl _) (by omega) hr).mono ?_
      rintro e w3 ⟨rfl, hb3⟩
      have q3 := Lib.hid (q1.out.trans (hb3.mono q1.out.size))
      clear z0 z1 z2 hb3
      go_wp2_with fail
      go_ret
      exact ⟨ret_int HR.out.symm, q3.out⟩

end Go.Proofs.Ytjdeahdngpccpaa

namespace Go.Proofs.Ytjdeahdngpccpaa
open Go.RowKit

theorem implEndOk_any (m : M) (s : Int) (nv ev : Value) (w : World) (h2 : IsBools w ev m.ends) (hg : m.good) (s0 : -1 ≤ s) (s1 : s < m.st) :
    Calls Try.prog 80 #[.agg #[.int .i64 m.st, nv, ev], .int .i64 s] w fun e w' => e = .returned (.bool (m.endAt s)) ∧ Below w.heap.size w w' := by
  by_cases hs : s = -1
  · subst hs
    have HE : Hid (m.endAt (-1) = false) := Lib.hid (by simp [M.endAt])
    clear hg
    go_enter Try.func80, Try.ntmps80
    go_wp2
    go_ret
    exact ⟨ret_bool HE.out.symm, (Below.refl _ _).alloc (Nat.le_refl _) _⟩
  · obtain ⟨k, hk1, hk2, he⟩ := M.gendAt_at hg s (by omega) s1
    obtain ⟨ae, ne, ce, rfl⟩ := h2.slice
    obtain ⟨ge, oe, rfl, rfl, hge, hce⟩ := bools_cells3 h2 (by omega)
    have hcell := hce k hk2
    have HE := Lib.hid he
    subst hk1
    have hkl : (k : Int) < m.ends.length := by omega
    have hne : ((k : Int) != -1) = true := by simp
    clear he hce h2 hg
    generalize m.ends[k] = eb at *
    go_enter Try.func80, Try.ntmps80
    go_wp2
    go_ret
    exact ⟨ret_bool HE.out.symm, (Below.refl _ _).alloc (Nat.le_refl _) _⟩

/-- two machines in boxes, and a pair -/
structure Pbx (a b c : Nat) (ms ks : Int) (nv ev mv fv : Value) (x y : Int) (W : World) : Prop where
  six : Six a b ms ks nv ev mv fv W
  lc : c < W.heap.size
  cx : W.cell? ⟨c, 0, none⟩ = some (.int .i64 x) ∧ W.cell? ⟨c, 1, none⟩ = some (.int .i64 y)
end Go.Proofs.Ytjdeahdngpccpaa

namespace Go.Proofs.Ytjdeahdngpccpaa
open Go.RowKit Go.Maps

set_option maxHeartbeats 4000000 in
theorem machineFromNot_any (on : Int → Nat → Option Int) (ends : Int → Bool) (s0 : Int) (N : Nat) (P : Int → Prop) (p1 : Value) (w : World)
    (hN : (bfsTo on s0 N).1.length = N) (hN4 : N ≤ 4000) (h0 : P s0) (hs : ∀ x, P x → ∀ l b, l < 3 → on x l = some b → P b) (hw : ∀ x, P x → (Lit.int .i64 x).wf = true)
    (HOn : ∀ W, Below w.heap.size w W → ∀ x, P x → ∀ l : Nat, l < 3 → Calls Try.prog 77 #[.int .i64 x, .int .i64 (l : Int), p1] W fun e W' => ∃ v b, e = .returned (.tuple #[.int .i64 v, .bool b]) ∧ on x l = (if b = true then some v else none) ∧ Below W.heap.size W W')
    (HEnds : ∀ W, Below w.heap.size w W → ∀ x, P x → Calls Try.prog 79 #[.int .i64 x, p1] W fun e W' => e = .returned (.bool (ends x)) ∧ Below W.heap.size W W') :
    Calls Try.prog 76 #[.int .i64 s0, .func (.func 77) #[] #[p1], .func (.func 79) #[] #[p1]] w (MachNew ⟨N, (bfsTo on s0 N).2, (bfsTo on s0 N).1.map ends⟩ w) := by
  have hmm := @run_makeMap Try.prog
  obtain ⟨i0, hi, hz0, hz1, hz2⟩ := info_parts infoIntF
  obtain ⟨j0, hj, hy0, hy1, hy2⟩ := info_parts infoBoolF
  have HI := Lib.hid (And.intro hi (And.intro hz0 (And.intro hz1 hz2)))
  have HJ := Lib.hid (And.intro hj (And.intro hy0 (And.intro hy1 hy2)))
  clear hi hz0 hz1 hz2 hj hy0 hy1 hy2
  have HON := Lib.hid HOn
  have HENDS := Lib.hid HEnds
  have hall := Lib.hid (bfsTo_all h0 hs)
  have HNN := Lib.hid hN
  have HS := Lib.hid hs
  have HWF := Lib.hid hw
  have hle := Lib.hid (bfsTo_le hN)
  have wf0 := hw s0 h0
  clear HOn HEnds hN hs hw
  obtain ⟨w1, hrun, hown1, hg1⟩ : ∃ w', (Instr.mapUpdate 122 (.map (some (w.heap.size + 1 + 1 + 1))) (.int .i64 s0) (.int .i64 0)).run Try.prog ((((w.alloc (.cells #[.int .i64 0, .slice none 0 0, .slice none 0 0] 26)).alloc (.cells #[.int .i64 0, .slice none 0 0, .slice none 0 0] 26)).alloc (.cells #[.int .i64 s0] 3)).alloc (.map #[] 0)) = .ok () w' ∧ w'.ownsMap (H := Unit) Try.prog 3 (plainElem Try.prog 3) (w.heap.size + 1 + 1 + 1) 1 ((DataW.map []).put (intKey s0) (.lit (.int .i64 0))) ∧ World.grownBy ((((w.alloc (.cells #[.int .i64 0, .slice none 0 0, .slice none 0 0] 26)).alloc (.cells #[.int .i64 0, .slice none 0 0, .slice none 0 0] 26)).alloc (.cells #[.int .i64 s0] 3)).alloc (.map #[] 0)) w' (some (w.heap.size + 1 + 1 + 1)) := by
    have hm := World.ownsMap_made (H := Unit) (((w.alloc (.cells #[.int .i64 0, .slice none 0 0, .slice none 0 0] 26)).alloc (.cells #[.int .i64 0, .slice none 0 0, .slice none 0 0] 26)).alloc (.cells #[.int .i64 s0] 3)) Try.prog 3 (plainElem Try.prog 3)
    rw [World.size_alloc, World.size_alloc, World.size_alloc] at hm
    exact hm.update lawIntF Try.underlying122 (by unfold maxLen; omega) (keyOf_int_mk Try.underlying3 wf0) (plainElem_int Try.underlying3 (by decide))
  have F0 := Lib.hid (from_start w s0 3 rfl hown1 hg1 rfl)
  clear hown1 hg1
  go_enter Try.func76, Try.ntmps76
  go_wp2_with fail
  generalize hR6 : w.heap.size = R6 at *
  generalize R6 + 1 + 1 + 1 = MB at *
  generalize hR7 : R6 + 1 = R7 at *
  generalize (.slice (some ⟨R7 + 1, 0, none⟩) 1 1 : Value) = qv0 at *
  clear hrun
  go_loopw [8, 10] (fun qv i wr => ∃ (n : Nat) (q : List Int) (nx : List Int) (nv ev : Value), n ≤ N ∧ n ≤ q.length ∧ i = .int .i64 n ∧ bfsTo on s0 n = (q, nx) ∧ From w R6 R7 MB q qv nx nv ((q.take n).map ends) ev wr) (fun _ i _ => N - (intOf i).toNat)
  case atStart => exact ⟨0, [s0], [], _, _, Nat.zero_le _, Nat.zero_le _, rfl, rfl, F0.out⟩
  case round =>
    obtain ⟨n, q, nx, nv, ev, hn, hnq, rfl, hq, hF⟩ := hrel
    have F1 := Lib.hid hF
    obtain ⟨a8, c8, rfl⟩ := ownsRow_slice hF.rowQ
    clear hF
    have HQ := Lib.hid hq
    have hqN : q.length ≤ N := by have := hle.out n; rw [hq] at this; exact this
    have hPq : Hid (∀ y ∈ q, P y) := by have := hall.out n; rw [hq] at this; exact Lib.hid this
    by_cases hlt : n < q.length
    · have hx := Lib.hid (hPq.out _ (List.getElem_mem hlt))
      generalize hxe : q[n] = x at hx
      have HX := Lib.hid hxe
      clear hq hxe
      go_wp2_with fail
      go_loopw [8, 27] (fun qv' li wr => ∃ (l : Nat) (q' nx' : List Int) (nv' : Value), l ≤ 3 ∧ li = .int .i64 l ∧ bfsL on x (q, nx) l = (q', nx') ∧ From w R6 R7 MB q' qv' nx' nv' ((q.take n).map ends) ev wr) (fun _ li _ => 3 - (intOf li).toNat)
      case atStart => exact ⟨0, q, nx, nv, by omega, rfl, rfl, F1.out⟩
      case round =>
        obtain ⟨l, q', nx', nv', hl, rfl, hq', hF'⟩ := hrel
        have F2 := Lib.hid hF'
        have HQ' := Lib.hid hq'
        obtain ⟨hn', hxn⟩ := bfsL_at hq' hlt
        rw [HX.out] at hxn
        obtain ⟨g, c8', rfl, -, -⟩ := World.ownsRow.form hF'.rowQ (by omega)
        have hcell := World.ownsRow.cellAt hF'.rowQ n (by omega)
        rw [List.getElem?_map, List.getElem?_eq_getElem hn', hxn] at hcell
        simp only [Option.map_some] at hcell
        clear hF' hq' hxn
        by_cases hl3 : l < 3
        · go_wp2_with fail
          refine (HON.out _ (by rw [← hR6]; exact F2.out.keep) x hx.out l hl3).mono ?_
          rintro e w2 ⟨v, b, rfl, hon, hb⟩
          have F3 := Lib.hid (F2.out.below hb)
          have HB1 : Hid (bfsL on x (q, nx) (l + 1) = bfs1 (q', nx') (on x l)) := by
            have : bfsL on x (q, nx) (l + 1) = bfs1 (q', nx') (on x l) := by rw [bfsL, HQ'.out]
            exact Lib.hid this
          have hq'N : q'.length ≤ N := by
            have h1 := (bfsL_mono on x (q, nx) hl).length_le
            have h2 := hle.out (n + 1)
            rw [bfsTo_step (by rw [HQ.out]; exact hlt)] at h2
            simp only [HQ.out, HX.out] at h2
            rw [HQ'.out] at h1
            simp only at h1
            omega
          clear F2 hb hcell
          have y0 := F3.out.cell.1
          have y1 := F3.out.cell.2.1
          have y2 := F3.out.cell.2.2
          have hnl : nx'.length ≤ 13000 := by
            have h1 := bfsL_len on x (q, nx) l
            have h2 := bfsTo_len (on := on) (s0 := s0) n (by rw [HQ.out]; show n ≤ q.length; omega)
            rw [HQ'.out] at h1
            rw [HQ.out] at h2
            simp only at h1 h2
            omega
          cases b with
          | false =>
            have HON1 : Hid (on x l = none) := Lib.hid hon
            clear hon
            go_wp2_with (at_builtin; refine wpList_append_lies _ rfl _ _ 23 rfl 0 3 i0 (.int .i64 0) 1 8 Try.underlying23 HI.out.1 HI.out.2.1 HI.out.2.2.1 HI.out.2.2.2 rfl (by decide) nv' nx'.length (nx'.map (Value.int .i64)) rfl (F3.out.rowN.alloc _) ⟨w2.heap.size, 0, none⟩ 1 1 [.int .i64 (-1)] rfl rfl (cell_one_new _ _ _) (by simp [Value.oneCell']) (by omega) (by unfold maxLen; omega) (by omega) (Nat.zero_le _) _ rfl ?_; intro g3 cp w4 hown hgrow hat hlt3; obtain ⟨F4, x31, f31⟩ := F3.out.nextN hgrow hown hat)
            go_roundw
            case rel => exact ⟨l + 1, q', nx' ++ [-1], _, by omega, by go_num, by rw [HB1.out, HON1.out, bfs1_none], F4⟩
            case measure => simp [intOf]; omega
          | true =>
            have HON1 : Hid (on x l = some v) := Lib.hid hon
            have hPv := HS.out x hx.out l v hl3 hon
            have wfv := HWF.out v hPv
            have HH := Lib.hid (has_int (q := q') v)
            have hnd : Hid (q'.Nodup) := by
              have h1 := bfsL_nodup on x (p := (q, nx)) (by have := bfsTo_nodup on s0 n; rw [HQ.out] at this; exact this) l
              rw [HQ'.out] at h1
              exact Lib.hid h1
            clear hon
            by_cases hm : v ∈ q'
            · have HM := Lib.hid hm
              have HHt : Hid (Maps.has (qD (H := Unit) intKey q') (.int .i64 v) = true) := Lib.hid (HH.out.trans (by simp [hm]))
              clear hm
              go_wp2_with (first | (at_lookup; refine wpList_lookup_own_ok_int _ rfl _ _ 122 rfl 3 3 .i64 lawIntF Try.underlying122 Try.underlying3 (zeroIntF _) MB q'.length (qD (H := Unit) intKey q') rfl F3.out.map _ _ rfl (keyOf_int_mk Try.underlying3 wfv) ?_; intro c hat0 hwc; rw [HHt.out]) | (at_builtin; refine wpList_append_lies _ rfl _ _ 23 rfl 0 3 i0 (.int .i64 0) 1 8 Try.underlying23 HI.out.1 HI.out.2.1 HI.out.2.2.1 HI.out.2.2.2 rfl (by decide) nv' nx'.length (nx'.map (Value.int .i64)) rfl (F3.out.rowN.alloc _) ⟨w2.heap.size, 0, none⟩ 1 1 [.int .i64 _] rfl rfl (cell_one_new _ _ _) (by simp [Value.oneCell']) (by omega) (by unfold maxLen; omega) (by omega) (Nat.zero_le _) _ rfl ?_; intro g3 cp w4 hown hgrow hat hlt3; obtain ⟨F4, x31, f31⟩ := F3.out.nextN hgrow hown hat))
              go_roundw
              case rel =>
                have hc := at_int v c hnd.out HM.out hat0
                subst hc
                exact ⟨l + 1, q', nx' ++ [(q'.idxOf v : Int)], _, by omega, by go_num, by rw [HB1.out, HON1.out, bfs1_old HM.out], F4⟩
              case measure => simp [intOf]; omega
            · have HM := Lib.hid hm
              have HHf : Hid (Maps.has (qD (H := Unit) intKey q') (.int .i64 v) = false) := Lib.hid (HH.out.trans (by simp [hm]))
              clear hm
              go_wp2_with (first | (at_lookup; refine wpList_lookup_own_ok_int _ rfl _ _ 122 rfl 3 3 .i64 lawIntF Try.underlying122 Try.underlying3 (zeroIntF _) MB q'.length (qD (H := Unit) intKey q') rfl F3.out.map _ _ rfl (keyOf_int_mk Try.underlying3 wfv) ?_; intro c hat0 hwc; rw [HHf.out]) | (at_mapUpdate; refine wpList_mapUpdate_own _ rfl _ _ _ 122 rfl 3 3 lawIntF Try.underlying122 _ MB q'.length (qD (H := Unit) intKey q') rfl F3.out.map (by unfold maxLen; omega) _ _ (intKey v) rfl rfl (keyOf_int_mk Try.underlying3 wfv) (.lit (.int .i64 (q'.length : Int))) [] (plainElem_int Try.underlying3 (WalkArith.wf_i64 (by omega))) ?_; intro w3 hown3 hgrow3) | (at_builtin; refine wpList_append_lies _ rfl _ _ 23 rfl 0 3 i0 (.int .i64 0) 1 8 Try.underlying23 HI.out.1 HI.out.2.1 HI.out.2.2.1 HI.out.2.2.2 rfl (by decide) (.slice (some ⟨g, 0, none⟩) q'.length c8') q'.length (q'.map (Value.int .i64)) rfl ((F3.out.rowQ_kept hgrow3).alloc _) ⟨w3.heap.size, 0, none⟩ 1 1 [.int .i64 v] rfl rfl (cell_one_new _ _ _) (by simp [Value.oneCell']) (by omega) (by unfold maxLen; omega) (by omega) (Nat.zero_le _) _ rfl ?_; intro g3 cp w4 hown hgrow hat hlt3; have F4 := Lib.hid (F3.out.push hgrow3 hown3 hgrow hown hat); have y0 := F4.out.cell.1; have y1 := F4.out.cell.2.1; have y2 := F4.out.cell.2.2) | (at_builtin; refine wpList_append_lies _ rfl _ _ 23 rfl 0 3 i0 (.int .i64 0) 1 8 Try.underlying23 HI.out.1 HI.out.2.1 HI.out.2.2.1 HI.out.2.2.2 rfl (by decide) nv' nx'.length (nx'.map (Value.int .i64)) rfl (F4.out.rowN.alloc _) ⟨w4.heap.size, 0, none⟩ 1 1 [.int .i64 _] rfl rfl (cell_one_new _ _ _) (by simp [Value.oneCell']) (by omega) (by unfold maxLen; omega) (by omega) (Nat.zero_le _) _ rfl ?_; intro g5 cp5 w5 hown5 hgrow5 hat5 hlt5; obtain ⟨F5, x31, f31⟩ := F4.out.nextN hgrow5 hown5 hat5))
              go_roundw
              case rel => exact ⟨l + 1, q' ++ [v], nx' ++ [(q'.length : Int)], _, by omega, by go_num, by rw [HB1.out, HON1.out, bfs1_new HM.out], F5⟩
              case measure => simp [intOf]; omega
        · obtain rfl : l = 3 := by omega
          have HB3 : Hid (bfsTo on s0 (n + 1) = (q', nx')) := by
            have : bfsTo on s0 (n + 1) = (q', nx') := by
              rw [bfsTo_step (by rw [HQ.out]; exact hlt)]
              simp only [HQ.out, HX.out]
              exact HQ'.out
            exact Lib.hid this
          have hn1 : n < N := by omega
          have HT : Hid ((q'.take (n + 1)).map ends = (q.take n).map ends ++ [ends x]) := Lib.hid (bfsL_take HQ'.out hlt HX.out)
          have hes : ((q.take n).map ends).length ≤ 4000 := by rw [List.length_map, List.length_take]; omega
          generalize (q.take n).map ends = es at *
          go_wp2_with fail
          have Fd := Lib.hid (F2.out.same (grown_drew _ none))
          have z12 := Fd.out.cell.2.2
          have hcell2 : wr.drew.cell? ⟨g, n, none⟩ = some (.int .i64 x) := hcell
          have hkd : Below R6 w wr.drew := by rw [← hR6]; exact Fd.out.keep
          have HK := Lib.hid hkd
          clear hkd
          go_region_law (first | (go_simp; go_at_call 79; refine (HENDS.out _ HK.out x hx.out).mono ?_; rintro e w2 ⟨rfl, hb⟩; have F3 := Lib.hid (Fd.out.below hb); have x12 := F3.out.cell.2.2; have x13 := fun b => (F3.out.same (World.grownBy_alloc w2 (.cells #[.bool b] 4) none)).cell.2.2) | (refine step_append_lies _ rfl _ _ 24 rfl 0 4 j0 (.bool false) 1 1 Try.underlying24 HJ.out.1 HJ.out.2.1 HJ.out.2.2.1 HJ.out.2.2.2 rfl (by decide) ev es.length (es.map Value.bool) rfl (F3.out.rowE.alloc _) ⟨w2.heap.size, 0, none⟩ 1 1 [.bool (ends x)] rfl rfl (cell_one_new _ _ _) (by simp [Value.oneCell']) (by omega) (by unfold maxLen; omega) (by omega) (Nat.zero_le _) _ rfl ?_; intro g3 cp w4 hown hgrow hat hlt3; obtain ⟨F4, x31, f31⟩ := F3.out.nextE hgrow hown hat))
          all_goals
            clear z12 x12 x13
            go_wp2
            go_roundw
            case rel => exact ⟨n + 1, q', nx', nv', _, hn1, hn', by go_num, HB3.out, by rw [HT.out]; exact F4⟩
            case measure => simp [intOf]; omega
    · have hqn : q.length = n := by omega
      have hnN : n = N := bfsTo_one (by rw [HQ.out]; exact hqn) HNN.out
      subst hnN
      have F5 := F1.out
      rw [List.take_of_length_le (by omega)] at F5
      clear F1
      obtain ⟨a1, c1, rfl⟩ := ownsRow_slice F5.rowN
      obtain ⟨a2, c2, rfl⟩ := ownsRow_slice F5.rowE
      have F1 := Lib.hid F5
      clear F5
      have y0 := F1.out.cell.1
      have y0f := F1.out.froz 0
      obtain ⟨x0, x1, x2, x6⟩ := F1.out.len (n : Int) rfl
      have g00 : (wr.setCell ⟨R7, 0, none⟩ (.int .i64 (n : Int))).cell? ⟨R6, 0, none⟩ = some (.int .i64 0) := cellsT_cell x6 0
      have g01 : (wr.setCell ⟨R7, 0, none⟩ (.int .i64 (n : Int))).cell? ⟨R6, 1, none⟩ = some (.slice none 0 0) := cellsT_cell x6 1
      have g02 : (wr.setCell ⟨R7, 0, none⟩ (.int .i64 (n : Int))).cell? ⟨R6, 2, none⟩ = some (.slice none 0 0) := cellsT_cell x6 2
      have f00 := cellsT_frozen x6 0
      have f01 := cellsT_frozen x6 1
      have f02 := cellsT_frozen x6 2
      clear x6
      go_wp2_with fail
      obtain ⟨r1, r2, r3, r4, r5⟩ := F1.out.done (n : Int) rfl
      have hM : (⟨(n : Int), (bfsTo on s0 n).2, (bfsTo on s0 n).1.map ends⟩ : M) = ⟨(n : Int), nx, q.map ends⟩ := by rw [HQ.out]
      refine bodyPost_ret (v := .agg #[.int .i64 (n : Int), .slice a1 nx.length c1, .slice a2 n c2]) ?_ rfl (by rw [hM]; exact ⟨a1, a2, c1, c2, by simp only [List.length_map, hqn], r1, r2⟩)
      simp [results, Try.results76, go_sem, r3, r4, r5]
end Go.Proofs.Ytjdeahdngpccpaa

namespace Go.Proofs.Ytjdeahdngpccpaa
open Go.RowKit

theorem notOn_any (m : M) (nv ev : Value) (B : Nat) (W : World) (hM : MachBox B m.st nv m.next ev m.ends W) (hg : m.good) (s : Int) (hs : inN m s) (l : Nat) (hl : l < 3) :
    Calls Try.prog 77 #[.int .i64 s, .int .i64 (l : Int), .pointer (some ⟨B, 0, none⟩)] W
      fun e W' => ∃ v b, e = .returned (.tuple #[.int .i64 v, .bool b]) ∧ nOn m s l = (if b = true then some v else none) ∧ Below W.heap.size W W' := by
  have y0 := hM.c0
  have y1 := hM.c1
  have y2 := hM.c2
  have HI := Lib.hid hM.ints
  have HG := Lib.hid hg
  have HS := Lib.hid hs
  clear hM hg hs
  go_enter Try.func77, Try.ntmps77
  go_wp2_with fail
  refine (implNextOfG_any m s (l : Int) nv ev _ HI.out HG.out HS.out.1 HS.out.2 (by omega) (by omega)).mono ?_
  rintro e w2 ⟨rfl, hb⟩
  have HB := Lib.hid hb
  clear hb y0 y1 y2
  go_wp2
  go_ret2
  exact ⟨_, true, rfl, rfl, HB.out⟩
theorem notEnds_any (m : M) (nv ev : Value) (B : Nat) (W : World) (hM : MachBox B m.st nv m.next ev m.ends W) (hg : m.good) (s : Int) (hs : inN m s) :
    Calls Try.prog 79 #[.int .i64 s, .pointer (some ⟨B, 0, none⟩)] W fun e W' => e = .returned (.bool (!m.endAt s)) ∧ Below W.heap.size W W' := by
  have y0 := hM.c0
  have y1 := hM.c1
  have y2 := hM.c2
  have HI := Lib.hid hM.bools
  have HG := Lib.hid hg
  have HS := Lib.hid hs
  clear hM hg hs
  go_enter Try.func79, Try.ntmps79
  go_wp2_with fail
  refine (implEndOk_any m s nv ev _ HI.out HG.out HS.out.1 HS.out.2).mono ?_
  rintro e w2 ⟨rfl, hb⟩
  have HB := Lib.hid hb
  clear hb y0 y1 y2
  cases he : m.endAt s <;> (go_wp2; go_ret; exact ⟨by rw [he]; rfl, HB.out⟩)

set_option maxHeartbeats 1600000 in
theorem implNot_any (m : M) (nv ev : Value) (w : World) (h1 : IsInts w nv m.next) (h2 : IsBools w ev m.ends) (hst : (Lit.int .i64 m.st).wf = true) :
    Calls Try.prog 26 #[.agg #[.int .i64 m.st, nv, ev]] w (JoinNew m.ok (fun u => !m.lang 0 u) w) := by
  have hM : MachBox w.heap.size m.st nv m.next ev m.ends (w.alloc (.cells #[.int .i64 m.st, nv, ev] 26)) := MachBox.new _ h1 h2
  have hb2 := (Below.refl _ (w.alloc (.cells #[.int .i64 m.st, nv, ev] 26))).alloc (Nat.le_refl _) (.cells #[.int .i64 0, .slice none 0 0, .slice none 0 0] 26)
  have M2 := Lib.hid (hM.below hb2)
  have q2 := Lib.hid (((Below.refl w.heap.size w).alloc (Nat.le_refl _) (.cells #[.int .i64 m.st, nv, ev] 26)).trans (hb2.mono (by simp)))
  have hz := Z0.new (w.alloc (.cells #[.int .i64 m.st, nv, ev] 26))
  rw [World.size_alloc] at hz
  have Z2 := Lib.hid hz
  have y0 := M2.out.c0
  have y1 := M2.out.c1
  have y2 := M2.out.c2
  clear hz hM hb2 h1 h2
  go_enter Try.func26, Try.ntmps26
  go_wp2_with fail
  refine (implMachineOk_any m nv ev _ M2.out.ints M2.out.bools hst).mono ?_
  rintro e w3 ⟨rfl, hb3⟩
  have M3 := Lib.hid (M2.out.below hb3)
  have q3 := Lib.hid (q2.out.trans (hb3.mono q2.out.size))
  have Z3 := Lib.hid (Z2.out.below hb3)
  clear hb3 y0 y1 y2 M2 q2 Z2
  cases hk : m.ok with
  | false =>
    have HJ : Hid (IsJoin m.ok (fun u => !m.lang 0 u) ⟨0, [], []⟩ false) := Lib.hid (.inr ⟨rfl, rfl, fun h => by rw [hk] at h; cases h⟩)
    have z0 := Z3.out.c0
    have z1 := Z3.out.c1
    have z2 := Z3.out.c2
    have f0 := Z3.out.f0
    have f1 := Z3.out.f1
    have f2 := Z3.out.f2
    have FI := Lib.hid (fin_cells (x := .int .i64 0) (y := .slice none 0 0) (z := .slice none 0 0) (apart_nils w3.heap.size w3) q3.out (Nat.le_succ _) Z3.out.lt (some3 z0 z1 z2) q3.out.size)
    rw [← hk]
    go_wp2
    obtain ⟨r1, r2, r3, r4, r5⟩ := FI.out _ rfl
    refine bodyPost_ret (v := .tuple #[.agg #[.int .i64 0, .slice none 0 0, .slice none 0 0], .bool false]) ?_ rfl ⟨⟨0, [], []⟩, false, none, none, 0, 0, HJ.out, rfl, r1, r2⟩
    simp [results, Try.results26, go_sem, r3, r4, r5]
  | true =>
    have HG := M.ok_good hk
    have s1 := M.ok_shape hk
    obtain ⟨N, hN49, hN⟩ := not_n HG s1.2.1
    obtain ⟨Mx, hMx⟩ : ∃ Mx, Mx = bM (nOn m) 0 N (fun x => !m.endAt x) := ⟨_, rfl⟩
    have HF : Calls Try.prog 76 #[.int .i64 0, .func (.func 77) #[] #[.pointer (some ⟨w.heap.size, 0, none⟩)], .func (.func 79) #[] #[.pointer (some ⟨w.heap.size, 0, none⟩)]] w3 (MachNew Mx w3) := by
      have h := machineFromNot_any (nOn m) (fun x => !m.endAt x) 0 N (inN m) (.pointer (some ⟨w.heap.size, 0, none⟩)) w3 hN (by omega) (inN_zero HG)
        (fun x hx l b hl h => nOn_in HG x hx l b hl h)
        (fun x hx => WalkArith.wf_i64 (by have := hx.1; have := hx.2; omega))
        (fun W hW x hx l hl => notOn_any m nv ev _ W (M3.out.below hW) HG x hx l hl)
        (fun W hW x hx => notEnds_any m nv ev _ W (M3.out.below hW) HG x hx)
      rw [hMx]
      exact h
    have HMG := Lib.hid (show Mx.good by rw [hMx]; exact bM_good hN (by omega))
    have HML := Lib.hid (show Mx.lang 0 = fun u => !m.lang 0 u by rw [hMx]; exact not_lang HG hN)
    have HFH := Lib.hid HF
    have HKK := Lib.hid hk
    clear HG s1 hN49 hN hMx HF hk
    go_wp2_with fail
    refine HFH.out.mono ?_
    rintro e w5 ⟨a1, a2, c1, c2, rfl, hA5, hb5⟩
    have Z5 := Lib.hid (Z3.out.below hb5)
    have Q5 := Lib.hid (q3.out.trans (hb5.mono q3.out.size))
    have HI := Lib.hid (And.intro (IsInts.of_owns hA5.head) (IsBools.of_owns hA5.tail.head))
    clear hA5 hb5
    go_wp2_with fail
    refine (implLeastOf_any Mx _ _ w5 HI.out.1 HI.out.2 HMG.out).mono ?_
    intro e w6 hL
    obtain ⟨K, r, d1, d2, e1, e2, hJ, rfl, hA6, hb6⟩ := hL.join HMG.out
    rw [HML.out] at hJ
    have HJ : Hid (IsJoin m.ok (fun u => !m.lang 0 u) K r) := Lib.hid (by rw [HKK.out]; exact hJ)
    have Z6 := Lib.hid (Z5.out.below hb6)
    have Q6 := Lib.hid (Q5.out.trans (hb6.mono Q5.out.size))
    have z0 := Z6.out.c0
    have z1 := Z6.out.c1
    have z2 := Z6.out.c2
    have f0 := Z6.out.f0
    have f1 := Z6.out.f1
    have f2 := Z6.out.f2
    have FI := Lib.hid (fin_cells (x := .int .i64 K.st) (y := .slice d1 K.next.length e1) (z := .slice d2 K.ends.length e2) hA6 Q6.out (Nat.le_succ _) Z5.out.lt (some3 z0 z1 z2) Q5.out.size)
    clear hL hJ hA6 hb6
    go_wp2
    obtain ⟨r1, r2, r3, r4, r5⟩ := FI.out _ rfl
    refine bodyPost_ret (v := .tuple #[.agg #[.int .i64 K.st, .slice d1 K.next.length e1, .slice d2 K.ends.length e2], .bool r]) ?_ rfl ⟨K, r, d1, d2, e1, e2, HJ.out, rfl, r1, r2⟩
    simp [results, Try.results26, go_sem, r3, r4, r5]
end Go.Proofs.Ytjdeahdngpccpaa

namespace Go.Proofs.Ytjdeahdngpccpaa
open Go.RowKit

theorem IsLm.mokW {f : List (Fin 3) → Bool} {k : M} (h : IsLm f k) (h48 : k.st ≤ 48) : k.ok = true := M.good_ok (h.good (by omega)) h48
theorem IsJoin.wfW {ok b : Bool} {f : List (Fin 3) → Bool} {k : M} (h : IsJoin ok f k b) : (Lit.int .i64 k.st).wf = true := by
  rcases h with ⟨-, -, h1, h2⟩ | ⟨-, rfl, -⟩
  · exact WalkArith.wf_i64 (by have h3 := M.ok_shape (h1.mokW h2); show _ ∧ _; omega)
  · rfl
theorem IsLmZ.wfW {m k : M} (hm : m.ok = true) (h : IsLmZ m k) : (Lit.int .i64 k.st).wf = true :=
  WalkArith.wf_i64 (by have h3 := M.ok_shape (h.ok hm); show _ ∧ _; omega)
theorem countWords_not {m x : M} {L : Nat} (hm : m.ok = true) (hL : countedB (L : Int) = true) (h : IsJoin m.ok (fun u => !m.lang 0 u) x true) : countWords x (L : Int) + countWords m (L : Int) = ((3 ^ L : Nat) : Int) := by
  rcases h with ⟨-, -, h1, h2⟩ | ⟨h, -, -⟩
  · rw [countWords_yes (h1.mokW h2) hL, countWords_yes hm hL]
    exact ways_not (fun u => congrFun h1.lang u) L
  · cases h
theorem countWords_least {m l : M} {L : Nat} (hm : m.ok = true) (hL : countedB (L : Int) = true) (h : IsLmZ m l) : countWords l (L : Int) = countWords m (L : Int) := by
  rw [countWords_yes (h.ok hm) hL, countWords_yes hm hL]
  exact ways_same (h.1 hm).1.lang L
theorem takes_digits {m : M} (hm : m.ok = true) (L t : Nat) (hL : L ≤ 10) : m.takes (txtOf (digits L t)) = m.endAt (m.goes 0 (digits L t)) := by
  rw [M.takes_lang hm (txt_word10 (digits_length L t) (digits_all L t) hL), txtOf_list, M.lang, goes_walk m _ (digits_all L t)]
theorem takenTo_bd (m : M) (L t : Nat) : 0 ≤ takenTo m L t ∧ takenTo m L t ≤ t := cntTo_bd _ t

set_option maxHeartbeats 4000000 in
theorem lawCountWords_walk {w : World} (a : Option Addr) (len cap : Nat) (zs : List Int) (h : IsRow .u8 w a len cap zs) :
    Calls Try.prog 4 #[.slice a len cap] w fun e w' => e = .returned (.bool true) ∧ Below w.heap.size w w' := by
  have HD := Lib.hid (drawCountWords_any a len cap zs w h)
  have hl := rowG_len h
  clear h
  by_cases hbig : 1048576 < len
  · go_enter Try.func4, Try.ntmps4
    go_wp2_with fail
    go_ret
    exact ⟨rfl, Below.refl _ _⟩
  · go_enter Try.func4, Try.ntmps4
    go_wp2_with fail
    refine HD.out.mono ?_
    clear HD
    rintro e w1 ⟨m, a1, a2, c1, c2, n, rfl, hm, hn0, hn10, hi, hb, hB⟩
    have HST := Lib.hid hm.1
    have M0 := Lib.hid (MachBox.new (st := m.st) 26 hi hb)
    have B0 := Lib.hid (hB.alloc hB.size (.cells #[.int .i64 m.st, .slice a1 m.next.length c1, .slice a2 m.ends.length c2] 26))
    clear hi hb hB hm
    go_wp2_with fail
    generalize (w1.alloc (.cells #[.int .i64 m.st, .slice a1 m.next.length c1, .slice a2 m.ends.length c2] 26)) = W1 at *
    generalize w1.heap.size = b at *
    refine (implCountWords_any m n _ _ _ M0.out.ints M0.out.bools HST.out).mono ?_
    rintro e w2 ⟨rfl, hb2⟩
    have M2 := Lib.hid (M0.out.below hb2)
    have B2 := Lib.hid (B0.out.trans (hb2.mono B0.out.size))
    have z0 := M2.out.c0
    have z1 := M2.out.c1
    have z2 := M2.out.c2
    clear hb2 M0 B0
    go_wp2_with fail
    refine (specCountWords_any m n _ _ _ M2.out.ints M2.out.bools HST.out).mono ?_
    rintro e w3 ⟨rfl, hb3⟩
    have M3 := Lib.hid (M2.out.below hb3)
    have B3 := Lib.hid (B2.out.trans (hb3.mono B2.out.size))
    clear hb3 M2 B2 z0 z1 z2
    by_cases hg : (m.ok && countedB n) = true
    · obtain ⟨hk, hr⟩ : m.ok = true ∧ countedB n = true := by simpa using hg
      obtain ⟨L, hLn, hL10⟩ := countedB_nat hr
      have HOK := Lib.hid hk
      have hrL : countedB (L : Int) = true := by rw [← hLn]; exact hr
      have HZ : Hid (countWords m n = takenTo m L (3 ^ L)) := Lib.hid (by rw [takenTo_all, hLn, countWords_yes hk hrL])
      have hP := Lib.hid (pow3_big L L (Nat.le_refl _) hL10)
      have HP := Lib.hid (fun k hk => pow3_big L k hk hL10)
      have hz0 : 0 ≤ countWords m n ∧ countWords m n ≤ 59049 := by
        have h1 := takenTo_bd m L (3 ^ L)
        have h2 := hP.out.2.2
        rw [HZ.out]; omega
      have hz1 : ¬ countWords m n < 0 := by omega
      have HN : Hid (n = (L : Int)) := Lib.hid hLn
      have HCX : Hid (∀ x, IsJoin m.ok (fun u => !m.lang 0 u) x true → countWords x n + countWords m n = ((3 ^ L : Nat) : Int)) := Lib.hid (fun x hx => by rw [hLn]; exact countWords_not hk hrL hx)
      have HCL : Hid (∀ l, IsLmZ m l → countWords l n = countWords m n) := Lib.hid (fun l hl => by rw [hLn]; exact countWords_least hk hrL hl)
      generalize hP3 : 3 ^ L = P3 at *
      have HP3 := Lib.hid hP3
      generalize countWords m n = z at *
      clear hg hk hr hrL hP3 hLn
      have z0 := M3.out.c0
      have z1 := M3.out.c1
      have z2 := M3.out.c2
      go_wp2_with fail
      clear z0 z1 z2
      go_loopw [6, 7] (fun av kv wr => ∃ (k : Nat) (ki ai : Int), ki = (k : Int) ∧ k ≤ L ∧ kv = .int .i64 ki ∧ av = .int .i64 ai ∧ ai = ((3 ^ k : Nat) : Int) ∧ wr = w3) (fun _ kv _ => 11 - (intOf kv).toNat)
      case atStart => exact ⟨0, 0, 1, rfl, Nat.zero_le _, rfl, rfl, rfl, rfl⟩
      case round =>
        obtain ⟨k, ki, ai, hki, hkr, rfl, rfl, hai, rfl⟩ := hrel
        have HKI := Lib.hid hki
        have HAI := Lib.hid hai
        have hn := HN.out
        have hp := HP.out k hkr
        have ha0 : 0 ≤ ai := by omega
        have ha1 : ai ≤ 59049 := by omega
        have hq : IntKind.i64.wrap (ki + 1) = ki + 1 := IntWalk.i64_in _ (by omega)
        have hq2 : IntKind.i64.wrap (ai * 3) = ai * 3 := IntWalk.i64_in _ (by omega)
        clear hai hp
        by_cases hlt : k < L
        · have hltI : ki < n := by omega
          clear hki hn
          go_wp2_with fail
          go_roundw
          case rel => exact ⟨k + 1, ki + 1, ai * 3, by have := HKI.out; omega, by omega, by first | rfl | rw [hq], by first | rfl | rw [hq2], by rw [HAI.out, Nat.pow_succ]; omega, by first | rfl | trivial⟩
          case measure => simp [intOf]; have := HKI.out; omega
        · have hnlt : ¬ ki < n := by omega
          have hkr2 : k = L := by omega
          have HAP : Hid (ai = (P3 : Int)) := Lib.hid (by rw [HAI.out, hkr2, HP3.out])
          clear hki hn
          go_wp2_with fail
          go_loopw [8, 9, 10, 11, 12] (fun cv wv _ _ _ wr => ∃ (t : Nat) (ti : Int), ti = (t : Int) ∧ t ≤ P3 ∧ wv = .int .i64 ti ∧ cv = .int .i64 (takenTo m L t) ∧ (4 < n → t = 0) ∧ MachBox b m.st (.slice a1 m.next.length c1) m.next (.slice a2 m.ends.length c2) m.ends wr ∧ Below w.heap.size w wr) (fun _ wv _ _ _ _ => P3 - (intOf wv).toNat)
          case atStart => exact ⟨0, 0, rfl, Nat.zero_le _, rfl, rfl, fun _ => rfl, M3.out, B3.out⟩
          case round =>
            obtain ⟨t, ti, hti, htP, rfl, rfl, hbig4, hX, hQ⟩ := hrel
            have MK := Lib.hid hX
            have QK := Lib.hid hQ
            have HTI := Lib.hid hti
            have hap := HAP.out
            have hPm := hP.out.2.2
            have hq3 : IntKind.i64.wrap (ti + 1) = ti + 1 := IntWalk.i64_in _ (by omega)
            clear hX hQ
            have htd := takenTo_bd m L t
            by_cases htl : t < P3 ∧ n ≤ 4
            · obtain ⟨htl, h4⟩ := htl
              have hL4 : L ≤ 4 := by have := HN.out; omega
              have htlI : ti < ai := by omega
              clear hti hap hbig4
              go_wp2_with fail
              go_loopw [10, 11, 12] (fun sv lv jv wr2 => ∃ (j : Nat) (ji li : Int), ji = (j : Int) ∧ j ≤ L ∧ jv = .int .i64 ji ∧ sv = .string (txtOf (digits j t)) ∧ lv = .int .i64 li ∧ li = ((t / 3 ^ j : Nat) : Int) ∧ MachBox b m.st (.slice a1 m.next.length c1) m.next (.slice a2 m.ends.length c2) m.ends wr2 ∧ Below w.heap.size w wr2) (fun _ _ jv _ => 11 - (intOf jv).toNat)
              case atStart => exact ⟨0, 0, ti, rfl, Nat.zero_le _, rfl, rfl, rfl, by rw [HTI.out, Nat.pow_zero, Nat.div_one], MK.out, QK.out⟩
              case round =>
                obtain ⟨j, ji, li, hji, hjr, rfl, rfl, rfl, hli, hX, hQ⟩ := hrel
                have ML := Lib.hid hX
                have QL := Lib.hid hQ
                have HJI := Lib.hid hji
                have HLI := Lib.hid hli
                have hlt3 : t / 3 ^ j ≤ t := Nat.div_le_self _ _
                have hq4 : IntKind.i64.wrap (ji + 1) = ji + 1 := IntWalk.i64_in _ (by omega)
                have hl0 : 0 ≤ li := by rw [hli]; exact Int.natCast_nonneg _
                have hl1 : li ≤ 59049 := by rw [hli]; exact Int.le_trans (Int.ofNat_le.2 (show t / 3 ^ j ≤ 59049 from Nat.le_trans hlt3 (by omega))) (by decide)
                clear hX hQ
                by_cases hjl : j < L
                · have hjlI : ji < n := by have := HN.out; omega
                  have hdl : t / 3 ^ j % 3 < 3 := Nat.mod_lt _ (by omega)
                  generalize hdi : ((t / 3 ^ j % 3 : Nat) : Int) = di at *
                  have hmod1 : li.tmod 3 = di := by rw [hli, ← hdi]; rfl
                  have hmod2 : li % 3 = di := by omega
                  have hdiv1 : li.tdiv 3 = ((t / 3 ^ (j + 1) : Nat) : Int) := by rw [hli, ← digit_div]; rfl
                  have hdiv2 : li / 3 = ((t / 3 ^ (j + 1) : Nat) : Int) := by rw [hli, ← digit_div]; rfl
                  have hL := fun W => letts_run (t / 3 ^ j % 3) di hdl hdi.symm W
                  have hd0 : 0 ≤ di := by omega
                  have hd2 : di ≤ 2 := by omega
                  have hq5 : IntKind.i64.wrap (di + 1) = di + 1 := IntWalk.i64_in _ (by omega)
                  have hle2 : t / 3 ^ (j + 1) ≤ t := Nat.div_le_self _ _
                  have HTM := Lib.hid (txt_more (digits j t) (lettB (t / 3 ^ j % 3)))
                  rw [← digits_lett] at HTM
                  have hszd : (txtOf (digits j t)).size ≤ 6 := by rw [txtOf_size, digits_length]; omega
                  have hszl : (txtOf [lettB (t / 3 ^ j % 3)]).size = 1 := by rw [txtOf_size]; rfl
                  generalize hl2 : ((t / 3 ^ (j + 1) : Nat) : Int) = l2 at *
                  have HL2 := Lib.hid hl2
                  have hl20 : 0 ≤ l2 := by rw [← hl2]; exact Int.natCast_nonneg _
                  have hl21 : l2 ≤ 59049 := by rw [← hl2]; exact Int.le_trans (Int.ofNat_le.2 (show t / 3 ^ (j + 1) ≤ 59049 from Nat.le_trans hle2 (by omega))) (by decide)
                  generalize lettB (t / 3 ^ j % 3) = lb at *
                  clear hli hji hdi hdl hl2
                  generalize hdn : txtOf (digits (j + 1) t) = dn at *
                  have HDN := Lib.hid hdn
                  clear hdn
                  generalize txtOf (digits j t) = dt at *
                  go_wp2_with fail
                  go_roundw
                  case rel => exact ⟨j + 1, ji + 1, l2, by have := HJI.out; omega, by omega, by first | rfl | rw [hq4], by first | rfl | rw [HDN.out, HTM.out] | rw [HTM.out], by first | rfl | trivial, HL2.out.symm, ML.out, QL.out⟩
                  case measure => simp [intOf]; have := HJI.out; omega
                · have hjr2 : j = L := by omega
                  have hjnl : ¬ ji < n := by have := HN.out; omega
                  subst hjr2
                  have HTK := takes_digits HOK.out j t hL10
                  have hszd : (txtOf (digits j t)).size ≤ maxLen := by rw [txtOf_size, digits_length]; unfold maxLen; omega
                  have hc := fun W h1 h2 => implTakesOk_any m (txtOf (digits j t)) (.slice a1 m.next.length c1) (.slice a2 m.ends.length c2) W h1 h2 HST.out hszd
                  rw [HTK] at hc
                  have y0 := ML.out.c0
                  have y1 := ML.out.c1
                  have y2 := ML.out.c2
                  cases he : m.endAt (m.goes 0 (digits j t)) with
                  | true =>
                    have HSU : Hid (takenTo m j (t + 1) = takenTo m j t + 1) := Lib.hid (cntTo_yes _ t he)
                    rw [he] at hc
                    have HC := Lib.hid hc
                    generalize txtOf (digits j t) = dt at *
                    generalize takenTo m j t = cn at *
                    have hq8 : IntKind.i64.wrap (cn + 1) = cn + 1 := IntWalk.i64_in _ (by omega)
                    clear hji hli hszd HTK he hc
                    go_wp2_with fail
                    refine (HC.out _ ML.out.ints ML.out.bools).mono ?_
                    rintro e w5 ⟨rfl, hb5⟩
                    have M5 := Lib.hid (ML.out.below hb5)
                    have Q5 := Lib.hid (QL.out.trans (hb5.mono QL.out.size))
                    clear hb5
                    go_wp2_with fail
                    go_roundw
                    case rel => exact ⟨t + 1, ti + 1, by have := HTI.out; omega, by omega, by first | rfl | rw [hq3], by first | rw [HSU.out] | rw [HSU.out, hq8], fun h => by omega, M5.out, Q5.out⟩
                    case measure => simp [intOf]; have := HTI.out; omega
                  | false =>
                    have HSU : Hid (takenTo m j (t + 1) = takenTo m j t) := Lib.hid (cntTo_no _ t he)
                    rw [he] at hc
                    have HC := Lib.hid hc
                    generalize txtOf (digits j t) = dt at *
                    generalize takenTo m j t = cn at *
                    have hq8 : IntKind.i64.wrap (cn + 1) = cn + 1 := IntWalk.i64_in _ (by omega)
                    clear hji hli hszd HTK he hc
                    go_wp2_with fail
                    refine (HC.out _ ML.out.ints ML.out.bools).mono ?_
                    rintro e w5 ⟨rfl, hb5⟩
                    have M5 := Lib.hid (ML.out.below hb5)
                    have Q5 := Lib.hid (QL.out.trans (hb5.mono QL.out.size))
                    clear hb5
                    go_wp2_with fail
                    go_roundw
                    case rel => exact ⟨t + 1, ti + 1, by have := HTI.out; omega, by omega, by first | rfl | rw [hq3], by first | rw [HSU.out] | rw [HSU.out, hq8], fun h => by omega, M5.out, Q5.out⟩
                    case measure => simp [intOf]; have := HTI.out; omega
            · by_cases h4 : n ≤ 4
              · have htnl : ¬ ti < ai := by omega
                have htP2 : t = P3 := by omega
                have hzz : (z == z) = true := by simp
                have hee : (takenTo m L t == z) = true := by rw [HZ.out, htP2]; simp
                have hpn : (P3 : Int) ≤ 59049 := by omega
                have hai2 : ai = (P3 : Int) := HAP.out
                clear hti hap hbig4
                generalize takenTo m L t = cn at *
                have y0 := MK.out.c0
                have y1 := MK.out.c1
                have y2 := MK.out.c2
                go_wp2_with fail
                clear y0 y1 y2
                refine (implNot_any m _ _ _ MK.out.ints MK.out.bools HST.out).mono ?_
                rintro e w5 h5
                obtain ⟨x, ok5, nv5, ev5, hJ5, rfl, hn5, he5, hb5⟩ := h5.reads
                obtain ⟨d1, n1, e1, rfl⟩ := hn5.slice
                obtain ⟨d2, n2, e2, rfl⟩ := he5.slice
                have hwx := hJ5.wfW
                have hal := hb5.trans (((Below.refl w5.heap.size w5).alloc (Nat.le_refl _) (.cells #[.int .i64 x.st, .slice d1 n1 e1, .slice d2 n2 e2] 26)).mono hb5.size)
                have X6 := Lib.hid (MachBox.new (st := x.st) 26 hn5 he5)
                have M6 := Lib.hid (MK.out.below hal)
                have Q6 := Lib.hid (QK.out.trans (hal.mono QK.out.size))
                have HJ := Lib.hid hJ5
                clear hb5 hal h5 hn5 he5 hJ5
                have y0 := M6.out.c0
                have y1 := M6.out.c1
                have y2 := M6.out.c2
                cases ok5 with
                | true =>
                  have HX := HCX.out x HJ.out
                  have HCO := Lib.hid (fun W h1 h2 => implCountWords_any x n (.slice d1 n1 e1) (.slice d2 n2 e2) W h1 h2 hwx)
                  generalize countWords x n = xn at *
                  have hq9 : IntKind.i64.wrap (xn + z) = xn + z := IntWalk.i64_in _ (by omega)
                  have hbq : (xn + z == ai) = true := by rw [beq_iff_eq]; omega
                  have hbq2 : (xn + z == (P3 : Int)) = true := by rw [beq_iff_eq]; omega
                  clear HX HJ hai2
                  go_wp2_with fail
                  clear y0 y1 y2
                  generalize hW6 : w5.alloc (.cells #[.int .i64 x.st, .slice d1 n1 e1, .slice d2 n2 e2] 26) = w6 at *
                  generalize hB6 : w5.heap.size = b6 at *
                  clear hW6 hB6
                  refine (HCO.out _ X6.out.ints X6.out.bools).mono ?_
                  rintro e w7 ⟨rfl, hb7⟩
                  have M7 := Lib.hid (M6.out.below hb7)
                  have Q7 := Lib.hid (Q6.out.trans (hb7.mono Q6.out.size))
                  clear hb7
                  have y0 := M7.out.c0
                  have y1 := M7.out.c1
                  have y2 := M7.out.c2
                  go_wp2_with fail
                  refine (implLeastZ m _ _ _ M7.out.ints M7.out.bools HST.out).mono ?_
                  rintro e w8 ⟨l, hl, hnew⟩
                  obtain ⟨nv8, ev8, rfl, hn8, he8, hb8⟩ := hnew.reads
                  have HCO := Lib.hid (implCountWords_any l n nv8 ev8 w8 hn8 he8 (hl.wfW HOK.out))
                  rw [HCL.out l hl] at HCO
                  have Q8 := Lib.hid (Q7.out.trans (hb8.mono Q7.out.size))
                  clear hb8 hn8 he8 hnew hl
                  go_wp2_with fail
                  refine HCO.out.mono ?_
                  rintro e w9 ⟨rfl, hb9⟩
                  have Q9 := Lib.hid (Q8.out.trans (hb9.mono Q8.out.size))
                  clear hb9
                  go_wp2_with fail
                  go_ret
                  exact ⟨by first | exact ret_bool rfl | rfl | exact ret_bool hzz, Q9.out⟩
                | false =>
                  clear HJ hai2
                  go_wp2_with fail
                  clear y0 y1 y2
                  generalize hW6 : w5.alloc (.cells #[.int .i64 x.st, .slice d1 n1 e1, .slice d2 n2 e2] 26) = w6 at *
                  generalize hB6 : w5.heap.size = b6 at *
                  clear hW6 hB6
                  refine (implLeastZ m _ _ _ M6.out.ints M6.out.bools HST.out).mono ?_
                  rintro e w8 ⟨l, hl, hnew⟩
                  obtain ⟨nv8, ev8, rfl, hn8, he8, hb8⟩ := hnew.reads
                  have HCO := Lib.hid (implCountWords_any l n nv8 ev8 w8 hn8 he8 (hl.wfW HOK.out))
                  rw [HCL.out l hl] at HCO
                  have Q8 := Lib.hid (Q6.out.trans (hb8.mono Q6.out.size))
                  clear hb8 hn8 he8 hnew hl
                  go_wp2_with fail
                  refine HCO.out.mono ?_
                  rintro e w9 ⟨rfl, hb9⟩
                  have Q9 := Lib.hid (Q8.out.trans (hb9.mono Q8.out.size))
                  clear hb9
                  go_wp2_with fail
                  go_ret
                  exact ⟨by first | exact ret_bool rfl | rfl | exact ret_bool hzz, Q9.out⟩
              · have h4b : 4 < n := by omega
                have ht0 := hbig4 h4b
                have htlI : ti < ai := by have := hP.out.1; omega
                have hzz : (z == z) = true := by simp
                have hpn : (P3 : Int) ≤ 59049 := by omega
                have hai2 : ai = (P3 : Int) := HAP.out
                clear hti hap hbig4
                generalize takenTo m L t = cn at *
                have y0 := MK.out.c0
                have y1 := MK.out.c1
                have y2 := MK.out.c2
                go_wp2_with fail
                clear y0 y1 y2
                refine (implNot_any m _ _ _ MK.out.ints MK.out.bools HST.out).mono ?_
                rintro e w5 h5
                obtain ⟨x, ok5, nv5, ev5, hJ5, rfl, hn5, he5, hb5⟩ := h5.reads
                obtain ⟨d1, n1, e1, rfl⟩ := hn5.slice
                obtain ⟨d2, n2, e2, rfl⟩ := he5.slice
                have hwx := hJ5.wfW
                have hal := hb5.trans (((Below.refl w5.heap.size w5).alloc (Nat.le_refl _) (.cells #[.int .i64 x.st, .slice d1 n1 e1, .slice d2 n2 e2] 26)).mono hb5.size)
                have X6 := Lib.hid (MachBox.new (st := x.st) 26 hn5 he5)
                have M6 := Lib.hid (MK.out.below hal)
                have Q6 := Lib.hid (QK.out.trans (hal.mono QK.out.size))
                have HJ := Lib.hid hJ5
                clear hb5 hal h5 hn5 he5 hJ5
                have y0 := M6.out.c0
                have y1 := M6.out.c1
                have y2 := M6.out.c2
                cases ok5 with
                | true =>
                  have HX := HCX.out x HJ.out
                  have HCO := Lib.hid (fun W h1 h2 => implCountWords_any x n (.slice d1 n1 e1) (.slice d2 n2 e2) W h1 h2 hwx)
                  generalize countWords x n = xn at *
                  have hq9 : IntKind.i64.wrap (xn + z) = xn + z := IntWalk.i64_in _ (by omega)
                  have hbq : (xn + z == ai) = true := by rw [beq_iff_eq]; omega
                  have hbq2 : (xn + z == (P3 : Int)) = true := by rw [beq_iff_eq]; omega
                  clear HX HJ hai2
                  go_wp2_with fail
                  clear y0 y1 y2
                  generalize hW6 : w5.alloc (.cells #[.int .i64 x.st, .slice d1 n1 e1, .slice d2 n2 e2] 26) = w6 at *
                  generalize hB6 : w5.heap.size = b6 at *
                  clear hW6 hB6
                  refine (HCO.out _ X6.out.ints X6.out.bools).mono ?_
                  rintro e w7 ⟨rfl, hb7⟩
                  have M7 := Lib.hid (M6.out.below hb7)
                  have Q7 := Lib.hid (Q6.out.trans (hb7.mono Q6.out.size))
                  clear hb7
                  have y0 := M7.out.c0
                  have y1 := M7.out.c1
                  have y2 := M7.out.c2
                  go_wp2_with fail
                  refine (implLeastZ m _ _ _ M7.out.ints M7.out.bools HST.out).mono ?_
                  rintro e w8 ⟨l, hl, hnew⟩
                  obtain ⟨nv8, ev8, rfl, hn8, he8, hb8⟩ := hnew.reads
                  have HCO := Lib.hid (implCountWords_any l n nv8 ev8 w8 hn8 he8 (hl.wfW HOK.out))
                  rw [HCL.out l hl] at HCO
                  have Q8 := Lib.hid (Q7.out.trans (hb8.mono Q7.out.size))
                  clear hb8 hn8 he8 hnew hl
                  go_wp2_with fail
                  refine HCO.out.mono ?_
                  rintro e w9 ⟨rfl, hb9⟩
                  have Q9 := Lib.hid (Q8.out.trans (hb9.mono Q8.out.size))
                  clear hb9
                  go_wp2_with fail
                  go_ret
                  exact ⟨by first | exact ret_bool rfl | rfl | exact ret_bool hzz, Q9.out⟩
                | false =>
                  clear HJ hai2
                  go_wp2_with fail
                  clear y0 y1 y2
                  generalize hW6 : w5.alloc (.cells #[.int .i64 x.st, .slice d1 n1 e1, .slice d2 n2 e2] 26) = w6 at *
                  generalize hB6 : w5.heap.size = b6 at *
                  clear hW6 hB6
                  refine (implLeastZ m _ _ _ M6.out.ints M6.out.bools HST.out).mono ?_
                  rintro e w8 ⟨l, hl, hnew⟩
                  obtain ⟨nv8, ev8, rfl, hn8, he8, hb8⟩ := hnew.reads
                  have HCO := Lib.hid (implCountWords_any l n nv8 ev8 w8 hn8 he8 (hl.wfW HOK.out))
                  rw [HCL.out l hl] at HCO
                  have Q8 := Lib.hid (Q6.out.trans (hb8.mono Q6.out.size))
                  clear hb8 hn8 he8 hnew hl
                  go_wp2_with fail
                  refine HCO.out.mono ?_
                  rintro e w9 ⟨rfl, hb9⟩
                  have Q9 := Lib.hid (Q8.out.trans (hb9.mono Q8.out.size))
                  clear hb9
                  go_wp2_with fail
                  go_ret
                  exact ⟨by first | exact ret_bool rfl | rfl | exact ret_bool hzz, Q9.out⟩
    · have hg2 : (m.ok && countedB n) = false := by simpa using hg
      rw [countWords_no hg2]
      clear hg hg2
      go_wp2_with (go_at_call 18; refine (aliveG_any _).mono ?_; rintro e w' ⟨rfl, rfl⟩)
      go_ret
      exact ⟨rfl, B3.out⟩
end Go.Proofs.Ytjdeahdngpccpaa
