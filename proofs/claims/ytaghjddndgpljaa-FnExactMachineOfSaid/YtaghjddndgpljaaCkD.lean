/- The machines of terms, by their trees; rows that calls make, joined. No program, no condition. spec.l4Starts tells where a part begins. No condition. impl.partMachine: the machine of a mark and of the parts under it. No condition. The contract of partsUnder. No condition. TermOk of the program and of the model: what each returns, for every row of marks. No condition. spec.l6Many counts the words that lead from a state to an end. No condition. impl.foldedMarks over bools: the stack of parts. No condition. impl.foldedMarks over machines: the stack of parts. No condition. spec.l5Machine. No condi -/
import Derived.Test.YtaghjddndgpljaaCkA
import Derived.Test.YtaghjddndgpljaaPairBase
import Derived.Test.YtaghjddndgpljaaLangWord
import Derived.Test.YtaghjddndgpljaaCkB
import Derived.Deep.CutBlock
import Derived.Test.YtaghjddndgpljaaJoinM
import Derived.Deep.RegionLaw
import Derived.Deep.RegionWith
import Derived.Outline
import Derived.RegionTactic
import Derived.Deep.AppendLies
import Derived.Test.YtaghjddndgpljaaCkC

namespace Go.Proofs.Ytaghjddndgpljaa
open Go.RowKit

/-- the machine of a term, or the zero value if some part has none -/
def TmM : Tm → M → Prop
  | .rule r, m => IsLmZ (mf r) m
  | .not a, m => ∃ k b, TmM a k ∧ IsJoin k.ok (fun u => !k.lang 0 u) m b
  | .two true a b, m => ∃ k l c, TmM a k ∧ TmM b l ∧ IsJoin (k.ok && l.ok) (fun u => k.lang 0 u || l.lang 0 u) m c
  | .two false a b, m => ∃ k l c, TmM a k ∧ TmM b l ∧ IsJoin (k.ok && l.ok) (fun u => k.lang 0 u && l.lang 0 u) m c
theorem IsJoin.ok_eq {ok : Bool} {f : List (Fin 3) → Bool} {k : M} {r : Bool} (h : IsJoin ok f k r) : k.ok = r := by
  rcases h with ⟨rfl, h1, h2, h3⟩ | ⟨rfl, rfl, h1⟩
  · exact M.good_ok (h2.good (by omega)) h3
  · rfl
theorem IsJoin.no {ok : Bool} {f : List (Fin 3) → Bool} {k : M} {r : Bool} (h : IsJoin ok f k r) (ho : ok = false) : r = false ∧ k = ⟨0, [], []⟩ := by
  rcases h with ⟨rfl, h1, h2, h3⟩ | ⟨rfl, rfl, h1⟩
  · rw [ho] at h1; cases h1
  · exact ⟨rfl, rfl⟩
theorem zero_join {f : List (Fin 3) → Bool} : IsJoin false f ⟨0, [], []⟩ false := .inr ⟨rfl, rfl, fun h => by cases h⟩
theorem mf_ok {r : Ru} (h : r.ok = true) : (mf r).ok = true := by rw [mf_yes h]; exact mfT_ok h
theorem M.ok_wf {m : M} (h : m.ok = true) : (Lit.int .i64 m.st).wf = true := WalkArith.wf_i64 (by have := M.ok_shape h; show _ ∧ _; omega)
theorem TmM.one {T : Tm} : ∀ {m k : M}, TmM T m → TmM T k → m = k := by
  induction T with
  | rule r => intro m k h g; exact IsLmZ.one h g
  | not a ih =>
    rintro m k ⟨x, b, h1, h2⟩ ⟨y, c, g1, g2⟩
    obtain rfl := ih h1 g1
    exact (h2.one g2).1
  | two o a b iha ihb =>
    cases o with
    | true =>
      rintro m k ⟨x, y, c, h1, h2, h3⟩ ⟨x', y', c', g1, g2, g3⟩
      obtain rfl := iha h1 g1
      obtain rfl := ihb h2 g2
      exact (h3.one g3).1
    | false =>
      rintro m k ⟨x, y, c, h1, h2, h3⟩ ⟨x', y', c', g1, g2, g3⟩
      obtain rfl := iha h1 g1
      obtain rfl := ihb h2 g2
      exact (h3.one g3).1
/-- it is a machine, or the zero value -/
theorem TmM.zero {T : Tm} (hg : T.good = true) {m : M} (h : TmM T m) (ho : m.ok = false) : m = ⟨0, [], []⟩ := by
  cases T with
  | rule r => rw [IsLmZ.ok (mf_ok hg) h] at ho; cases ho
  | not a =>
    obtain ⟨k, b, -, h2⟩ := h
    rw [h2.ok_eq] at ho
    subst ho
    rcases h2 with ⟨h, _⟩ | ⟨_, h, _⟩
    · cases h
    · exact h
  | two o a b =>
    cases o with
    | true =>
      obtain ⟨k, l, c, -, -, h2⟩ := h
      rw [h2.ok_eq] at ho
      subst ho
      rcases h2 with ⟨h, _⟩ | ⟨_, h, _⟩
      · cases h
      · exact h
    | false =>
      obtain ⟨k, l, c, -, -, h2⟩ := h
      rw [h2.ok_eq] at ho
      subst ho
      rcases h2 with ⟨h, _⟩ | ⟨_, h, _⟩
      · cases h
      · exact h
theorem TmM.wf {T : Tm} (hg : T.good = true) {m : M} (h : TmM T m) : (Lit.int .i64 m.st).wf = true := by
  cases ho : m.ok with
  | true => exact M.ok_wf ho
  | false => rw [h.zero hg ho]; rfl
theorem TmM.len {T : Tm} (hg : T.good = true) {m : M} (h : TmM T m) : m.next.length ≤ 144 ∧ m.ends.length ≤ 48 := by
  cases ho : m.ok with
  | true => have := M.ok_shape ho; omega
  | false => rw [h.zero hg ho]; exact ⟨Nat.zero_le _, Nat.zero_le _⟩
/-- MachineOf -/
def IsOf (ms : List Mk) (m : M) (b : Bool) : Prop := (termOk ms = true → ∃ T : Tm, T.good = true ∧ T.post = ms ∧ TmM T m ∧ b = m.ok) ∧ (termOk ms = false → m = ⟨0, [], []⟩ ∧ b = false)
theorem IsOf.one {ms : List Mk} {m k : M} {b c : Bool} (h : IsOf ms m b) (g : IsOf ms k c) : m = k ∧ b = c := by
  cases ht : termOk ms with
  | true =>
    obtain ⟨T, h1, h2, h3, rfl⟩ := h.1 ht
    obtain ⟨U, g1, g2, g3, rfl⟩ := g.1 ht
    obtain rfl := Tm.post_inj h1 g1 (h2.trans g2.symm)
    obtain rfl := h3.one g3
    exact ⟨rfl, rfl⟩
  | false =>
    obtain ⟨rfl, rfl⟩ := h.2 ht
    obtain ⟨rfl, rfl⟩ := g.2 ht
    exact ⟨rfl, rfl⟩
/-- the rows of a machine -/
def rowsM (m : M) (nv ev : Value) : List Thing := [rowT 3 1 nv m.next.length (m.next.map (Value.int .i64)), rowT 4 1 ev m.ends.length (m.ends.map Value.bool)]
/-- what a call has made, beside what was owned before -/
theorem Own.join {wB w w' : World} {ts us : List Thing} (h : Own wB ts w) (hA : Apart w.heap.size us w') (hb : Below w.heap.size w w') : Own wB (us ++ ts) w' := by
  have h' := h.below hb
  refine ⟨h'.keep, ⟨fun t ht => ?_, List.pairwise_append.2 ⟨hA.two, h'.ap.two, fun a ha b hb' k e e' => ?_⟩⟩⟩
  · rcases List.mem_append.1 ht with ht | ht
    · exact ⟨(hA.all t ht).1, fun k e => ⟨Nat.le_trans h.size ((hA.all t ht).2 k e).1, ((hA.all t ht).2 k e).2⟩⟩
    · exact h'.ap.all t ht
  · have := ((hA.all a ha).2 k e).1
    have := ((h.ap.all b hb').2 k e').2
    omega
theorem Own.ints {wB w : World} {ts : List Thing} (h : Own wB ts w) (i : Nat) (hi : i < ts.length) {e : TypeId} {v : Value} {xs : List Int} (he : ts[i] = rowT e 1 v xs.length (xs.map (Value.int .i64))) : IsInts w v xs := IsInts.of_owns (h.row i hi he)
theorem Own.bools {wB w : World} {ts : List Thing} (h : Own wB ts w) (i : Nat) (hi : i < ts.length) {e : TypeId} {v : Value} {xs : List Bool} (he : ts[i] = rowT e 1 v xs.length (xs.map Value.bool)) : IsBools w v xs := IsBools.of_owns (h.row i hi he)
/-- a machine and whether it is one -/
def TmNew (T : Tm) (w : World) (e : Ending) (w' : World) : Prop :=
  ∃ (m : M) (a1 a2 : Option Addr) (c1 c2 : Nat), TmM T m ∧ e = .returned (.tuple #[.agg #[.int .i64 m.st, .slice a1 m.next.length c1, .slice a2 m.ends.length c2], .bool m.ok]) ∧
    Apart w.heap.size [rowT 3 1 (.slice a1 m.next.length c1) m.next.length (m.next.map (Value.int .i64)), rowT 4 1 (.slice a2 m.ends.length c2) m.ends.length (m.ends.map Value.bool)] w' ∧ Below w.heap.size w w'
/-- the result's block is written: rows and cells behind it -/
theorem Own.fin {wB w W : World} {ts us : List Thing} {R : Nat} {x y z x0 y0 z0 : Value} {t : TypeId} (h : Own wB ts w) (i : Nat) (hi : i < ts.length) (he : ts[i] = cellsT R #[x0, y0, z0] t) (hs : us.Sublist (ts.eraseIdx i))
    (hW : W = ((w.setCell ⟨R, 0, none⟩ x).setCell ⟨R, 1, none⟩ y).setCell ⟨R, 2, none⟩ z) :
    Apart wB.heap.size us W ∧ Below wB.heap.size wB W ∧ W.cell? ⟨R, 0, none⟩ = some x ∧ W.cell? ⟨R, 1, none⟩ = some y ∧ W.cell? ⟨R, 2, none⟩ = some z := by
  subst hW
  have p : ts.Perm (cellsT R #[x0, y0, z0] t :: ts.eraseIdx i) := by
    have := set_perm ts i hi ts[i]
    rw [List.set_getElem_self, he] at this; exact this
  have h1 := h.perm p
  have h2 := ((h1.put (i := 0) (by simp) rfl 0 x).put (i := 0) (by simp) rfl 1 y).put (i := 0) (by simp) rfl 2 z
  have c := h2.cells 0 (by simp) rfl
  exact ⟨(h2.sub (hs.cons _)).ap, h2.keep, cellsT_cell c 0, cellsT_cell c 1, cellsT_cell c 2⟩
end Go.Proofs.Ytaghjddndgpljaa

namespace Go.Proofs.Ytaghjddndgpljaa
open Go.RowKit

theorem IsMarks.take {w : World} {a : Option Addr} {n cap : Nat} {ms : List Mk} (h : IsMarks w (.slice a n cap) ms) (k : Nat) (hk : k ≤ n) : IsMarks w (.slice a k cap) (ms.take k) := by
  obtain ⟨a', cap', he, h1, h2, h3⟩ := h
  simp only [Value.slice.injEq] at he
  obtain ⟨rfl, rfl, rfl⟩ := he
  have hl : (ms.take k).length = k := by rw [List.length_take]; omega
  refine ⟨a, cap, by rw [hl], by omega, h2, ?_⟩
  rcases h3 with rfl | ⟨g, off, rfl, hg, hc⟩
  · exact .inl (by simp)
  · by_cases h0 : k = 0
    · exact .inl (by rw [h0]; rfl)
    · refine .inr ⟨g, off, rfl, hg, fun i hi => ?_⟩
      rw [List.getElem_take]
      exact hc i (by omega)
theorem IsMarks.cut {w : World} {g off n cap : Nat} {ms : List Mk} (h : IsMarks w (.slice (some ⟨g, off, none⟩) n cap) ms) (j k : Nat) (hj : j ≤ k) (hk : k ≤ n) : IsMarks w (.slice (some ⟨g, off + j * 5, none⟩) (k - j) (cap - j)) ((ms.take k).drop j) := by
  obtain ⟨a', cap', he, h1, h2, h3⟩ := h
  simp only [Value.slice.injEq] at he
  obtain ⟨rfl, rfl, rfl⟩ := he
  have hl : ((ms.take k).drop j).length = k - j := by rw [List.length_drop, List.length_take]; omega
  refine ⟨some ⟨g, off + j * 5, none⟩, cap - j, by rw [hl], by omega, by omega, ?_⟩
  rcases h3 with rfl | ⟨g', off', he, hg, hc⟩
  · exact .inl (by simp)
  · simp only [Option.some.injEq, Addr.mk.injEq, and_true] at he
    obtain ⟨rfl, rfl⟩ := he
    refine .inr ⟨g, off + j * 5, rfl, hg, fun i hi => ?_⟩
    have := hc (j + i) (by omega)
    rw [show off + j * 5 + i * 5 = off + (j + i) * 5 by omega]
    simp only [List.getElem_drop, List.getElem_take]
    exact this

theorem postL_len (ts : List Tm) : ts.length ≤ (postL ts).length := by
  induction ts with
  | nil => exact Nat.le_refl _
  | cons T ts ih =>
    have e : postL (T :: ts) = T.post ++ postL ts := by simp [postL]
    have := T.post_pos
    rw [e, List.length_append, List.length_cons]; omega

set_option maxHeartbeats 1600000 in
theorem l4Starts_any (pre rest : List Mk) (T : Tm) (v : Value) (en : Int) (w : World) (h : IsMarks w v (pre ++ T.post ++ rest)) (hl : (pre ++ T.post ++ rest).length ≤ 9) (he : en = ((pre.length + T.post.length : Nat) : Int) - 1) :
    Calls Try.prog 140 #[v, .int .i64 en] w fun e w' => e = .returned (.int .i64 (pre.length : Int)) ∧ w = w' := by
  have hpos := T.post_pos
  obtain ⟨a, cap, rfl, ha1, ha2, ha⟩ := h
  have hne : pre ++ T.post ++ rest ≠ [] := fun e => by
    have := congrArg List.length e
    simp only [List.length_append, List.length_nil] at this
    omega
  obtain ⟨g, off, rfl, hg, hc⟩ := ha.resolve_left hne
  unfold maxLen at ha2
  have HC := Lib.hid hc
  have HL := Lib.hid hl
  have hl9 : (pre ++ T.post ++ rest).length ≤ 9 := hl
  have HE : Hid (en = ((pre.length : Int) + (postL [T]).length) - 1) := Lib.hid (by rw [he, postL_one]; omega)
  have HST : Hid (pre ++ T.post ++ rest = pre ++ postL [T] ++ rest) := Lib.hid (by rw [postL_one])
  have hen : 0 ≤ en ∧ en ≤ 8 := by
    simp only [List.length_append] at hl
    omega
  clear hc hl he hne hpos
  generalize pre ++ T.post ++ rest = ms at *
  go_enter Try.func140, Try.ntmps140
  go_wp2_with fail
  go_loopw [5, 6] (fun nv av wr => ∃ (ts : List Tm) (rest' : List Mk) (need a1 : Int), nv = .int .i64 need ∧ av = .int .i64 a1 ∧ need = (ts.length : Int) ∧ a1 = (pre.length : Int) + (postL ts).length - 1 ∧ ms = pre ++ postL ts ++ rest' ∧ wr = w) (fun _ av _ => (intOf av + 1 - (pre.length : Int)).toNat)
  case atStart => exact ⟨[T], rest, 1, en, rfl, rfl, rfl, HE.out, HST.out, rfl⟩
  case round =>
    obtain ⟨ts, rest', need, a1, rfl, rfl, hnd, hat, hms, rfl⟩ := hrel
    have hplen := postL_len ts
    have HND := Lib.hid hnd
    have HAT := Lib.hid hat
    have HMS := Lib.hid hms
    have hmsl : pre.length + (postL ts).length + rest'.length = ms.length := by rw [hms, List.length_append, List.length_append]
    clear HST HE
    by_cases hpos : 0 < need
    · rcases List.eq_nil_or_concat ts with rfl | ⟨ts', T', rfl⟩
      · simp at hnd; omega
      · rw [List.concat_eq_append] at *
        obtain ⟨m, hpe, hcase⟩ := back_one ts' T'
        have HPE := Lib.hid hpe
        have hpl : (postL (ts' ++ [T'])).length = (postL (ts' ++ [T'])).dropLast.length + 1 := by rw [List.length_dropLast]; have := postL_len (ts' ++ [T']); simp at this; omega
        have HPL := Lib.hid hpl
        have hnl : need = (ts'.length : Int) + 1 := by rw [hnd, List.length_append]; simp
        generalize (postL (ts' ++ [T'])).dropLast = q at *
        have hix : pre.length + q.length < ms.length := by omega
        have hgm : ms[pre.length + q.length]? = some m := by
          rw [hms, hpe, List.append_assoc, List.getElem?_append_right (by omega), Nat.add_sub_cancel_left, List.append_assoc, List.getElem?_append_right (by omega), Nat.sub_self]; rfl
        have hgm2 : ms[pre.length + q.length] = m := by rw [List.getElem?_eq_getElem hix] at hgm; exact Option.some.inj hgm
        have hcell := (HC.out (pre.length + q.length) hix).1
        rw [hgm2] at hcell
        have hai : a1 = ((pre.length + q.length : Nat) : Int) := by omega
        have ha0 : 0 ≤ a1 := by omega
        have ham : a1 < (ms.length : Int) := by omega
        have hat2 : a1.toNat = pre.length + q.length := by omega
        have hq1 : IntKind.i64.wrap (a1 - 1) = a1 - 1 := IntWalk.i64_in _ (by omega)
        have hq2 : IntKind.i64.wrap (need - 1) = need - 1 := IntWalk.i64_in _ (by omega)
        have hq3 : IntKind.i64.wrap (need + 1) = need + 1 := IntWalk.i64_in _ (by omega)
        have hMM : ∀ t2 : List Tm, q = postL t2 → (pre.length : Int) + (postL t2).length - 1 = a1 - 1 ∧ ms = pre ++ postL t2 ++ (m :: rest') := fun t2 h => ⟨by rw [← h]; omega, by rw [← h, hms, hpe]; simp⟩
        have HMM := Lib.hid hMM
        have HNL := Lib.hid hnl
        clear hpe hpl hnl hgm hgm2 hMM hnd hat hms hmsl hplen ha0 ham hat2 HPL HPE HAT HMS HND
        have hpx : pre.length ≤ pre.length + q.length := Nat.le_add_right _ _
        generalize hix2 : pre.length + q.length = ix at *
        clear hix2
        subst hai
        rcases hcase with ⟨hk, hq⟩ | ⟨hk, x, hq⟩ | ⟨hk, x, y, hq⟩
        · rw [hk] at hcell
          go_wp2_with fail
          go_roundw
          case rel => exact ⟨ts', m :: rest', need - 1, (ix : Int) - 1, by first | rfl | rw [hq2], by first | rfl | rw [hq1], by have := HNL.out; omega, (HMM.out ts' hq).1.symm, (HMM.out ts' hq).2, by trivial⟩
          case measure => simp [intOf]; omega
        · rw [hk] at hcell
          go_wp2_with fail
          go_roundw
          case rel => exact ⟨ts' ++ [x], m :: rest', need, (ix : Int) - 1, by first | rfl | rw [hq2], by first | rfl | rw [hq1], by have := HNL.out; simp; omega, (HMM.out _ hq).1.symm, (HMM.out _ hq).2, by trivial⟩
          case measure => simp [intOf]; omega
        · have e0 : (m.kind == 0) = false := by rcases hk with h | h <;> rw [h] <;> rfl
          have e3 : (m.kind == 3) = false := by rcases hk with h | h <;> rw [h] <;> rfl
          clear hk
          generalize m.kind = mk at *
          go_wp2_with fail
          go_roundw
          case rel => exact ⟨ts' ++ [x, y], m :: rest', need + 1, (ix : Int) - 1, by first | rfl | rw [hq3], by first | rfl | rw [hq1], by have := HNL.out; simp; omega, (HMM.out _ hq).1.symm, (HMM.out _ hq).2, by trivial⟩
          case measure => simp [intOf]; omega
    · obtain rfl : ts = [] := List.eq_nil_of_length_eq_zero (by omega)
      have ha1 : a1 = (pre.length : Int) - 1 := by rw [hat, postL_nil]; simp
      have hp9 : pre.length ≤ 9 := by omega
      have hq1 : IntKind.i64.wrap (a1 + 1) = (pre.length : Int) := by rw [IntWalk.i64_in _ (by omega)]; omega
      clear hat hms hnd hmsl hplen ha1
      go_wp2_with fail
      go_ret
      exact ⟨rfl, rfl⟩

theorem IsMarks.cells {w : World} {a : Option Addr} {n cap : Nat} {ms : List Mk} (h : IsMarks w (.slice a n cap) ms) (h0 : 0 < ms.length) : ∃ g off : Nat, a = some ⟨g, off, none⟩ ∧ n = ms.length ∧ n ≤ cap ∧ cap ≤ maxLen ∧ g < w.heap.size ∧ ∀ k (h : k < ms.length), markAt w g (off + k * 5) ms[k] := by
  obtain ⟨a', cap', he, h1, h2, h3⟩ := h
  simp only [Value.slice.injEq] at he
  obtain ⟨rfl, rfl, rfl⟩ := he
  obtain ⟨g, off, rfl, hg, hc⟩ := h3.resolve_left (fun e => by rw [e] at h0; exact absurd h0 (Nat.lt_irrefl 0))
  exact ⟨g, off, rfl, rfl, h1, h2, hg, hc⟩
theorem IsMarks.slice {w : World} {v : Value} {ms : List Mk} (h : IsMarks w v ms) : ∃ a n c, v = .slice a n c := by
  obtain ⟨a, cap, rfl, _⟩ := h
  exact ⟨_, _, _, rfl⟩
end Go.Proofs.Ytaghjddndgpljaa

namespace Go.Proofs.Ytaghjddndgpljaa
open Go.RowKit

/-- a machine in memory: its two slices, and what they hold -/
abbrev PM := Value × Value × M
/-- the cells of machines -/
def cellsP (ps : List PM) : List Value := ps.flatMap fun p => [.int .i64 p.2.2.st, p.1, p.2.1]
theorem cellsP_length (ps : List PM) : (cellsP ps).length = ps.length * 3 := by
  induction ps with
  | nil => rfl
  | cons p ps ih => simp only [cellsP, List.flatMap_cons, List.length_append, List.length_cons, List.length_nil] at ih ⊢; omega
theorem cellsP_append (a b : List PM) : cellsP (a ++ b) = cellsP a ++ cellsP b := by simp [cellsP]
theorem cellsP_at (ps : List PM) : ∀ k (h : k < ps.length), (cellsP ps)[k * 3]? = some (.int .i64 ps[k].2.2.st) ∧ (cellsP ps)[k * 3 + 1]? = some ps[k].1 ∧ (cellsP ps)[k * 3 + 2]? = some ps[k].2.1 := by
  induction ps with
  | nil => intro k h; exact absurd h (Nat.not_lt_zero k)
  | cons p ps ih =>
    intro k h
    match k, h with
    | 0, _ => exact ⟨rfl, rfl, rfl⟩
    | k + 1, h =>
      obtain ⟨h0, h1, h2⟩ := ih k (by simpa using h)
      have e : cellsP (p :: ps) = [.int .i64 p.2.2.st, p.1, p.2.1] ++ cellsP ps := by simp [cellsP]
      have ei : ∀ j, (k + 1) * 3 + j = (k * 3 + j) + 3 := fun j => by omega
      rw [e]
      refine ⟨?_, ?_, ?_⟩
      · rw [show (k + 1) * 3 = k * 3 + 3 by omega]; simpa using h0
      · rw [ei]; simpa using h1
      · rw [ei]; simpa using h2
/-- a slice of machines -/
def IsMs (W : World) (v : Value) (ps : List PM) : Prop :=
  ∃ (a : Option Addr) (cap : Nat), v = .slice a ps.length cap ∧ ps.length ≤ cap ∧ cap ≤ maxLen ∧ (ps = [] ∨ ∃ g off : Nat, a = some ⟨g, off, none⟩ ∧ g < W.heap.size ∧ ∀ k (h : k < ps.length), W.cell? ⟨g, off + k * 3, none⟩ = some (.int .i64 ps[k].2.2.st) ∧ W.cell? ⟨g, off + k * 3 + 1, none⟩ = some ps[k].1 ∧ W.cell? ⟨g, off + k * 3 + 2, none⟩ = some ps[k].2.1)
theorem IsMs.cells {W : World} {v : Value} {ps : List PM} (h : IsMs W v ps) (h0 : 0 < ps.length) : ∃ (g off cap : Nat), v = .slice (some ⟨g, off, none⟩) ps.length cap ∧ ps.length ≤ cap ∧ cap ≤ maxLen ∧ g < W.heap.size ∧ ∀ k (h : k < ps.length), W.cell? ⟨g, off + k * 3, none⟩ = some (.int .i64 ps[k].2.2.st) ∧ W.cell? ⟨g, off + k * 3 + 1, none⟩ = some ps[k].1 ∧ W.cell? ⟨g, off + k * 3 + 2, none⟩ = some ps[k].2.1 := by
  obtain ⟨a, cap, rfl, h1, h2, h3⟩ := h
  obtain ⟨g, off, rfl, hg, hc⟩ := h3.resolve_left (fun e => by rw [e] at h0; exact absurd h0 (Nat.lt_irrefl 0))
  exact ⟨g, off, cap, rfl, h1, h2, hg, hc⟩
/-- machines that are read, those of terms -/
def ReadsP (W : World) (p : PM) : Prop := IsInts W p.1 p.2.2.next ∧ IsBools W p.2.1 p.2.2.ends
theorem ReadsP.below {W W' : World} {p : PM} (h : ReadsP W p) (hb : Below W.heap.size W W') : ReadsP W' p := ⟨h.1.below hb, h.2.below hb⟩
def Terms : List Tm → List PM → Prop
  | [], [] => True
  | T :: Ts, p :: ps => TmM T p.2.2 ∧ Terms Ts ps
  | _, _ => False
theorem Terms.len : ∀ {Ts : List Tm} {ps : List PM}, Terms Ts ps → Ts.length = ps.length
  | [], [], _ => rfl
  | _ :: _, _ :: _, h => by simp [Terms.len h.2]
  | [], _ :: _, h => by cases h
  | _ :: _, [], h => by cases h
/-- a machine of a term, made -/
def TmMade (T : Tm) (w : World) (e : Ending) (w' : World) : Prop :=
  ∃ (m : M) (a1 a2 : Option Addr) (c1 c2 : Nat), TmM T m ∧ e = .returned (.agg #[.int .i64 m.st, .slice a1 m.next.length c1, .slice a2 m.ends.length c2]) ∧
    Apart w.heap.size [rowT 3 1 (.slice a1 m.next.length c1) m.next.length (m.next.map (Value.int .i64)), rowT 4 1 (.slice a2 m.ends.length c2) m.ends.length (m.ends.map Value.bool)] w' ∧ Below w.heap.size w w'
/-- two blocks are written, the last one the result's -/
theorem Own.fin2 {wB w W : World} {ts us : List Thing} {R S : Nat} {x y z x0 y0 z0 : Value} {t t' : TypeId} {cs : Array Value} (h : Own wB (cellsT S cs t' :: cellsT R #[x0, y0, z0] t :: ts) w) (hs : us.Sublist ts)
    (hW : W = ((w.setCell ⟨R, 0, none⟩ x).setCell ⟨R, 1, none⟩ y).setCell ⟨R, 2, none⟩ z) :
    Apart wB.heap.size us W ∧ Below wB.heap.size wB W ∧ W.cell? ⟨R, 0, none⟩ = some x ∧ W.cell? ⟨R, 1, none⟩ = some y ∧ W.cell? ⟨R, 2, none⟩ = some z :=
  h.fin (us := us) 1 (by simp) rfl (hs.cons _) hW
/-- a block of three cells is written -/
theorem Own.put3 {wB w : World} {ts : List Thing} {R : Nat} {x y z x0 y0 z0 : Value} {t : TypeId} (h : Own wB (cellsT R #[x0, y0, z0] t :: ts) w) :
    Own wB (cellsT R #[x, y, z] t :: ts) (((w.setCell ⟨R, 0, none⟩ x).setCell ⟨R, 1, none⟩ y).setCell ⟨R, 2, none⟩ z) :=
  ((h.put (i := 0) (by simp) rfl 0 x).put (i := 0) (by simp) rfl 1 y).put (i := 0) (by simp) rfl 2 z

set_option maxHeartbeats 3200000 in
theorem partMachine_any (m : Mk) (subs : List Tm) (T : Tm) (hp : Puts m subs T) (hg : T.good = true) (hwf : m.wf) (ps : List PM) (hps : Terms subs ps) (uv : Value) (w : World) (hu : IsMs w uv ps) (hr : ∀ p ∈ ps, ReadsP w p) :
    Calls Try.prog 113 #[m.val, uv] w (TmMade T w) := by
  cases hp with
  | rule r =>
    obtain ⟨kd, lt, th, mn⟩ := r
    obtain ⟨-, -, w1, w2, -⟩ := hwf
    have hrok : (Ru.mk kd lt th mn).ok = true := hg
    have HC := Lib.hid (fun W => implMachineFor_any kd lt th mn W w1 w2)
    have HMF := Lib.hid (mf_ok hrok)
    rw [hrok] at HC
    have HTM : Hid (∀ k, IsLmZ (mf ⟨kd, lt, th, mn⟩) k → TmM (.rule ⟨kd, lt, th, mn⟩) k) := Lib.hid (fun k h => h)
    generalize mf ⟨kd, lt, th, mn⟩ = mm at *
    have O0 := ((((Own.nil w).box #[.int .i64 0, .int .i64 kd, .string lt, .string th, .int .i64 mn] 109).box #[.int .i64 0, .slice none 0 0, .slice none 0 0] 26).box #[.int .i64 0, .slice none 0 0, .slice none 0 0] 26)
    rw [World.size_alloc, World.size_alloc] at O0
    have O0 := Lib.hid O0
    clear hu hr hps hrok hg
    show Calls Try.prog _ #[.agg #[.int .i64 0, .int .i64 kd, .string lt, .string th, .int .i64 mn], uv] w _
    go_enter Try.func113, Try.ntmps113
    go_upto_region 2 with fail
    generalize hW3 : (((w.alloc (.cells #[.int .i64 0, .int .i64 kd, .string lt, .string th, .int .i64 mn] 109)).alloc (.cells #[.int .i64 0, .slice none 0 0, .slice none 0 0] 26)).alloc (.cells #[.int .i64 0, .slice none 0 0, .slice none 0 0] 26)) = W3 at *
    clear hW3
    generalize hR2 : w.heap.size + 1 + 1 = R2 at *
    clear hR2
    generalize hR1 : w.heap.size + 1 = R1 at *
    clear hR1
    generalize hR0 : w.heap.size = R0 at *
    have m0 := cellsT_cell (O0.out.cells 2 (by simp) rfl) 0
    have m1 := cellsT_cell (O0.out.cells 2 (by simp) rfl) 1
    have m2 := cellsT_cell (O0.out.cells 2 (by simp) rfl) 2
    have m3 := cellsT_cell (O0.out.cells 2 (by simp) rfl) 3
    have m4 := cellsT_cell (O0.out.cells 2 (by simp) rfl) 4
    simp only [List.getElem?_toArray, List.getElem?_cons_succ, List.getElem?_cons_zero] at m0 m1 m2 m3 m4
    clear hR0
    go_wp2_with fail
    refine (HC.out _).mono ?_
    rintro e w4 ⟨a1, a2, d1, d2, rfl, hA4, hb4⟩
    have O4 := Lib.hid (O0.out.join hA4 hb4)
    have z0 := cellsT_cell (O4.out.cells 2 (by simp) rfl) 0
    have z1 := cellsT_cell (O4.out.cells 2 (by simp) rfl) 1
    have z2 := cellsT_cell (O4.out.cells 2 (by simp) rfl) 2
    have zf := cellsT_frozen (O4.out.cells 2 (by simp) rfl)
    simp only [List.getElem?_toArray, List.getElem?_cons_succ, List.getElem?_cons_zero] at z0 z1 z2
    clear hA4 hb4 m0 m1 m2 m3 m4
    have O5 := Lib.hid (((O4.out.perm (us := [_, _, _, _, _]) (List.perm_middle (l₁ := [_, _]) (l₂ := [_, _]))).put3 (x := .int .i64 mm.st) (y := .slice a1 mm.next.length d1) (z := .slice a2 mm.ends.length d2)))
    go_upto_region 4 with fail
    generalize hW5 : (((w4.setCell ⟨R2, 0, none⟩ (.int .i64 mm.st)).setCell ⟨R2, 1, none⟩ (.slice a1 mm.next.length d1)).setCell ⟨R2, 2, none⟩ (.slice a2 mm.ends.length d2)) = W5 at *
    clear hW5 z0 z1 z2 zf
    have b0 := cellsT_cell (O5.out.cells 0 (by simp) rfl) 0
    have b1 := cellsT_cell (O5.out.cells 0 (by simp) rfl) 1
    have b2 := cellsT_cell (O5.out.cells 0 (by simp) rfl) 2
    simp only [List.getElem?_toArray, List.getElem?_cons_succ, List.getElem?_cons_zero] at b0 b1 b2
    have HLM := Lib.hid (implLeastZ mm (.slice a1 mm.next.length d1) (.slice a2 mm.ends.length d2) W5 (O5.out.ints 1 (by simp) rfl) (O5.out.bools 2 (by simp) rfl) (M.ok_wf HMF.out))
    go_wp2_with fail
    refine HLM.out.mono ?_
    rintro e w6 ⟨k, hk, a3, a4, d3, d4, rfl, hA6, hb6⟩
    have HK := Lib.hid (HTM.out k hk)
    have O6 := Lib.hid (O5.out.join hA6 hb6)
    clear hk hA6 hb6 b0 b1 b2
    have z0 := cellsT_cell (O6.out.cells 2 (by simp) rfl) 0
    have z1 := cellsT_cell (O6.out.cells 2 (by simp) rfl) 1
    have z2 := cellsT_cell (O6.out.cells 2 (by simp) rfl) 2
    have zf := cellsT_frozen (O6.out.cells 2 (by simp) rfl)
    simp only [List.getElem?_toArray, List.getElem?_cons_succ, List.getElem?_cons_zero] at z0 z1 z2
    have O7 := Lib.hid (((O6.out.perm (us := [_, _, _, _, _, _, _]) (List.perm_middle (l₁ := [_, _]) (l₂ := [_, _, _, _]))).put3 (x := .int .i64 k.st) (y := .slice a3 k.next.length d3) (z := .slice a4 k.ends.length d4)))
    go_upto_region 11 with fail
    generalize hW7 : (((w6.setCell ⟨R2, 0, none⟩ (.int .i64 k.st)).setCell ⟨R2, 1, none⟩ (.slice a3 k.next.length d3)).setCell ⟨R2, 2, none⟩ (.slice a4 k.ends.length d4)) = W7 at *
    clear hW7 z0 z1 z2 zf
    have z0 := cellsT_cell (O7.out.cells 5 (by simp) rfl) 0
    have z1 := cellsT_cell (O7.out.cells 5 (by simp) rfl) 1
    have z2 := cellsT_cell (O7.out.cells 5 (by simp) rfl) 2
    have zf := cellsT_frozen (O7.out.cells 5 (by simp) rfl)
    simp only [List.getElem?_toArray, List.getElem?_cons_succ, List.getElem?_cons_zero] at z0 z1 z2
    have b0 := cellsT_cell (O7.out.cells 0 (by simp) rfl) 0
    have b1 := cellsT_cell (O7.out.cells 0 (by simp) rfl) 1
    have b2 := cellsT_cell (O7.out.cells 0 (by simp) rfl) 2
    have bf := cellsT_frozen (O7.out.cells 0 (by simp) rfl)
    simp only [List.getElem?_toArray, List.getElem?_cons_succ, List.getElem?_cons_zero] at b0 b1 b2
    obtain ⟨f1, f2, r0, r1, r2⟩ := O7.out.fin (us := [_, _]) 5 (by simp) rfl (List.Sublist.cons _ (List.Sublist.cons_cons _ (List.Sublist.cons_cons _ (List.nil_sublist _)))) (x := .int .i64 k.st) (y := .slice a3 k.next.length d3) (z := .slice a4 k.ends.length d4) rfl
    have HF := Lib.hid (And.intro f1 f2)
    clear f1 f2
    go_wp2_with fail
    generalize (((W7.setCell ⟨R1, 0, none⟩ (.int .i64 k.st)).setCell ⟨R1, 1, none⟩ (.slice a3 k.next.length d3)).setCell ⟨R1, 2, none⟩ (.slice a4 k.ends.length d4)) = WE at *
    refine bodyPost_ret (v := .agg #[.int .i64 k.st, .slice a3 k.next.length d3, .slice a4 k.ends.length d4]) ?_ rfl ⟨k, a3, a4, d3, d4, HK.out, rfl, HF.out.1, HF.out.2⟩
    simp [results, Try.results113, go_sem, r0, r1, r2]
  | not a =>
    have hga : a.good = true := hg
    match ps, hps with
    | [p], hps =>
    obtain ⟨hta, -⟩ := hps
    obtain ⟨g, off, cap, rfl, hc1, hc2, hgl, hc⟩ := hu.cells (by simp)
    obtain ⟨u0, u1, u2⟩ := hc 0 (by simp)
    obtain ⟨i1, i2⟩ := hr p (by simp)
    obtain ⟨nv, ev, m⟩ := p
    simp only [List.getElem_cons_zero, Nat.zero_mul, Nat.add_zero] at u0 u1 u2 i1 i2 hta
    obtain ⟨an, nn, cn, rfl⟩ := i1.slice
    obtain ⟨ae, ne, ce, rfl⟩ := i2.slice
    have HTM : Hid (∀ k b, IsJoin m.ok (fun u => !m.lang 0 u) k b → TmM (.not a) k) := Lib.hid (fun k b h => ⟨m, b, hta, h⟩)
    have HWF := Lib.hid (hta.wf hga)
    have I1 := Lib.hid i1
    have I2 := Lib.hid i2
    unfold maxLen at hc2
    simp only [List.length_singleton] at hc1
    clear hu hr hc hga hg hta i1 i2
    have O0 := ((((Own.nil w).box #[.int .i64 3, .int .i64 0, .string ⟨#[]⟩, .string ⟨#[]⟩, .int .i64 0] 109).box #[.int .i64 0, .slice none 0 0, .slice none 0 0] 26).box #[.int .i64 0, .slice none 0 0, .slice none 0 0] 26)
    rw [World.size_alloc, World.size_alloc] at O0
    have O0 := Lib.hid O0
    show Calls Try.prog _ #[.agg #[.int .i64 3, .int .i64 0, .string ⟨#[]⟩, .string ⟨#[]⟩, .int .i64 0], .slice (some ⟨g, off, none⟩) 1 cap] w _
    go_enter Try.func113, Try.ntmps113
    go_upto_region 2 with fail
    generalize hW3 : (((w.alloc (.cells #[.int .i64 3, .int .i64 0, .string ⟨#[]⟩, .string ⟨#[]⟩, .int .i64 0] 109)).alloc (.cells #[.int .i64 0, .slice none 0 0, .slice none 0 0] 26)).alloc (.cells #[.int .i64 0, .slice none 0 0, .slice none 0 0] 26)) = W3 at *
    clear hW3
    generalize hR2 : w.heap.size + 1 + 1 = R2 at *
    clear hR2
    generalize hR1 : w.heap.size + 1 = R1 at *
    clear hR1
    have BW := Lib.hid O0.out.keep
    have v0 := (BW.out.cell (p := ⟨g, off, none⟩) hgl).trans u0
    have v1 := (BW.out.cell (p := ⟨g, off + 1, none⟩) hgl).trans u1
    have v2 := (BW.out.cell (p := ⟨g, off + 2, none⟩) hgl).trans u2
    have m0 := cellsT_cell (O0.out.cells 2 (by simp) rfl) 0
    simp only [List.getElem?_toArray, List.getElem?_cons_zero] at m0
    have HJN := Lib.hid (implNot_any m _ _ W3 (I1.out.below BW.out) (I2.out.below BW.out) HWF.out)
    clear u0 u1 u2
    generalize w.heap.size = R0 at *
    go_wp2_with fail
    refine HJN.out.mono ?_
    rintro e w4 ⟨k, r, a1, a2, d1, d2, hj, rfl, hA4, hb4⟩
    have HK := Lib.hid (HTM.out k r hj)
    have O4 := Lib.hid (O0.out.join hA4 hb4)
    have z0 := cellsT_cell (O4.out.cells 2 (by simp) rfl) 0
    have z1 := cellsT_cell (O4.out.cells 2 (by simp) rfl) 1
    have z2 := cellsT_cell (O4.out.cells 2 (by simp) rfl) 2
    have zf := cellsT_frozen (O4.out.cells 2 (by simp) rfl)
    simp only [List.getElem?_toArray, List.getElem?_cons_succ, List.getElem?_cons_zero] at z0 z1 z2
    clear hj hA4 hb4 m0 v0 v1 v2
    go_upto_region 11 with fail
    have O5 := Lib.hid (((O4.out.perm (us := [_, _, _, _, _]) (List.perm_middle (l₁ := [_, _]) (l₂ := [_, _]))).put3 (x := .int .i64 k.st) (y := .slice a1 k.next.length d1) (z := .slice a2 k.ends.length d2)))
    generalize hW5 : (((w4.setCell ⟨R2, 0, none⟩ (.int .i64 k.st)).setCell ⟨R2, 1, none⟩ (.slice a1 k.next.length d1)).setCell ⟨R2, 2, none⟩ (.slice a2 k.ends.length d2)) = W5 at *
    clear hW5 z0 z1 z2 zf
    have y0 := cellsT_cell (O5.out.cells 3 (by simp) rfl) 0
    have y1 := cellsT_cell (O5.out.cells 3 (by simp) rfl) 1
    have y2 := cellsT_cell (O5.out.cells 3 (by simp) rfl) 2
    have yf := cellsT_frozen (O5.out.cells 3 (by simp) rfl)
    simp only [List.getElem?_toArray, List.getElem?_cons_succ, List.getElem?_cons_zero] at y0 y1 y2
    have b0 := cellsT_cell (O5.out.cells 0 (by simp) rfl) 0
    have b1 := cellsT_cell (O5.out.cells 0 (by simp) rfl) 1
    have b2 := cellsT_cell (O5.out.cells 0 (by simp) rfl) 2
    have bf := cellsT_frozen (O5.out.cells 0 (by simp) rfl)
    simp only [List.getElem?_toArray, List.getElem?_cons_succ, List.getElem?_cons_zero] at b0 b1 b2
    obtain ⟨f1, f2, r0, r1, r2⟩ := O5.out.fin (us := [_, _]) 3 (by simp) rfl (List.Sublist.cons _ (List.Sublist.cons_cons _ (List.Sublist.cons_cons _ (List.nil_sublist _)))) (x := .int .i64 k.st) (y := .slice a1 k.next.length d1) (z := .slice a2 k.ends.length d2) rfl
    have HF := Lib.hid (And.intro f1 f2)
    clear f1 f2
    go_wp2_with fail
    generalize (((W5.setCell ⟨R1, 0, none⟩ (.int .i64 k.st)).setCell ⟨R1, 1, none⟩ (.slice a1 k.next.length d1)).setCell ⟨R1, 2, none⟩ (.slice a2 k.ends.length d2)) = WE at *
    refine bodyPost_ret (v := .agg #[.int .i64 k.st, .slice a1 k.next.length d1, .slice a2 k.ends.length d2]) ?_ rfl ⟨k, a1, a2, d1, d2, HK.out, rfl, HF.out.1, HF.out.2⟩
    simp [results, Try.results113, go_sem, r0, r1, r2]
  | two o a b =>
    have hgab : a.good = true ∧ b.good = true := by simpa [Tm.good] using hg
    match ps, hps with
    | [p, q], hps =>
    obtain ⟨hta, htb, -⟩ := hps
    obtain ⟨g, off, cap, rfl, hc1, hc2, hgl, hc⟩ := hu.cells (by simp)
    obtain ⟨u0, u1, u2⟩ := hc 0 (by simp)
    obtain ⟨t0, t1, t2⟩ := hc 1 (by simp)
    obtain ⟨i1, i2⟩ := hr p (by simp)
    obtain ⟨j1, j2⟩ := hr q (by simp)
    obtain ⟨nv, ev, m⟩ := p
    obtain ⟨nu, eu, l⟩ := q
    simp only [List.getElem_cons_zero, List.getElem_cons_succ, Nat.zero_mul, Nat.one_mul, Nat.add_zero] at u0 u1 u2 t0 t1 t2 i1 i2 j1 j2 hta htb
    obtain ⟨an, nn, cn, rfl⟩ := i1.slice
    obtain ⟨ae, ne, ce, rfl⟩ := i2.slice
    obtain ⟨an', nn', cn', rfl⟩ := j1.slice
    obtain ⟨ae', ne', ce', rfl⟩ := j2.slice
    have HWF := Lib.hid (hta.wf hgab.1)
    have HWG := Lib.hid (htb.wf hgab.2)
    have I1 := Lib.hid i1
    have I2 := Lib.hid i2
    have J1 := Lib.hid j1
    have J2 := Lib.hid j2
    unfold maxLen at hc2
    have hcap2 : 2 ≤ cap := by simpa using hc1
    clear hu hr hc hgab hg i1 i2 j1 j2 hc1
    cases o with
    | true =>
    have HTM : Hid (∀ k rr, IsJoin (m.ok && l.ok) (fun u => m.lang 0 u || l.lang 0 u) k rr → TmM (.two true a b) k) := Lib.hid (fun k rr h => ⟨m, l, rr, hta, htb, h⟩)
    clear hta htb
    have O0 := ((((Own.nil w).box #[.int .i64 2, .int .i64 0, .string ⟨#[]⟩, .string ⟨#[]⟩, .int .i64 0] 109).box #[.int .i64 0, .slice none 0 0, .slice none 0 0] 26).box #[.int .i64 0, .slice none 0 0, .slice none 0 0] 26)
    rw [World.size_alloc, World.size_alloc] at O0
    have O0 := Lib.hid O0
    show Calls Try.prog _ #[.agg #[.int .i64 2, .int .i64 0, .string ⟨#[]⟩, .string ⟨#[]⟩, .int .i64 0], .slice (some ⟨g, off, none⟩) 2 cap] w _
    go_enter Try.func113, Try.ntmps113
    go_upto_region 2 with fail
    generalize hW3 : (((w.alloc (.cells #[.int .i64 2, .int .i64 0, .string ⟨#[]⟩, .string ⟨#[]⟩, .int .i64 0] 109)).alloc (.cells #[.int .i64 0, .slice none 0 0, .slice none 0 0] 26)).alloc (.cells #[.int .i64 0, .slice none 0 0, .slice none 0 0] 26)) = W3 at *
    clear hW3
    generalize hR2 : w.heap.size + 1 + 1 = R2 at *
    clear hR2
    generalize hR1 : w.heap.size + 1 = R1 at *
    clear hR1
    have BW := Lib.hid O0.out.keep
    have v0 := (BW.out.cell (p := ⟨g, off, none⟩) hgl).trans u0
    have v1 := (BW.out.cell (p := ⟨g, off + 1, none⟩) hgl).trans u1
    have v2 := (BW.out.cell (p := ⟨g, off + 2, none⟩) hgl).trans u2
    have x0 := (BW.out.cell (p := ⟨g, off + 3, none⟩) hgl).trans t0
    have x1 := (BW.out.cell (p := ⟨g, off + 3 + 1, none⟩) hgl).trans t1
    have x2 := (BW.out.cell (p := ⟨g, off + 3 + 2, none⟩) hgl).trans t2
    have m0 := cellsT_cell (O0.out.cells 2 (by simp) rfl) 0
    simp only [List.getElem?_toArray, List.getElem?_cons_zero] at m0
    have BWd := Lib.hid (BW.out.drew)
    have HJN := Lib.hid (implEither_any m l _ _ _ _ W3.drew (I1.out.below BWd.out) (I2.out.below BWd.out) (J1.out.below BWd.out) (J2.out.below BWd.out) HWF.out HWG.out)
    have O0d := Lib.hid (O0.out.same (grown_drew W3 none))
    clear u0 u1 u2 t0 t1 t2
    generalize w.heap.size = R0 at *
    go_wp2_with fail
    go_region_law (first | (go_simp; go_at_call 152; refine HJN.out.mono ?_; rintro e w4 ⟨k, r, a1, a2, d1, d2, hj, rfl, hA4, hb4⟩; have HK := Lib.hid (HTM.out k r hj); have O4 := Lib.hid (O0d.out.join hA4 hb4); have z0 := cellsT_cell (O4.out.cells 2 (by simp) rfl) 0; have z1 := cellsT_cell (O4.out.cells 2 (by simp) rfl) 1; have z2 := cellsT_cell (O4.out.cells 2 (by simp) rfl) 2; have zf := cellsT_frozen (O4.out.cells 2 (by simp) rfl); simp only [List.getElem?_toArray, List.getElem?_cons_succ, List.getElem?_cons_zero] at z0 z1 z2))
    all_goals
      go_upto_region 11 with fail
      have O5 := Lib.hid (((O4.out.perm (us := [_, _, _, _, _]) (List.perm_middle (l₁ := [_, _]) (l₂ := [_, _]))).put3 (x := .int .i64 k.st) (y := .slice a1 k.next.length d1) (z := .slice a2 k.ends.length d2)))
      generalize hW5 : (((w4.setCell ⟨R2, 0, none⟩ (.int .i64 k.st)).setCell ⟨R2, 1, none⟩ (.slice a1 k.next.length d1)).setCell ⟨R2, 2, none⟩ (.slice a2 k.ends.length d2)) = W5 at *
      clear hW5 z0 z1 z2 zf
      have y0 := cellsT_cell (O5.out.cells 3 (by simp) rfl) 0
      have y1 := cellsT_cell (O5.out.cells 3 (by simp) rfl) 1
      have y2 := cellsT_cell (O5.out.cells 3 (by simp) rfl) 2
      have yf := cellsT_frozen (O5.out.cells 3 (by simp) rfl)
      simp only [List.getElem?_toArray, List.getElem?_cons_succ, List.getElem?_cons_zero] at y0 y1 y2
      have b0 := cellsT_cell (O5.out.cells 0 (by simp) rfl) 0
      have b1 := cellsT_cell (O5.out.cells 0 (by simp) rfl) 1
      have b2 := cellsT_cell (O5.out.cells 0 (by simp) rfl) 2
      have bf := cellsT_frozen (O5.out.cells 0 (by simp) rfl)
      simp only [List.getElem?_toArray, List.getElem?_cons_succ, List.getElem?_cons_zero] at b0 b1 b2
      obtain ⟨f1, f2, r0, r1, r2⟩ := O5.out.fin (us := [_, _]) 3 (by simp) rfl (List.Sublist.cons _ (List.Sublist.cons_cons _ (List.Sublist.cons_cons _ (List.nil_sublist _)))) (x := .int .i64 k.st) (y := .slice a1 k.next.length d1) (z := .slice a2 k.ends.length d2) rfl
      have HF := Lib.hid (And.intro f1 f2)
      clear f1 f2
      go_wp2_with fail
      generalize (((W5.setCell ⟨R1, 0, none⟩ (.int .i64 k.st)).setCell ⟨R1, 1, none⟩ (.slice a1 k.next.length d1)).setCell ⟨R1, 2, none⟩ (.slice a2 k.ends.length d2)) = WE at *
      refine bodyPost_ret (v := .agg #[.int .i64 k.st, .slice a1 k.next.length d1, .slice a2 k.ends.length d2]) ?_ rfl ⟨k, a1, a2, d1, d2, HK.out, rfl, HF.out.1, HF.out.2⟩
      simp [results, Try.results113, go_sem, r0, r1, r2]
    | false =>
    have HTM : Hid (∀ k rr, IsJoin (m.ok && l.ok) (fun u => m.lang 0 u && l.lang 0 u) k rr → TmM (.two false a b) k) := Lib.hid (fun k rr h => ⟨m, l, rr, hta, htb, h⟩)
    clear hta htb
    have O0 := ((((Own.nil w).box #[.int .i64 1, .int .i64 0, .string ⟨#[]⟩, .string ⟨#[]⟩, .int .i64 0] 109).box #[.int .i64 0, .slice none 0 0, .slice none 0 0] 26).box #[.int .i64 0, .slice none 0 0, .slice none 0 0] 26)
    rw [World.size_alloc, World.size_alloc] at O0
    have O0 := Lib.hid O0
    show Calls Try.prog _ #[.agg #[.int .i64 1, .int .i64 0, .string ⟨#[]⟩, .string ⟨#[]⟩, .int .i64 0], .slice (some ⟨g, off, none⟩) 2 cap] w _
    go_enter Try.func113, Try.ntmps113
    go_upto_region 2 with fail
    generalize hW3 : (((w.alloc (.cells #[.int .i64 1, .int .i64 0, .string ⟨#[]⟩, .string ⟨#[]⟩, .int .i64 0] 109)).alloc (.cells #[.int .i64 0, .slice none 0 0, .slice none 0 0] 26)).alloc (.cells #[.int .i64 0, .slice none 0 0, .slice none 0 0] 26)) = W3 at *
    clear hW3
    generalize hR2 : w.heap.size + 1 + 1 = R2 at *
    clear hR2
    generalize hR1 : w.heap.size + 1 = R1 at *
    clear hR1
    have BW := Lib.hid O0.out.keep
    have v0 := (BW.out.cell (p := ⟨g, off, none⟩) hgl).trans u0
    have v1 := (BW.out.cell (p := ⟨g, off + 1, none⟩) hgl).trans u1
    have v2 := (BW.out.cell (p := ⟨g, off + 2, none⟩) hgl).trans u2
    have x0 := (BW.out.cell (p := ⟨g, off + 3, none⟩) hgl).trans t0
    have x1 := (BW.out.cell (p := ⟨g, off + 3 + 1, none⟩) hgl).trans t1
    have x2 := (BW.out.cell (p := ⟨g, off + 3 + 2, none⟩) hgl).trans t2
    have m0 := cellsT_cell (O0.out.cells 2 (by simp) rfl) 0
    simp only [List.getElem?_toArray, List.getElem?_cons_zero] at m0
    have BWd := Lib.hid (BW.out.drew)
    have HJN := Lib.hid (implBoth_any m l _ _ _ _ W3.drew (I1.out.below BWd.out) (I2.out.below BWd.out) (J1.out.below BWd.out) (J2.out.below BWd.out) HWF.out HWG.out)
    have O0d := Lib.hid (O0.out.same (grown_drew W3 none))
    clear u0 u1 u2 t0 t1 t2
    generalize w.heap.size = R0 at *
    go_wp2_with fail
    go_region_law (first | (go_simp; go_at_call 22; refine HJN.out.mono ?_; rintro e w4 ⟨k, r, a1, a2, d1, d2, hj, rfl, hA4, hb4⟩; have HK := Lib.hid (HTM.out k r hj); have O4 := Lib.hid (O0d.out.join hA4 hb4); have z0 := cellsT_cell (O4.out.cells 2 (by simp) rfl) 0; have z1 := cellsT_cell (O4.out.cells 2 (by simp) rfl) 1; have z2 := cellsT_cell (O4.out.cells 2 (by simp) rfl) 2; have zf := cellsT_frozen (O4.out.cells 2 (by simp) rfl); simp only [List.getElem?_toArray, List.getElem?_cons_succ, List.getElem?_cons_zero] at z0 z1 z2))
    all_goals
      go_upto_region 11 with fail
      have O5 := Lib.hid (((O4.out.perm (us := [_, _, _, _, _]) (List.perm_middle (l₁ := [_, _]) (l₂ := [_, _]))).put3 (x := .int .i64 k.st) (y := .slice a1 k.next.length d1) (z := .slice a2 k.ends.length d2)))
      generalize hW5 : (((w4.setCell ⟨R2, 0, none⟩ (.int .i64 k.st)).setCell ⟨R2, 1, none⟩ (.slice a1 k.next.length d1)).setCell ⟨R2, 2, none⟩ (.slice a2 k.ends.length d2)) = W5 at *
      clear hW5 z0 z1 z2 zf
      have y0 := cellsT_cell (O5.out.cells 3 (by simp) rfl) 0
      have y1 := cellsT_cell (O5.out.cells 3 (by simp) rfl) 1
      have y2 := cellsT_cell (O5.out.cells 3 (by simp) rfl) 2
      have yf := cellsT_frozen (O5.out.cells 3 (by simp) rfl)
      simp only [List.getElem?_toArray, List.getElem?_cons_succ, List.getElem?_cons_zero] at y0 y1 y2
      have b0 := cellsT_cell (O5.out.cells 0 (by simp) rfl) 0
      have b1 := cellsT_cell (O5.out.cells 0 (by simp) rfl) 1
      have b2 := cellsT_cell (O5.out.cells 0 (by simp) rfl) 2
      have bf := cellsT_frozen (O5.out.cells 0 (by simp) rfl)
      simp only [List.getElem?_toArray, List.getElem?_cons_succ, List.getElem?_cons_zero] at b0 b1 b2
      obtain ⟨f1, f2, r0, r1, r2⟩ := O5.out.fin (us := [_, _]) 3 (by simp) rfl (List.Sublist.cons _ (List.Sublist.cons_cons _ (List.Sublist.cons_cons _ (List.nil_sublist _)))) (x := .int .i64 k.st) (y := .slice a1 k.next.length d1) (z := .slice a2 k.ends.length d2) rfl
      have HF := Lib.hid (And.intro f1 f2)
      clear f1 f2
      go_wp2_with fail
      generalize (((W5.setCell ⟨R1, 0, none⟩ (.int .i64 k.st)).setCell ⟨R1, 1, none⟩ (.slice a1 k.next.length d1)).setCell ⟨R1, 2, none⟩ (.slice a2 k.ends.length d2)) = WE at *
      refine bodyPost_ret (v := .agg #[.int .i64 k.st, .slice a1 k.next.length d1, .slice a2 k.ends.length d2]) ?_ rfl ⟨k, a1, a2, d1, d2, HK.out, rfl, HF.out.1, HF.out.2⟩
      simp [results, Try.results113, go_sem, r0, r1, r2]
end Go.Proofs.Ytaghjddndgpljaa

namespace Go.Proofs.Ytaghjddndgpljaa
open Go.RowKit

def UnderPost (m : Mk) (w : World) (e : Ending) (w' : World) : Prop := ∃ u : Int, e = .returned (.tuple #[.int .i64 u, .bool m.fine]) ∧ (m.fine = true → u = (m.under : Int)) ∧ Below w.heap.size w w'
theorem fine_void {k : Int} {r : Ru} (h : k = 1 ∨ k = 2 ∨ k = 3) : (Mk.mk k r).fine = r.isVoid := by
  rcases h with rfl | rfl | rfl <;> simp [Mk.fine]
theorem isVoid_parts (a : Int) (b c : ByteArray) (d : Int) : (Ru.mk a b c d).isVoid = ((a == 0) && (b.toList == []) && (c.toList == []) && (d == 0)) := by
  have e : ∀ t : ByteArray, noThen t = (t.toList == []) := fun t => by
    rw [ByteArray.toList_eq]
    cases t with
    | mk l => cases l with
      | mk l => cases l <;> simp [noThen]
  have f : ∀ x : Int, decide (x = 0) = (x == 0) := fun x => by by_cases h : x = 0 <;> simp [h]
  simp only [Ru.isVoid, e, f]

set_option maxHeartbeats 1600000 in
theorem partsUnder_any (m : Mk) (hm : m.wf) (w : World) : Calls Try.prog 142 #[m.val] w (UnderPost m w) := by
  obtain ⟨k, a, b, c, d⟩ := m
  obtain ⟨-, -, h1, h2, -⟩ := hm
  show Calls Try.prog _ #[.agg #[.int .i64 k, .int .i64 a, .string b, .string c, .int .i64 d]] w _
  by_cases k0 : k = 0
  · subst k0
    have HF : Hid ((Mk.mk 0 ⟨a, b, c, d⟩).fine = (Ru.mk a b c d).ok) := Lib.hid (by simp [Mk.fine])
    have HU : Hid ((Mk.mk 0 ⟨a, b, c, d⟩).under = 0) := Lib.hid (by simp [Mk.under])
    go_enter Try.func142, Try.ntmps142
    go_wp2_with (go_at_call 143; refine (implRuleOk_any a b c d _ h1 h2).mono ?_; rintro e w' ⟨rfl, hb⟩)
    go_ret2
    exact ⟨0, by rw [HF.out]; rfl, fun _ => by rw [HU.out]; rfl, (Go.Joins.below_alloc1 _ _).trans (hb.mono (by simp))⟩
  · by_cases k123 : k = 1 ∨ k = 2 ∨ k = 3
    · have HF : Hid ((Mk.mk k ⟨a, b, c, d⟩).fine = ((a == 0) && (b.toList == []) && (c.toList == []) && (d == 0))) := Lib.hid (by rw [fine_void k123, isVoid_parts])
      have HU : Hid (((Mk.mk k ⟨a, b, c, d⟩).under : Int) = if k = 3 then 1 else 2) := Lib.hid (by simp only [Mk.under]; rw [if_neg k0]; split <;> rfl)
      have hveq : ∀ W : World, (if a = 0 then if b.toList = [] then if c.toList = [] then if d = 0 then Result.ok (Next.value (Value.bool true)) W else Result.ok (Next.value (Value.bool false)) W else Result.ok (Next.value (Value.bool false)) W else Result.ok (Next.value (Value.bool false)) W else Result.ok (Next.value (Value.bool false)) W) = Result.ok (Next.value (Value.bool (Mk.mk k ⟨a, b, c, d⟩).fine)) W := fun W => by
        rw [HF.out]
        by_cases ha : a = 0
        · by_cases hb : b.toList = []
          · by_cases hc : c.toList = []
            · by_cases hd : d = 0
              · simp [ha, hb, hc, hd]
              · simp [ha, hb, hc, hd]
            · simp [ha, hb, hc]
          · simp [ha, hb]
        · simp [ha]
      clear k0 HF
      generalize hfb : (Mk.mk k ⟨a, b, c, d⟩).fine = fb at *
      have HFB := Lib.hid hfb
      clear hfb
      rcases k123 with rfl | rfl | rfl
      · go_enter Try.func142, Try.ntmps142
        go_wp2_with fail
        go_region
        go_wp2_with fail
        go_ret2
        exact ⟨2, by rw [HFB.out]; rfl, fun _ => by rw [HU.out]; rfl, (Go.Joins.below_alloc1 _ _).drew⟩
      · go_enter Try.func142, Try.ntmps142
        go_wp2_with fail
        go_region
        go_wp2_with fail
        go_ret2
        exact ⟨2, by rw [HFB.out]; rfl, fun _ => by rw [HU.out]; rfl, (Go.Joins.below_alloc1 _ _).drew⟩
      · go_enter Try.func142, Try.ntmps142
        go_wp2_with fail
        go_region
        go_wp2_with fail
        go_ret2
        exact ⟨1, by rw [HFB.out]; rfl, fun _ => by rw [HU.out]; rfl, (Go.Joins.below_alloc1 _ _).drew⟩
    · have HF : Hid ((Mk.mk k ⟨a, b, c, d⟩).fine = false) := Lib.hid (by simp only [Mk.fine]; rw [if_neg k0, if_neg k123])
      have e1 : (k == 0) = false := by simpa using k0
      have e2 : (k == 1) = false := by simp; omega
      have e3 : (k == 2) = false := by simp; omega
      have e4 : (k == 3) = false := by simp; omega
      clear k0 k123
      go_enter Try.func142, Try.ntmps142
      go_wp2_with fail
      go_ret2
      exact ⟨0, by rw [HF.out]; rfl, (fun h => absurd h (by rw [HF.out]; decide)), Go.Joins.below_alloc1 _ _⟩
end Go.Proofs.Ytaghjddndgpljaa

namespace Go.Proofs.Ytaghjddndgpljaa
open Go.RowKit

theorem termOk_long {ts : List Mk} (h : 9 < ts.length) : termOk ts = false := by
  simp only [termOk, Bool.and_eq_false_iff, decide_eq_false_iff_not]
  exact .inl (by omega)
theorem termOk_end {ts : List Mk} {p : Nat} (h : leftOf (ts.take ts.length) 0 = some p) (hl : ts.length ≤ 9) : termOk ts = ((p : Int) == 1) := by
  rw [List.take_length] at h
  have e : decide (ts.length ≤ 9) = true := decide_eq_true hl
  rw [termOk, h, e, Bool.true_and]
  by_cases hp : p = 1
  · subst hp; rfl
  · rw [decide_eq_false (by simpa using hp)]
    have : ((p : Int) == 1) = false := by simp; omega
    rw [this]
theorem leftOf_yes {ts : List Mk} {k p : Nat} (hk : k < ts.length) (h : leftOf (ts.take k) 0 = some p) (hf : ts[k].fine = true) (hu : ts[k].under ≤ p) : leftOf (ts.take (k + 1)) 0 = some (p + 1 - ts[k].under) := by
  rw [leftOf_succ hk h, stepP, if_pos ⟨hf, hu⟩]
theorem leftOf_no {ts : List Mk} {k p : Nat} (hk : k < ts.length) (h : leftOf (ts.take k) 0 = some p) (hf : ¬ (ts[k].fine = true ∧ ts[k].under ≤ p)) : termOk ts = false :=
  termOk_stop (k := k + 1) (by rw [leftOf_succ hk h, stepP, if_neg hf])
theorem left_le {ts : List Mk} {k p : Nat} (hk : k ≤ ts.length) (h : leftOf (ts.take k) 0 = some p) : p ≤ k := by
  have := leftOf_le _ _ _ h
  rw [List.length_take] at this
  omega
theorem Mk.under_le (m : Mk) : m.under ≤ 2 := by
  unfold Mk.under
  by_cases h0 : m.kind = 0
  · rw [if_pos h0]; omega
  · rw [if_neg h0]
    by_cases h3 : m.kind = 3
    · rw [if_pos h3]; omega
    · rw [if_neg h3]; exact Nat.le_refl _

set_option maxHeartbeats 1600000 in
theorem implTermOk_any (ms : List Mk) (hwf : ∀ m ∈ ms, m.wf) (v : Value) (w : World) (h : IsMarks w v ms) :
    Calls Try.prog 106 #[v] w fun e w' => e = .returned (.bool (termOk ms)) ∧ Below w.heap.size w w' := by
  obtain ⟨a, cap, rfl, ha1, ha2, ha⟩ := h
  have HA := Lib.hid ha
  have HWF := Lib.hid hwf
  unfold maxLen at ha2
  clear ha hwf
  by_cases hb : 9 < ms.length
  · have HE := Lib.hid (termOk_long hb)
    go_enter Try.func106, Try.ntmps106
    go_wp2_with fail
    go_ret
    exact ⟨ret_bool HE.out.symm, Below.refl _ _⟩
  · go_enter Try.func106, Try.ntmps106
    go_wp2_with fail
    go_loopw [3, 13] (fun l i wr => ∃ (k p : Nat), k ≤ ms.length ∧ i = .int .i64 k ∧ l = .int .i64 p ∧ leftOf (ms.take k) 0 = some p ∧ Below w.heap.size w wr) (fun _ i _ => ms.length - (intOf i).toNat)
    case atStart => exact ⟨0, 0, Nat.zero_le _, rfl, rfl, rfl, Below.refl _ _⟩
    case round =>
      obtain ⟨k, p, hk, rfl, rfl, hp, hbel⟩ := hrel
      have hpk := left_le hk hp
      by_cases hlt : k < ms.length
      · obtain ⟨g, off, rfl, hg, hc⟩ := HA.out.resolve_left (fun h => by rw [h] at hlt; exact absurd hlt (Nat.not_lt_zero k))
        obtain ⟨c0, c1, c2, c3, c4⟩ := (hc k hlt).below hbel hg
        have HU := Lib.hid (fun W => partsUnder_any ms[k] (HWF.out ms[k] (List.getElem_mem hlt)) W)
        have HY := Lib.hid (leftOf_yes hlt hp)
        have HN := Lib.hid (leftOf_no hlt hp)
        have BB := Lib.hid hbel
        clear hc hbel hp
        generalize ms[k] = m at *
        obtain ⟨k1, r1, l1, t1, n1⟩ := m
        have HU2 : Hid (∀ W, Calls Try.prog 142 #[.agg #[.int .i64 k1, .int .i64 r1, .string l1, .string t1, .int .i64 n1]] W (UnderPost ⟨k1, r1, l1, t1, n1⟩ W)) := Lib.hid HU.out
        clear HU
        simp only at c0 c1 c2 c3 c4
        go_wp2_with fail
        refine (HU2.out _).mono ?_
        rintro e w2 ⟨u, rfl, hu, hb2⟩
        have B2 := Lib.hid (BB.out.trans (((Below.refl wr.heap.size wr).alloc (Nat.le_refl _) _).trans (hb2.mono (by simp)) |>.mono BB.out.size))
        clear hb2
        generalize (Mk.mk k1 ⟨r1, l1, t1, n1⟩).fine = fb at *
        have hu3 := Mk.under_le ⟨k1, r1, l1, t1, n1⟩
        generalize (Mk.mk k1 ⟨r1, l1, t1, n1⟩).under = uu at *
        cases fb with
        | false =>
          have HE := Lib.hid (HN.out (by simp))
          clear hu
          go_wp2_with fail
          go_ret
          exact ⟨ret_bool HE.out.symm, B2.out⟩
        | true =>
          have hu' := hu rfl
          subst hu'
          clear hu
          by_cases hup : uu ≤ p
          · have hp2 := Lib.hid (HY.out rfl hup)
            go_wp2_with fail
            go_roundw
            case rel => exact ⟨k + 1, p + 1 - uu, by omega, by go_num, by go_num, hp2.out, B2.out⟩
            case measure => simp [intOf]; omega
          · have HE := Lib.hid (HN.out (fun h => hup h.2))
            go_wp2_with fail
            go_ret
            exact ⟨ret_bool HE.out.symm, B2.out⟩
      · obtain rfl : k = ms.length := by omega
        have HE := Lib.hid (termOk_end hp (by omega))
        clear hp
        go_wp2_with fail
        go_ret
        exact ⟨ret_bool HE.out.symm, hbel⟩

set_option maxHeartbeats 1600000 in
theorem specTermOk_any (ms : List Mk) (v : Value) (w : World) (h : IsMarks w v ms) (hl : ms.length ≤ 1048576) :
    Calls Try.prog 103 #[v] w fun e w' => e = .returned (.bool (termOk ms)) ∧ Below w.heap.size w w' := by
  obtain ⟨a, cap, rfl, ha1, ha2, ha⟩ := h
  have HA := Lib.hid ha
  unfold maxLen at ha2
  clear ha
  go_enter Try.func103, Try.ntmps103
  go_wp2_with fail
  go_loopw [3, 4] (fun l i wr => ∃ (k p : Nat), k ≤ ms.length ∧ i = .int .i64 k ∧ l = .int .i64 p ∧ leftOf (ms.take k) 0 = some p ∧ Below w.heap.size w wr) (fun _ i _ => ms.length - (intOf i).toNat)
  case atStart => exact ⟨0, 0, Nat.zero_le _, rfl, rfl, rfl, Below.refl _ _⟩
  case round =>
    obtain ⟨k, p, hk, rfl, rfl, hp, hbel⟩ := hrel
    have hpk := left_le hk hp
    by_cases hlt : k < ms.length
    · obtain ⟨g, off, rfl, hg, hc⟩ := HA.out.resolve_left (fun h => by rw [h] at hlt; exact absurd hlt (Nat.not_lt_zero k))
      obtain ⟨c0, c1, c2, c3, c4⟩ := (hc k hlt).below hbel hg
      have HCK := Lib.hid (fun w' (hb : Below w.heap.size w w') => (hc k hlt).below hb hg)
      have HY := Lib.hid (leftOf_yes hlt hp)
      have HN := Lib.hid (leftOf_no hlt hp)
      have BB := Lib.hid hbel
      clear hc hbel hp
      generalize ms[k] = m at *
      obtain ⟨k1, r1, l1, t1, n1⟩ := m
      have HC2 : Hid (∀ w', Below w.heap.size w w' → w'.cell? ⟨g, off + k * 5, none⟩ = some (.int .i64 k1) ∧ w'.cell? ⟨g, off + k * 5 + 1, none⟩ = some (.int .i64 r1) ∧ w'.cell? ⟨g, off + k * 5 + 2, none⟩ = some (.string l1) ∧ w'.cell? ⟨g, off + k * 5 + 3, none⟩ = some (.string t1) ∧ w'.cell? ⟨g, off + k * 5 + 4, none⟩ = some (.int .i64 n1)) := Lib.hid HCK.out
      clear HCK
      simp only at c0 c1 c2 c3 c4
      by_cases k0 : k1 = 0
      · subst k0
        have HR := Lib.hid (fun W => specRuleOk_any r1 l1 t1 n1 W)
        have hf : (Mk.mk 0 ⟨r1, l1, t1, n1⟩).fine = (Ru.mk r1 l1 t1 n1).ok := by simp [Mk.fine]
        have hu : (Mk.mk 0 ⟨r1, l1, t1, n1⟩).under = 0 := by simp [Mk.under]
        rw [hf, hu] at HY HN
        clear hf hu
        generalize (Ru.mk r1 l1 t1 n1).ok = fb at *
        cases fb with
        | true =>
          have hp2 := Lib.hid (HY.out rfl (Nat.zero_le _))
          go_wp2_with (go_at_call 138; refine (HR.out _).mono ?_; rintro e w2 ⟨rfl, hb2⟩)
          go_roundw
          case rel => exact ⟨k + 1, p + 1 - 0, by omega, by go_num, by go_num, hp2.out, BB.out.trans (hb2.mono BB.out.size)⟩
          case measure => simp [intOf]; omega
        | false =>
          have HE := Lib.hid (HN.out (by simp))
          go_wp2_with (go_at_call 138; refine (HR.out _).mono ?_; rintro e w2 ⟨rfl, hb2⟩; obtain ⟨d0, d1, d2, d3, d4⟩ := HC2.out w2 (BB.out.trans (hb2.mono BB.out.size)))
          go_ret
          exact ⟨ret_bool HE.out.symm, BB.out.trans (hb2.mono BB.out.size)⟩
      · by_cases k123 : k1 = 1 ∨ k1 = 2 ∨ k1 = 3
        · have hf := fine_void (r := ⟨r1, l1, t1, n1⟩) k123
          by_cases hv : (Ru.mk r1 l1 t1 n1).isVoid = true
          · have hve := Ru.isVoid_iff.1 hv
            simp only [Ru.void, Ru.mk.injEq] at hve
            obtain ⟨rfl, rfl, rfl, rfl⟩ := hve
            rw [hf, hv] at HY HN
            clear hf hv k0
            rcases k123 with rfl | rfl | rfl
            · have hu : (Mk.mk 1 ⟨0, ⟨#[]⟩, ⟨#[]⟩, 0⟩).under = 2 := by simp [Mk.under]
              rw [hu] at HY HN
              clear hu
              by_cases h2 : 2 ≤ p
              · have hp2 := Lib.hid (HY.out rfl h2)
                go_wp2_with fail
                go_roundw
                case rel => exact ⟨k + 1, p + 1 - 2, by omega, by go_num, by go_num, hp2.out, BB.out⟩
                case measure => simp [intOf]; omega
              · have HE := Lib.hid (HN.out (fun h => h2 h.2))
                go_wp2_with fail
                go_ret
                exact ⟨ret_bool HE.out.symm, BB.out⟩
            · have hu : (Mk.mk 2 ⟨0, ⟨#[]⟩, ⟨#[]⟩, 0⟩).under = 2 := by simp [Mk.under]
              rw [hu] at HY HN
              clear hu
              by_cases h2 : 2 ≤ p
              · have hp2 := Lib.hid (HY.out rfl h2)
                go_wp2_with fail
                go_roundw
                case rel => exact ⟨k + 1, p + 1 - 2, by omega, by go_num, by go_num, hp2.out, BB.out⟩
                case measure => simp [intOf]; omega
              · have HE := Lib.hid (HN.out (fun h => h2 h.2))
                go_wp2_with fail
                go_ret
                exact ⟨ret_bool HE.out.symm, BB.out⟩
            · have hu : (Mk.mk 3 ⟨0, ⟨#[]⟩, ⟨#[]⟩, 0⟩).under = 1 := by simp [Mk.under]
              rw [hu] at HY HN
              clear hu
              by_cases h2 : 1 ≤ p
              · have hp2 := Lib.hid (HY.out rfl h2)
                go_wp2_with fail
                go_roundw
                case rel => exact ⟨k + 1, p + 1 - 1, by omega, by go_num, by go_num, hp2.out, BB.out⟩
                case measure => simp [intOf]; omega
              · have HE := Lib.hid (HN.out (fun h => h2 h.2))
                go_wp2_with fail
                go_ret
                exact ⟨ret_bool HE.out.symm, BB.out⟩
          · have hv' : (Ru.mk r1 l1 t1 n1).isVoid = false := by simpa using hv
            have HE := Lib.hid (HN.out (by rw [hf, hv']; simp))
            have hvp := isVoid_parts r1 l1 t1 n1
            rw [hv'] at hvp
            have hveq : ∀ W : World, (if r1 = 0 then if l1.toList = [] then if t1.toList = [] then if n1 = 0 then Result.ok (Next.value (Value.bool true)) W else Result.ok (Next.value (Value.bool false)) W else Result.ok (Next.value (Value.bool false)) W else Result.ok (Next.value (Value.bool false)) W else Result.ok (Next.value (Value.bool false)) W) = Result.ok (Next.value (Value.bool false)) W := fun W => by
              by_cases ha : r1 = 0
              · by_cases hb : l1.toList = []
                · by_cases hc : t1.toList = []
                  · by_cases hd : n1 = 0
                    · rw [ha, hb, hc, hd] at hvp; exact absurd hvp (by decide)
                    · simp [ha, hb, hc, hd]
                  · simp [ha, hb, hc]
                · simp [ha, hb]
              · simp [ha]
            clear hf hv hv' hvp k0
            rcases k123 with rfl | rfl | rfl
            · go_wp2_with fail
              go_ret
              exact ⟨ret_bool HE.out.symm, BB.out⟩
            · go_wp2_with fail
              go_ret
              exact ⟨ret_bool HE.out.symm, BB.out⟩
            · go_wp2_with fail
              go_ret
              exact ⟨ret_bool HE.out.symm, BB.out⟩
        · have hf : (Mk.mk k1 ⟨r1, l1, t1, n1⟩).fine = false := by simp only [Mk.fine]; rw [if_neg k0, if_neg k123]
          have HE := Lib.hid (HN.out (by rw [hf]; simp))
          have e1 : (k1 == 0) = false := by simpa using k0
          have e2 : ¬ k1 = 1 := fun h => k123 (.inl h)
          have e3 : ¬ k1 = 2 := fun h => k123 (.inr (.inl h))
          have e4 : ¬ k1 = 3 := fun h => k123 (.inr (.inr h))
          clear hf k123
          go_wp2_with fail
          go_ret
          exact ⟨ret_bool HE.out.symm, BB.out⟩
    · obtain rfl : k = ms.length := by omega
      by_cases h9 : ms.length ≤ 9
      · have HE := Lib.hid (termOk_end hp h9)
        by_cases hp1 : ((p : Int) == 1) = true
        · rw [hp1] at HE
          go_wp2_with fail
          go_ret
          exact ⟨ret_bool (by rw [HE.out]; first | rfl | exact decide_eq_true (by omega) | exact decide_eq_false (by omega)), hbel⟩
        · have hp1' : ((p : Int) == 1) = false := by simpa using hp1
          rw [hp1'] at HE
          clear hp1
          go_wp2_with fail
          go_ret
          exact ⟨ret_bool HE.out.symm, hbel⟩
      · have HE := Lib.hid (termOk_long (by omega : 9 < ms.length))
        by_cases hp1 : ((p : Int) == 1) = true
        · go_wp2_with fail
          go_ret
          exact ⟨ret_bool (by rw [HE.out]; first | rfl | exact decide_eq_true (by omega) | exact decide_eq_false (by omega)), hbel⟩
        · have hp1' : ((p : Int) == 1) = false := by simpa using hp1
          clear hp1
          go_wp2_with fail
          go_ret
          exact ⟨ret_bool HE.out.symm, hbel⟩
end Go.Proofs.Ytaghjddndgpljaa

namespace Go.Proofs.Ytaghjddndgpljaa
open Go.RowKit

theorem infoIntW : (Try.prog.info? 3).map (fun i => (i.zero, i.size, i.bytes)) = some (some (.int .i64 0), 1, 8) := by kernel_rfl
theorem cellW (w : World) (u : Value) (t : TypeId) : ∀ j x, [u][j]? = some x → (w.alloc (.cells #[u] t)).cell? ((⟨w.heap.size, 0, none⟩ : Addr).add j) = some x := by
  intro j x hx
  rw [show (⟨w.heap.size, 0, none⟩ : Addr).add j = ⟨w.heap.size, j, none⟩ by unfold Addr.add; split <;> simp_all, World.cell?_alloc_new]
  simpa using hx
theorem M.waysRow_take (m : M) (r k : Nat) (h : k < m.ends.length) : (m.waysRow r).take (k + 1) = (m.waysRow r).take k ++ [m.ways r (k : Int)] := by
  rw [List.take_succ_eq_append_getElem (by rw [m.waysRow_length]; exact h), m.waysRow_at]
theorem M.waysRow_cell (m : M) (r t : Nat) (h : t < m.ends.length) : ((m.waysRow r).map (Value.int .i64))[t]? = some (.int .i64 (m.ways r (t : Int))) := by
  rw [List.getElem?_map, List.getElem?_eq_getElem (by rw [m.waysRow_length]; exact h), m.waysRow_at]; rfl
/-- a row of the first ways -/
def wT (m : M) (v : Value) (r k : Nat) : Thing := rowT 3 1 v k (((m.waysRow r).take k).map (Value.int .i64))
theorem wT_next (m : M) (v : Value) (r k : Nat) (h : k < m.ends.length) : wT m v r (k + 1) = rowT 3 1 v (k + 1) (((m.waysRow r).take k).map (Value.int .i64) ++ [.int .i64 (m.ways r (k : Int))]) := by
  rw [wT, m.waysRow_take r k h, List.map_append]; rfl
theorem wT_all (m : M) (v : Value) (r : Nat) : wT m v r m.ends.length = rowT 3 1 v m.ends.length ((m.waysRow r).map (Value.int .i64)) := by
  rw [wT, List.take_of_length_le (by rw [m.waysRow_length]; exact Nat.le_refl _)]

set_option maxHeartbeats 3200000 in
theorem l6Many_core (xs : List Int) (bs : List Bool) (nv ev : Value) (w : World) (h1 : IsInts w nv xs) (h2 : IsBools w ev bs) (hg : M.good ⟨(bs.length : Int), xs, bs⟩) (s r : Nat) (hs : s < bs.length) (hr : r ≤ 10) :
    Calls Try.prog 91 #[.agg #[.int .i64 (bs.length : Int), nv, ev], .int .i64 (s : Int), .int .i64 (r : Int)] w fun e w' => e = .returned (.int .i64 (M.ways ⟨(bs.length : Int), xs, bs⟩ r (s : Int))) ∧ Below w.heap.size w w' := by
  obtain ⟨i0, hi, hz0, hz1, hz2⟩ := info_parts infoIntW
  have HI := Lib.hid (And.intro hi (And.intro hz0 (And.intro hz1 hz2)))
  clear hi hz0 hz1 hz2
  have hsh := M.good_shape hg
  simp only at hsh
  obtain ⟨an, nn, cn, rfl⟩ := h1.slice
  obtain ⟨g1, off1, rfl, rfl, hcn, hcnm, hg1, hcellN⟩ := ints_cells h1 (by omega)
  obtain ⟨ae, ne, ce, rfl⟩ := h2.slice
  obtain ⟨g2, off2, rfl, rfl, hg2, hcellE⟩ := bools_cells3 h2 (by omega)
  unfold maxLen at hcnm
  have M0 := Lib.hid (MachBox.new (st := (bs.length : Int)) 26 h1 h2)
  have K0 := Lib.hid ((Below.refl w.heap.size w).alloc (Nat.le_refl _) (.cells #[.int .i64 (bs.length : Int), .slice (some ⟨g1, off1, none⟩) xs.length cn, .slice (some ⟨g2, off2, none⟩) bs.length ce] 26))
  have hx4 : xs.length ≤ 12000 := by omega
  have hb4 : bs.length ≤ 4000 := by omega
  have HL3 := Lib.hid hsh.2.2.1
  have HG := Lib.hid hg
  clear h1 h2 hcellN hcellE hsh hg
  go_enter Try.func91, Try.ntmps91
  go_upto_region 1 with fail
  generalize hW0 : (w.alloc (.cells #[.int .i64 (bs.length : Int), .slice (some ⟨g1, off1, none⟩) xs.length cn, .slice (some ⟨g2, off2, none⟩) bs.length ce] 26)) = W0 at *
  have HSZ : Hid (W0.heap.size = w.heap.size + 1) := by rw [← hW0]; exact Lib.hid (by simp)
  clear hW0
  generalize hR : w.heap.size = R at *
  have HR := Lib.hid hR
  clear hR
  generalize hm : (⟨(bs.length : Int), xs, bs⟩ : M) = m at *
  have HME : Hid (m.ends = bs) := by rw [← hm]; exact Lib.hid rfl
  have HMN : Hid (m.next = xs) := by rw [← hm]; exact Lib.hid rfl
  have HMS : Hid (m.st = (bs.length : Int)) := by rw [← hm]; exact Lib.hid rfl
  have HM := Lib.hid hm
  clear hm
  have AT : Hid (∀ W, Below W0.heap.size W0 W → W.cell? ⟨R, 0, none⟩ = some (.int .i64 (bs.length : Int)) ∧ W.cell? ⟨R, 1, none⟩ = some (.slice (some ⟨g1, off1, none⟩) xs.length cn) ∧ W.cell? ⟨R, 2, none⟩ = some (.slice (some ⟨g2, off2, none⟩) bs.length ce) ∧
      (∀ k (h : k < xs.length), W.cell? ⟨g1, off1 + k, none⟩ = some (.int .i64 xs[k])) ∧ (∀ k (h : k < bs.length), W.cell? ⟨g2, off2 + k, none⟩ = some (.bool bs[k]))) := Lib.hid (by
    intro W hW
    have M1 := M0.out.below hW
    obtain ⟨g, o, he, _, _, _, _, hc⟩ := ints_cells M1.ints (by have := HL3.out; omega)
    simp only [Option.some.injEq, Addr.mk.injEq, and_true] at he
    obtain ⟨rfl, rfl⟩ := he
    obtain ⟨g, o, he, _, _, hc2⟩ := bools_cells3 M1.bools (by omega)
    simp only [Option.some.injEq, Addr.mk.injEq, and_true] at he
    obtain ⟨rfl, rfl⟩ := he
    exact ⟨M1.c0, M1.c1, M1.c2, hc, hc2⟩)
  clear M0
  have O0 := Lib.hid ((Own.nil W0).lit 3 #[] 0 rfl (Nat.zero_le _))
  have HZ : Hid (W0.heap.size = W0.heap.size) := Lib.hid rfl
  go_wp2_with fail
  go_loopw [7, 8] (fun qv i wr => ∃ (k g c : Nat), k ≤ bs.length ∧ i = .int .i64 (k : Int) ∧ qv = .slice (some ⟨g, 0, none⟩) k c ∧ Own W0 [wT m (.slice (some ⟨g, 0, none⟩) k c) 0 k] wr) (fun _ i _ => bs.length - (intOf i).toNat)
  case atStart => exact ⟨0, _, 0, Nat.zero_le _, rfl, rfl, O0.out⟩
  case round =>
    obtain ⟨k, g, c, hk, rfl, rfl, hO⟩ := hrel
    have O1 := Lib.hid hO
    clear hO
    obtain ⟨m0, m1, m2, hcx, hcb⟩ := AT.out _ O1.out.keep
    by_cases hlt : k < bs.length
    · have hcell := hcb k hlt
      have hltI : (k : Int) < (bs.length : Int) := by omega
      have HW : Hid (m.ways 0 (k : Int) = if bs[k] = true then 1 else 0) := Lib.hid (by
        have h : m.endAt (k : Int) = bs[k] := by
          rw [M.endAt, if_neg (by omega), HME.out, Int.toNat_natCast, List.getD_eq_getElem?_getD, List.getElem?_eq_getElem hlt]; rfl
        rw [M.ways_end, h])
      have HNX := Lib.hid (fun v => wT_next m v 0 k (by rw [HME.out]; exact hlt))
      clear hcb hcx m1
      generalize bs[k] = b at *
      cases b with
      | true =>
        have HW2 : Hid (m.ways 0 (k : Int) = 1) := Lib.hid (by rw [HW.out]; rfl)
        go_wp2_with (at_builtin; refine wpList_append_lies _ rfl _ _ 23 rfl 0 3 i0 (.int .i64 0) 1 8 Try.underlying23 HI.out.1 HI.out.2.1 HI.out.2.2.1 HI.out.2.2.2 rfl (by decide) (.slice (some ⟨g, 0, none⟩) k c) k (((m.waysRow 0).take k).map (Value.int .i64)) rfl ((O1.out.row 0 (by simp) rfl).alloc _) ⟨wr.heap.size, 0, none⟩ 1 1 [.int .i64 1] rfl rfl (cellW _ _ _) (by simp [Value.oneCell']) (by omega) (by unfold maxLen; omega) (by omega) (Nat.zero_le _) _ rfl ?_; intro g9 cp w4 hown hgrow hat hlt3; have O2 := Lib.hid (O1.out.push (i := 0) (by simp) rfl hgrow hown hat); clear hown hgrow hat hlt3)
        go_roundw
        case rel => exact ⟨k + 1, g9, cp, by omega, by go_num, rfl, by rw [HNX.out, HW2.out]; exact O2.out⟩
        case measure => simp [intOf]; omega
      | false =>
        have HW2 : Hid (m.ways 0 (k : Int) = 0) := Lib.hid (by rw [HW.out]; rfl)
        go_wp2_with (at_builtin; refine wpList_append_lies _ rfl _ _ 23 rfl 0 3 i0 (.int .i64 0) 1 8 Try.underlying23 HI.out.1 HI.out.2.1 HI.out.2.2.1 HI.out.2.2.2 rfl (by decide) (.slice (some ⟨g, 0, none⟩) k c) k (((m.waysRow 0).take k).map (Value.int .i64)) rfl ((O1.out.row 0 (by simp) rfl).alloc _) ⟨wr.heap.size, 0, none⟩ 1 1 [.int .i64 0] rfl rfl (cellW _ _ _) (by simp [Value.oneCell']) (by omega) (by unfold maxLen; omega) (by omega) (Nat.zero_le _) _ rfl ?_; intro g9 cp w4 hown hgrow hat hlt3; have O2 := Lib.hid (O1.out.push (i := 0) (by simp) rfl hgrow hown hat); clear hown hgrow hat hlt3)
        go_roundw
        case rel => exact ⟨k + 1, g9, cp, by omega, by go_num, rfl, by rw [HNX.out, HW2.out]; exact O2.out⟩
        case measure => simp [intOf]; omega
    · obtain rfl : k = bs.length := by omega
      clear hcx hcb m1 m2
      go_wp2_with fail
      clear m0
      go_loopw [7, 10] (fun qv i wr => ∃ (n g c : Nat), n ≤ r ∧ i = .int .i64 (n : Int) ∧ qv = .slice (some ⟨g, 0, none⟩) bs.length c ∧ Own W0 [wT m (.slice (some ⟨g, 0, none⟩) bs.length c) n bs.length] wr) (fun _ i _ => r - (intOf i).toNat)
      case atStart => exact ⟨0, g, c, Nat.zero_le _, rfl, rfl, O1.out⟩
      case round =>
        obtain ⟨n, g5, c5, hn, rfl, rfl, hO⟩ := hrel
        have O3 := Lib.hid hO
        clear hO O1
        by_cases hlt2 : n < r
        · have hlt2I : (n : Int) < (r : Int) := by omega
          have O4 := Lib.hid (O3.out.lit 3 #[] 0 rfl (Nat.zero_le _))
          go_wp2_with fail
          go_loopw [11, 12] (fun qv i wr2 => ∃ (k g7 c7 : Nat), k ≤ bs.length ∧ i = .int .i64 (k : Int) ∧ qv = .slice (some ⟨g7, 0, none⟩) k c7 ∧ Own W0 [wT m (.slice (some ⟨g7, 0, none⟩) k c7) (n + 1) k, wT m (.slice (some ⟨g5, 0, none⟩) bs.length c5) n bs.length] wr2) (fun _ i _ => bs.length - (intOf i).toNat)
          case atStart => exact ⟨0, _, 0, Nat.zero_le _, rfl, rfl, O4.out⟩
          case round =>
            obtain ⟨k, g7, c7, hk7, rfl, rfl, hO⟩ := hrel
            have O5 := Lib.hid hO
            clear hO
            obtain ⟨m0, m1, m2, hcx, hcb⟩ := AT.out _ O5.out.keep
            by_cases hlt7 : k < bs.length
            · have hltI : (k : Int) < (bs.length : Int) := by omega
              have HNX := Lib.hid (fun v => wT_next m v (n + 1) k (by rw [HME.out]; exact hlt7))
              have HWS := Lib.hid (m.ways_succ n (k : Int))
              have hbw := m.waysTo_bd n (k : Int) 3 (by omega) (by omega)
              clear hcx hcb m1 m2
              go_wp2_with fail
              clear m0
              go_loopw [13, 14] (fun sv i wr3 => ∃ (l : Nat), l ≤ 3 ∧ i = .int .i64 (l : Int) ∧ sv = .int .i64 (m.waysTo n (k : Int) l) ∧ wr3 = wr) (fun _ i _ => 3 - (intOf i).toNat)
              case atStart => exact ⟨0, Nat.zero_le _, rfl, rfl, rfl⟩
              case round =>
                obtain ⟨l, hl, rfl, rfl, rfl⟩ := hrel
                by_cases hl3 : l < 3
                · obtain ⟨m0, m1, m2, hcx, hcb⟩ := AT.out _ O5.out.keep
                  have hx3 := HL3.out
                  have hil : 3 * k + l < xs.length := by omega
                  have hcell := hcx (3 * k + l) hil
                  have hnx : m.nx (k : Int) (l : Int) = xs[3 * k + l] := by
                    rw [M.nx, if_neg (by omega), show (3 * (k : Int) + (l : Int)).toNat = 3 * k + l by omega, HMN.out, List.getD_eq_getElem?_getD, List.getElem?_eq_getElem hil]; rfl
                  have hnb : -1 ≤ xs[3 * k + l] ∧ xs[3 * k + l] ≤ (bs.length : Int) - 1 := by
                    have h := HG.out.nxt (3 * k + l) (by rw [HMN.out]; exact hil)
                    rw [HMS.out] at h
                    simp only [HMN.out] at h
                    exact h
                  have HST := Lib.hid (m.waysTo_succ n (k : Int) l)
                  have hb1 := m.waysTo_bd n (k : Int) l hl (by omega)
                  have hq1 : IntKind.i64.wrap (3 * (k : Int)) = 3 * (k : Int) := IntWalk.i64_in _ (by omega)
                  have hq2 : IntKind.i64.wrap (3 * (k : Int) + (l : Int)) = 3 * (k : Int) + (l : Int) := IntWalk.i64_in _ (by omega)
                  have hq3 : 3 * (k : Int) + (l : Int) = ((3 * k + l : Nat) : Int) := by omega
                  rw [hnx] at HST
                  clear hcx hcb m2 hnx hx3
                  generalize 3 * k + l = i at *
                  generalize xs[i] = y at *
                  by_cases hy : y < 0
                  · have hz := m.ways_lt n y hy
                    have HS2 : Hid (m.waysTo n (k : Int) (l + 1) = m.waysTo n (k : Int) l) := Lib.hid (by rw [HST.out, hz]; omega)
                    clear hz HST
                    generalize m.waysTo n (k : Int) l = S at *
                    go_wp2_with fail
                    go_roundw
                    case rel => exact ⟨l + 1, by omega, by go_num, by rw [HS2.out], by trivial⟩
                    case measure => simp [intOf]; omega
                  · obtain ⟨t, rfl⟩ := Int.eq_ofNat_of_zero_le (show 0 ≤ y by omega)
                    have htl : t < bs.length := by omega
                    have hrow := O5.out.row 1 (by simp) (show _ = rowT 3 1 (.slice (some ⟨g5, 0, none⟩) bs.length c5) bs.length ((m.waysRow n).map (Value.int .i64)) from by
                      have := wT_all m (.slice (some ⟨g5, 0, none⟩) bs.length c5) n
                      rw [HME.out] at this; exact this)
                    have hnow := (World.ownsRow.cellAt hrow t (by omega)).trans (m.waysRow_cell n t (by rw [HME.out]; exact htl))
                    have hb3 := m.ways_bd n (t : Int) (by omega)
                    have hsum : IntKind.i64.wrap (m.waysTo n (k : Int) l + m.ways n (t : Int)) = m.waysTo n (k : Int) l + m.ways n (t : Int) := IntWalk.i64_in _ (by omega)
                    clear hrow
                    generalize m.waysTo n (k : Int) l = S at *
                    generalize m.ways n (t : Int) = x at *
                    go_wp2_with fail
                    go_roundw
                    case rel => exact ⟨l + 1, by omega, by go_num, by rw [HST.out], by trivial⟩
                    case measure => simp [intOf]; omega
                · obtain rfl : l = 3 := by omega
                  generalize hS : m.waysTo n (k : Int) 3 = S at *
                  go_wp2_with (at_builtin; refine wpList_append_lies _ rfl _ _ 23 rfl 0 3 i0 (.int .i64 0) 1 8 Try.underlying23 HI.out.1 HI.out.2.1 HI.out.2.2.1 HI.out.2.2.2 rfl (by decide) (.slice (some ⟨g7, 0, none⟩) k c7) k (((m.waysRow (n + 1)).take k).map (Value.int .i64)) rfl ((O5.out.row 0 (by simp) rfl).alloc _) ⟨wr.heap.size, 0, none⟩ 1 1 [.int .i64 S] rfl rfl (cellW _ _ _) (by simp [Value.oneCell']) (by omega) (by unfold maxLen; omega) (by omega) (Nat.zero_le _) _ rfl ?_; intro g9 cp w4 hown hgrow hat hlt3; have O6 := Lib.hid (O5.out.push (i := 0) (by simp) rfl hgrow hown hat); clear hown hgrow hat hlt3)
                  go_roundw
                  case rel => exact ⟨k + 1, g9, cp, by omega, by go_num, rfl, by rw [HNX.out, HWS.out]; exact O6.out⟩
                  case measure => simp [intOf]; omega
            · obtain rfl : k = bs.length := by omega
              clear hcx hcb m1 m2
              go_wp2_with fail
              go_roundw
              case rel => exact ⟨n + 1, g7, c7, by omega, by go_num, rfl, O5.out.sub (List.Sublist.cons_cons _ (List.nil_sublist _))⟩
              case measure => simp [intOf]; omega
        · obtain rfl : n = r := by omega
          have hrow := O3.out.row 0 (by simp) (show _ = rowT 3 1 (.slice (some ⟨g5, 0, none⟩) bs.length c5) bs.length ((m.waysRow n).map (Value.int .i64)) from by
            have := wT_all m (.slice (some ⟨g5, 0, none⟩) bs.length c5) n
            rw [HME.out] at this; exact this)
          have hnow := (World.ownsRow.cellAt hrow s (by omega)).trans (m.waysRow_cell n s (by rw [HME.out]; exact hs))
          have Q := Lib.hid (K0.out.trans (O3.out.keep.mono (by rw [HSZ.out]; omega)))
          clear hrow
          generalize hx : m.ways n (s : Int) = x at *
          have HX := Lib.hid hx
          clear hx
          go_wp2_with fail
          go_ret
          exact ⟨ret_int (by rw [HM.out]; exact HX.out.symm), by rw [HR.out]; exact Q.out⟩
theorem l6Many_any (m : M) (s : Int) (r : Nat) (nv ev : Value) (w : World) (h1 : IsInts w nv m.next) (h2 : IsBools w ev m.ends) (hg : m.good) (s0 : 0 ≤ s) (s1 : s < m.st) (hr : r ≤ 10) :
    Calls Try.prog 91 #[.agg #[.int .i64 m.st, nv, ev], .int .i64 s, .int .i64 (r : Int)] w fun e w' => e = .returned (.int .i64 (m.ways r s)) ∧ Below w.heap.size w w' := by
  obtain ⟨st, xs, bs⟩ := m
  obtain ⟨j, rfl⟩ := Int.eq_ofNat_of_zero_le s0
  obtain rfl : st = (bs.length : Int) := hg.le.symm
  exact l6Many_core xs bs nv ev w h1 h2 hg j r (by simp only at s1; omega) hr
end Go.Proofs.Ytaghjddndgpljaa

namespace Go.Proofs.Ytaghjddndgpljaa
open Go.RowKit

/-- a row that is owned, cut behind its first elements -/
theorem ownsRow_cut1 {w : World} {base : Nat} {e : TypeId} {g cap n : Nat} {xs : List Value} {k : Nat} (hk : k ≤ n) (h : w.ownsRow base e 1 (.slice (some ⟨g, 0, none⟩) n cap) n xs) : w.ownsRow base e 1 (.slice (some ⟨g, 0, none⟩) k cap) k (xs.take k) := by
  have hl := h.1
  obtain ⟨_, h2⟩ := h
  rcases h2 with ⟨h0, _⟩ | ⟨g', cap', cur, hv, hg, hh, hn, hcap, hsz, htake⟩
  · cases h0
  · cases hv
    refine ⟨by rw [List.length_take]; omega, .inr ⟨g, cap, cur, rfl, hg, hh, by omega, hcap, hsz, ?_⟩⟩
    rw [← htake, List.take_take, Nat.mul_one, Nat.mul_one, Nat.min_eq_left hk]
theorem Own.cut {wB w : World} {ts : List Thing} {e : TypeId} {g cap n : Nat} {xs : List Value} {k : Nat} (h : Own wB (rowT e 1 (.slice (some ⟨g, 0, none⟩) n cap) n xs :: ts) w) (hk : k ≤ n) : Own wB (rowT e 1 (.slice (some ⟨g, 0, none⟩) k cap) k (xs.take k) :: ts) w :=
  ⟨h.keep, ⟨fun t ht => by
    rcases List.mem_cons.1 ht with rfl | ht
    · exact ⟨ownsRow_cut1 hk h.ap.head, fun j e => h.ap.lt j e⟩
    · exact h.ap.all t (List.mem_cons_of_mem _ ht), List.pairwise_cons.2 ⟨fun u hu j e => (List.pairwise_cons.1 h.ap.two).1 u hu j e, (List.pairwise_cons.1 h.ap.two).2⟩⟩⟩
/-- the elements behind a place -/
theorem bools_behind {w : World} {g cap n : Nat} {xs : List Bool} {e : TypeId} (h : w.ownsRow 0 e 1 (.slice (some ⟨g, 0, none⟩) n cap) n (xs.map Value.bool)) (k : Nat) (hk : k ≤ n) (hc : cap ≤ maxLen) : IsBools w (.slice (some ⟨g, k, none⟩) (n - k) (cap - k)) (xs.drop k) := by
  have hl : xs.length = n := by have := h.1; simpa using this
  have hcn : n ≤ cap := by
    rcases h.2 with ⟨h0, _⟩ | ⟨g', cap', cur, hv, hg, hh, hn, hcap, hsz, htake⟩
    · cases h0
    · cases hv; exact hn
  refine ⟨some ⟨g, k, none⟩, cap - k, by rw [List.length_drop, hl], by rw [List.length_drop]; omega, by omega, ?_⟩
  by_cases h0 : k = n
  · exact .inl (List.drop_of_length_le (by omega))
  · refine .inr ⟨g, k, rfl, (h.lt g rfl).2, fun i hi => ?_⟩
    rw [List.length_drop] at hi
    rw [h.cellAt (k + i) (by omega)]
    simp [List.getElem?_eq_getElem (show k + i < xs.length by omega)]
theorem row_cap {w : World} {base g cap n : Nat} {xs : List Value} {e : TypeId} {size : Nat} (h : w.ownsRow base e size (.slice (some ⟨g, 0, none⟩) n cap) n xs) : n ≤ cap ∧ cap ≤ maxLen := by
  rcases h.2 with ⟨h0, _⟩ | ⟨g', cap', cur, hv, hg, hh, hn, hcap, hsz, htake⟩
  · cases h0
  · cases hv; exact ⟨hn, hcap⟩

theorem infoBoolK : (Try.prog.info? 4).map (fun i => (i.zero, i.size, i.bytes)) = some (some (.bool false), 1, 1) := by kernel_rfl
/-- the stack of what the parts keep -/
def stackB (s : ByteArray) (sts : List Tm) : List Value := (sts.map (Tm.keeps s)).map Value.bool
theorem stackB_more (s : ByteArray) (sts : List Tm) (T : Tm) : stackB s (sts ++ [T]) = stackB s sts ++ [.bool (T.keeps s)] := by simp [stackB]

set_option maxHeartbeats 6400000 in
theorem foldedBool_any (ms : List Mk) (hwf : ∀ m ∈ ms, m.wf) (hok : termOk ms = true) (s : ByteArray) (B : Nat) (v : Value) (w : World) (h : IsMarks w v ms)
    (HCL0 : ∀ (m : Mk) (subs : List Tm) (T : Tm) (uv : Value) (W : World), Puts m subs T → m.wf → Below w.heap.size w W → IsBools W uv (subs.map (Tm.keeps s)) → Calls Try.prog 108 #[m.val, uv, .pointer (some ⟨B, 0, none⟩)] W fun e W' => e = .returned (.bool (T.keeps s)) ∧ Below W.heap.size W W') :
    Calls Try.prog 107 #[v, .func (.func 108) #[] #[.pointer (some ⟨B, 0, none⟩)]] w fun e w' => (∃ T : Tm, T.good = true ∧ T.post = ms ∧ e = .returned (.bool (T.keeps s))) ∧ Below w.heap.size w w' := by
  obtain ⟨j0, hj, hy0, hy1, hy2⟩ := info_parts infoBoolK
  have HJ := Lib.hid (And.intro hj (And.intro hy0 (And.intro hy1 hy2)))
  clear hj hy0 hy1 hy2
  have hlen : ms.length ≤ 9 := by
    simp only [termOk, Bool.and_eq_true, decide_eq_true_eq] at hok; exact hok.1
  have hl0 : 0 < ms.length := by
    obtain ⟨T, _, hp, _⟩ := tree_of hok
    rw [← hp]; exact T.post_pos
  obtain ⟨a, n, cap, rfl⟩ := h.slice
  obtain ⟨g, off, rfl, rfl, h1, h2, hg, hc⟩ := h.cells hl0
  unfold maxLen at h2
  have HC := Lib.hid hc
  have HOK := Lib.hid hok
  have HWF := Lib.hid hwf
  have HCL := Lib.hid HCL0
  have O0 := Lib.hid ((Own.nil w).idle 4)
  clear hc hok hwf h HCL0
  go_enter Try.func107, Try.ntmps107
  go_wp2_with fail
  go_loopw [5, 13] (fun sv i wr => ∃ (k : Nat) (sts : List Tm), k ≤ ms.length ∧ i = .int .i64 (k : Int) ∧ (∀ T ∈ sts, T.good = true) ∧ postL sts = ms.take k ∧ Own w [rowT 4 1 sv sts.length (stackB s sts)] wr) (fun _ i _ => ms.length - (intOf i).toNat)
  case atStart => exact ⟨0, [], Nat.zero_le _, rfl, by simp, rfl, O0.out⟩
  case round =>
    obtain ⟨k, sts, hk, rfl, hgd, hpo, hO⟩ := hrel
    have O1 := Lib.hid hO
    have HGD := Lib.hid hgd
    have HPO := Lib.hid hpo
    obtain ⟨sa, sc, rfl⟩ := ownsRow_slice (O1.out.row 0 (by simp) rfl)
    clear hO
    by_cases hlt : k < ms.length
    · have hltI : (k : Int) < (ms.length : Int) := by omega
      obtain ⟨pre, subs, T, rfl, hput, hgd2, hpo2⟩ := step_trees HOK.out hlt hgd hpo
      have HPUT := Lib.hid hput
      have HGD2 := Lib.hid hgd2
      have HPO2 := Lib.hid hpo2
      have hsl := hput.len
      have hpn : (pre ++ subs).length ≤ k := by
        have := congrArg List.length hpo
        rw [List.length_take] at this
        have := postL_len (pre ++ subs)
        omega
      have hmwf := HWF.out ms[k] (List.getElem_mem hlt)
      have HMW := Lib.hid hmwf
      obtain ⟨c0, c1, c2, c3, c4⟩ := (HC.out k hlt).below O1.out.keep hg
      have HU := Lib.hid (fun W => partsUnder_any ms[k] hmwf W)
      have hfine : ms[k].fine = true := by
        have hl : leftOf (ms.take k) 0 = some (pre ++ subs).length := by rw [← hpo, postL_good hgd, Nat.zero_add]
        by_cases hf : ms[k].fine = true
        · exact hf
        · have := leftOf_no hlt hl (fun h => hf h.1)
          rw [HOK.out] at this; cases this
      have HF := Lib.hid hfine
      have hlen2 : (pre ++ subs).length = pre.length + subs.length := List.length_append
      clear hput hgd2 hpo2 hgd hpo hmwf hfine
      generalize ms[k] = m at *
      obtain ⟨k1, r1, l1, t1, n1⟩ := m
      have HU2 : Hid (∀ W, Calls Try.prog 142 #[.agg #[.int .i64 k1, .int .i64 r1, .string l1, .string t1, .int .i64 n1]] W (UnderPost ⟨k1, r1, l1, t1, n1⟩ W)) := Lib.hid HU.out
      clear HU
      simp only at c0 c1 c2 c3 c4
      go_wp2_with fail
      refine (HU2.out _).mono ?_
      rintro e w2 ⟨u, rfl, hu, hb2⟩
      have O2 := Lib.hid ((O1.out.alloc (.cells #[.int .i64 k1, .int .i64 r1, .string l1, .string t1, .int .i64 n1] 109)).below hb2)
      have hmk : ∀ i, w2.cell? ⟨wr.heap.size, i, none⟩ = (#[.int .i64 k1, .int .i64 r1, .string l1, .string t1, .int .i64 n1] : Array Value)[i]? := fun i => (hb2.cell (p := ⟨wr.heap.size, i, none⟩) (by simp)).trans (World.cell?_alloc_new wr _ _ i)
      have m0 := hmk 0
      have m1 := hmk 1
      have m2 := hmk 2
      have m3 := hmk 3
      have m4 := hmk 4
      have hml : wr.heap.size < w2.heap.size := by have := hb2.size; simp at this; omega
      simp only [List.getElem?_toArray, List.getElem?_cons_succ, List.getElem?_cons_zero] at m0 m1 m2 m3 m4
      rw [HF.out] at *
      have hue := hu rfl
      rw [← hsl] at hue
      subst hue
      have HCW : Hid (∀ (uv : Value) (W : World), Below w.heap.size w W → IsBools W uv (subs.map (Tm.keeps s)) → Calls Try.prog 108 #[.agg #[.int .i64 k1, .int .i64 r1, .string l1, .string t1, .int .i64 n1], uv, .pointer (some ⟨B, 0, none⟩)] W fun e W' => e = .returned (.bool (T.keeps s)) ∧ Below W.heap.size W W') := Lib.hid (fun uv W a b => HCL.out ⟨k1, r1, l1, t1, n1⟩ subs T uv W HPUT.out HMW.out a b)
      have hst : stackB s (pre ++ subs) = (pre.map (Tm.keeps s) ++ subs.map (Tm.keeps s)).map Value.bool := by simp [stackB]
      have hq : IntKind.i64.wrap (((pre ++ subs).length : Int) - (subs.length : Int)) = (pre.length : Int) := by rw [hlen2, IntWalk.i64_in _ (by omega)]; omega
      have HNP : Hid ((pre ++ subs).length - pre.length = subs.length ∧ pre.length ≤ (pre ++ subs).length ∧ (pre ++ subs).length ≤ 9 ∧ ((pre ++ subs).length = 0 → pre = [] ∧ subs = [])) := Lib.hid ⟨by omega, by omega, by omega, fun h => ⟨List.eq_nil_of_length_eq_zero (by omega), List.eq_nil_of_length_eq_zero (by omega)⟩⟩
      have HPOST := Lib.hid (stackB_more s pre T)
      rw [hst] at O2
      clear hu hb2 hmk c0 c1 c2 c3 c4 O1 hsl hlen2 hst hpn
      generalize wr.heap.size = MB at *
      generalize hnn : (pre ++ subs).length = nn at *
      clear hnn
      generalize hpl : pre.length = pl at *
      have HPL := Lib.hid hpl
      generalize hul : subs.length = ul at *
      clear hpl hul
      have hnp := HNP.out
      have hpn1 := hnp.2.1
      have hnn9 := hnp.2.2.1
      clear hnp
      rcases (O2.out.row 0 (by simp) rfl).2 with ⟨hvn, hn0⟩ | ⟨gs, scc, cur, hvn, -⟩
      · cases hvn
        obtain ⟨hpe, hse⟩ := HNP.out.2.2.2 hn0
        have HPE := Lib.hid hpe
        have hp0 : pl = 0 := by rw [← HPL.out, hpe]; rfl
        have hu0 : ul = 0 := by have := HNP.out.1; omega
        have O2d := Lib.hid ((O2.out.same (grown_drew w2 none)).sub (List.nil_sublist _))
        have HUB : Hid (IsBools w2.drew (.slice none 0 0) (subs.map (Tm.keeps s))) := Lib.hid (by rw [hse]; exact IsBools.nil _)
        clear hpe hse O2 HNP hn0
        subst hp0 hu0
        go_wp2_with fail
        go_region_law (first | (go_simp; go_at_call 108; refine (HCW.out _ _ O2d.out.keep HUB.out).mono ?_; rintro e w5 ⟨rfl, hb5⟩; have O5 := Lib.hid ((O2d.out.below hb5).idle 4)) | (refine step_append_lies _ rfl _ _ 24 rfl 0 4 j0 (.bool false) 1 1 Try.underlying24 HJ.out.1 HJ.out.2.1 HJ.out.2.2.1 HJ.out.2.2.2 rfl (by decide) (.slice none 0 0) 0 [] rfl ((O5.out.row 0 (by simp) rfl).alloc _) ⟨w5.heap.size, 0, none⟩ 1 1 [.bool (T.keeps s)] rfl rfl (cellW _ _ _) (by simp [Value.oneCell']) (by omega) (by unfold maxLen; omega) (by omega) (Nat.zero_le _) _ rfl ?_; intro g9 cp w6 hown hgrow hat hlt3; have O6 := Lib.hid (O5.out.push (i := 0) (by simp) rfl hgrow hown hat)))
        all_goals
          go_wp2
          go_roundw
          case rel =>
            refine ⟨k + 1, pre ++ [T], by omega, by go_num, HGD2.out, HPO2.out, ?_⟩
            rw [HPE.out]
            exact O6.out
          case measure => simp [intOf]; omega
      · cases hvn
        have hcap := row_cap (O2.out.row 0 (by simp) rfl)
        have hcm := hcap.2
        unfold maxLen at hcm
        have hsc1 : pl ≤ sc := by omega
        have O2d := Lib.hid (O2.out.same (grown_drew w2 none))
        obtain ⟨AD, had⟩ : ∃ AD : Option Addr, (if sc = pl then some (⟨gs, 0, none⟩ : Addr) else some ⟨gs, pl, none⟩) = AD := ⟨_, rfl⟩
        have HUB : Hid (IsBools w2.drew (.slice AD ul (sc - pl)) (subs.map (Tm.keeps s))) := Lib.hid (by
          have h := bools_behind (O2d.out.row 0 (by simp) rfl) pl hpn1 hcap.2
          rw [HNP.out.1, List.drop_left' (by rw [List.length_map]; exact HPL.out)] at h
          by_cases he : sc = pl
          · rw [if_pos he] at had
            subst had
            have hu0 : ul = 0 := by have := hcap.1; have := HNP.out.1; omega
            obtain ⟨a', c', he', h1, h2, h3⟩ := h
            simp only [Value.slice.injEq] at he'
            have hsub : (subs.map (Tm.keeps s)) = [] := List.eq_nil_of_length_eq_zero (by omega)
            exact ⟨some ⟨gs, 0, none⟩, sc - pl, by rw [hsub, hu0]; rfl, by rw [hsub]; exact Nat.zero_le _, by omega, .inl hsub⟩
          · rw [if_neg he] at had
            subst had
            exact h)
        have hnsub : nn - pl = ul := HNP.out.1
        go_wp2_with fail
        go_region_law (first | (go_simp; go_at_call 108; refine (HCW.out _ _ O2d.out.keep HUB.out).mono ?_; rintro e w5 ⟨rfl, hb5⟩; have O5 := Lib.hid ((O2d.out.below hb5).cut hpn1)) | (refine step_append_lies _ rfl _ _ 24 rfl 0 4 j0 (.bool false) 1 1 Try.underlying24 HJ.out.1 HJ.out.2.1 HJ.out.2.2.1 HJ.out.2.2.2 rfl (by decide) (.slice (some ⟨gs, 0, none⟩) pl sc) pl _ rfl ((O5.out.row 0 (by simp) rfl).alloc _) ⟨w5.heap.size, 0, none⟩ 1 1 [.bool (T.keeps s)] rfl rfl (cellW _ _ _) (by simp [Value.oneCell']) (by omega) (by unfold maxLen; omega) (by omega) (Nat.zero_le _) _ rfl ?_; intro g9 cp w6 hown hgrow hat hlt3; have O6 := Lib.hid (O5.out.push (i := 0) (by simp) rfl hgrow hown hat)))
        all_goals
          go_wp2
          go_roundw
          case rel =>
            refine ⟨k + 1, pre ++ [T], by omega, by go_num, HGD2.out, HPO2.out, ?_⟩
            rw [List.length_append, HPL.out, HPOST.out]
            have h := O6.out
            have e : (List.map Value.bool (pre.map (Tm.keeps s) ++ subs.map (Tm.keeps s))).take pl = stackB s pre := by
              rw [List.map_append, List.take_left' (by rw [List.length_map, List.length_map]; exact HPL.out)]; rfl
            rw [e] at h
            exact h
          case measure => simp [intOf]; omega
    · obtain rfl : k = ms.length := by omega
      obtain ⟨T, rfl⟩ := last_tree HOK.out hgd (by rw [hpo, List.take_length])
      have HT : Hid (T.good = true ∧ T.post = ms) := Lib.hid ⟨hgd T (by simp), by rw [← postL_one, hpo, List.take_length]⟩
      rcases (O1.out.row 0 (by simp) rfl).2 with ⟨hvn, hn0⟩ | ⟨gs, scc, cur, hvn, -⟩
      · cases hvn
      · cases hvn
        have hcell := World.ownsRow.cellAt (O1.out.row 0 (by simp) rfl) 0 (by simp)
        simp only [stackB, List.map_cons, List.map_nil, List.getElem?_cons_zero] at hcell
        simp only [List.length_singleton] at *
        clear hgd hpo
        go_wp2_with fail
        go_ret
        exact ⟨⟨T, HT.out.1, HT.out.2, rfl⟩, O1.out.keep⟩
end Go.Proofs.Ytaghjddndgpljaa

namespace Go.Proofs.Ytaghjddndgpljaa
open Go.RowKit

theorem infoMachW : (Try.prog.info? 26).map (fun i => (i.zero, i.size, i.bytes)) = some (some (.agg #[.int .i64 0, .slice none 0 0, .slice none 0 0]), 3, 56) := by kernel_rfl
theorem cellW3 (w : World) (x y z : Value) (t : TypeId) : ∀ j u, [x, y, z][j]? = some u → (w.alloc (.cells #[x, y, z] t)).cell? ((⟨w.heap.size, 0, none⟩ : Addr).add j) = some u := by
  intro j u hu
  rw [show (⟨w.heap.size, 0, none⟩ : Addr).add j = ⟨w.heap.size, j, none⟩ by unfold Addr.add; split <;> simp_all, World.cell?_alloc_new]
  simpa using hu
theorem Terms.split : ∀ {A B : List Tm} {ps : List PM}, Terms (A ++ B) ps → ∃ q r, ps = q ++ r ∧ Terms A q ∧ Terms B r
  | [], B, ps, h => ⟨[], ps, rfl, trivial, h⟩
  | T :: A, B, p :: ps, h => by
    obtain ⟨q, r, rfl, h1, h2⟩ := Terms.split (A := A) h.2
    exact ⟨p :: q, r, rfl, ⟨h.1, h1⟩, h2⟩
theorem Terms.more : ∀ {A : List Tm} {q : List PM}, Terms A q → ∀ {T : Tm} {p : PM}, TmM T p.2.2 → Terms (A ++ [T]) (q ++ [p])
  | [], [], _, _, _, h => ⟨h, trivial⟩
  | _ :: _, _ :: _, h, _, _, g => ⟨h.1, Terms.more h.2 g⟩
  | [], _ :: _, h, _, _, _ => by cases h
  | _ :: _, [], h, _, _, _ => by cases h
/-- the two rows of a machine in memory -/
def rowsP (p : PM) : List Thing := [rowT 3 1 p.1 p.2.2.next.length (p.2.2.next.map (Value.int .i64)), rowT 4 1 p.2.1 p.2.2.ends.length (p.2.2.ends.map Value.bool)]
def rowsPs (ps : List PM) : List Thing := ps.flatMap rowsP
theorem rowsPs_append (a b : List PM) : rowsPs (a ++ b) = rowsPs a ++ rowsPs b := by simp [rowsPs]
theorem Own.reads {wB w : World} {ts : List Thing} (h : Own wB ts w) {p : PM} (hp : ∀ t ∈ rowsP p, t ∈ ts) : ReadsP w p :=
  ⟨IsInts.of_owns ((h.ap.all _ (hp (rowT 3 1 p.1 p.2.2.next.length (p.2.2.next.map (Value.int .i64))) List.mem_cons_self)).1), IsBools.of_owns ((h.ap.all _ (hp (rowT 4 1 p.2.1 p.2.2.ends.length (p.2.2.ends.map Value.bool)) (List.mem_cons_of_mem _ List.mem_cons_self))).1)⟩
theorem rowsP_mem {ps : List PM} {p : PM} (h : p ∈ ps) : ∀ t ∈ rowsP p, t ∈ rowsPs ps := fun _ ht => List.mem_flatMap.2 ⟨p, h, ht⟩
/-- a row that is owned, cut behind its first machines -/
theorem ownsRow_cut3 {w : World} {base : Nat} {e : TypeId} {g cap n : Nat} {xs : List Value} {k : Nat} (hk : k ≤ n) (h : w.ownsRow base e 3 (.slice (some ⟨g, 0, none⟩) n cap) n xs) : w.ownsRow base e 3 (.slice (some ⟨g, 0, none⟩) k cap) k (xs.take (k * 3)) := by
  have hl := h.1
  obtain ⟨_, h2⟩ := h
  rcases h2 with ⟨h0, _⟩ | ⟨g', cap', cur, hv, hg, hh, hn, hcap, hsz, htake⟩
  · cases h0
  · cases hv
    refine ⟨by rw [List.length_take]; omega, .inr ⟨g, cap, cur, rfl, hg, hh, by omega, hcap, hsz, ?_⟩⟩
    rw [← htake, List.take_take, Nat.min_eq_left (Nat.mul_le_mul_right _ hk)]
theorem Own.cut3 {wB w : World} {ts : List Thing} {e : TypeId} {g cap n : Nat} {xs : List Value} {k : Nat} (h : Own wB (rowT e 3 (.slice (some ⟨g, 0, none⟩) n cap) n xs :: ts) w) (hk : k ≤ n) : Own wB (rowT e 3 (.slice (some ⟨g, 0, none⟩) k cap) k (xs.take (k * 3)) :: ts) w :=
  ⟨h.keep, ⟨fun t ht => by
    rcases List.mem_cons.1 ht with rfl | ht
    · exact ⟨ownsRow_cut3 hk h.ap.head, fun j e => h.ap.lt j e⟩
    · exact h.ap.all t (List.mem_cons_of_mem _ ht), List.pairwise_cons.2 ⟨fun u hu j e => (List.pairwise_cons.1 h.ap.two).1 u hu j e, (List.pairwise_cons.1 h.ap.two).2⟩⟩⟩
/-- the machines behind a place -/
theorem machs_behind {w : World} {g cap n : Nat} {ps : List PM} {e : TypeId} (h : w.ownsRow 0 e 3 (.slice (some ⟨g, 0, none⟩) n cap) n (cellsP ps)) (k : Nat) (hk : k ≤ n) (hc : cap ≤ maxLen) : IsMs w (.slice (some ⟨g, k * 3, none⟩) (n - k) (cap - k)) (ps.drop k) := by
  have hl : ps.length = n := by have := h.1; rw [cellsP_length] at this; omega
  have hcn : n ≤ cap := by
    rcases h.2 with ⟨h0, _⟩ | ⟨g', cap', cur, hv, hg, hh, hn, hcap, hsz, htake⟩
    · cases h0
    · cases hv; exact hn
  refine ⟨some ⟨g, k * 3, none⟩, cap - k, by rw [List.length_drop, hl], by rw [List.length_drop]; omega, by omega, ?_⟩
  by_cases h0 : k = n
  · exact .inl (List.drop_of_length_le (by omega))
  · refine .inr ⟨g, k * 3, rfl, (h.lt g rfl).2, fun i hi => ?_⟩
    rw [List.length_drop] at hi
    obtain ⟨e0, e1, e2⟩ := cellsP_at ps (k + i) (by omega)
    simp only [List.getElem_drop]
    refine ⟨?_, ?_, ?_⟩
    · rw [show k * 3 + i * 3 = (k + i) * 3 by omega, h.cellAt _ (by omega), e0]
    · rw [show k * 3 + i * 3 + 1 = (k + i) * 3 + 1 by omega, h.cellAt _ (by omega), e1]
    · rw [show k * 3 + i * 3 + 2 = (k + i) * 3 + 2 by omega, h.cellAt _ (by omega), e2]
/-- one machine more on a row -/
theorem Own.push3 {wB w w1 : World} {ts : List Thing} {e : TypeId} {v : Value} {n g cp : Nat} {xs news : List Value} {o : Obj} (h : Own wB (rowT e 3 v n xs :: ts) w) (hg : (w.alloc o).grownBy w1 v.ownBlock)
    (ho : w1.ownsRow 0 e 3 (.slice (some ⟨g, 0, none⟩) (n + 1) cp) (n + 1) (xs ++ news)) (hat : v.ownBlock = some g ∨ g = (w.alloc o).heap.size) :
    Own wB (rowT e 3 (.slice (some ⟨g, 0, none⟩) (n + 1) cp) (n + 1) (xs ++ news) :: ts) w1 := by
  have h1 := h.alloc o
  exact ⟨h1.keep.grown hg h1.size (fun j e => (h1.ap.lt j e).1), h1.ap.turn hg _ ho h1.size
    (fun j e => ⟨by cases e; exact hat.imp id (fun e => Nat.le_of_eq e.symm), (World.ownsRow.lt ho j e).2⟩)⟩
/-- a machine is made of the last parts: the stack is cut, and the rows are put beside -/
theorem Own.made {wB W W' : World} {z : Thing} {gs n sc pl : Nat} {psP psS : List PM} {pn : PM} (h : Own wB (rowT 26 3 (.slice (some ⟨gs, 0, none⟩) n sc) n (cellsP (psP ++ psS)) :: z :: rowsPs (psP ++ psS)) W) (hA : Apart W.heap.size (rowsP pn) W') (hb : Below W.heap.size W W') (hpl : psP.length = pl) (hn : pl ≤ n) :
    Own wB (rowT 26 3 (.slice (some ⟨gs, 0, none⟩) pl sc) pl (cellsP psP) :: z :: rowsPs (psP ++ [pn])) W' := by
  have h1 := h.join hA hb
  have h2 := h1.perm (us := rowT 26 3 (.slice (some ⟨gs, 0, none⟩) n sc) n (cellsP (psP ++ psS)) :: z :: (rowsPs psP ++ rowsP pn ++ rowsPs psS)) (by
    rw [rowsPs_append]
    refine (List.perm_middle (l₁ := rowsP pn)).trans (List.Perm.cons _ ((List.perm_middle (l₁ := rowsP pn)).trans (List.Perm.cons _ ?_)))
    rw [← List.append_assoc]
    exact List.Perm.append_right _ List.perm_append_comm)
  have h3 := h2.cut3 hn
  have e : (cellsP (psP ++ psS)).take (pl * 3) = cellsP psP := by
    rw [cellsP_append]; exact List.take_left' (by rw [cellsP_length, hpl])
  rw [e] at h3
  refine h3.sub (List.Sublist.cons_cons _ (List.Sublist.cons_cons _ ?_))
  rw [rowsPs_append]
  have e2 : rowsPs [pn] = rowsP pn := by simp [rowsPs]
  rw [e2]
  exact List.sublist_append_left _ _

theorem Own.made0 {wB W W' : World} {z : Thing} {pn : PM} (h : Own wB (rowT 26 3 (.slice none 0 0) 0 (cellsP []) :: z :: rowsPs []) W) (hA : Apart W.heap.size (rowsP pn) W') (hb : Below W.heap.size W W') :
    Own wB (rowT 26 3 (.slice none 0 0) 0 (cellsP []) :: z :: rowsPs [pn]) W' := by
  refine (h.join hA hb).perm ?_
  have e2 : rowsPs [pn] = rowsP pn := by simp [rowsPs]
  rw [e2]
  refine (List.perm_middle (l₁ := rowsP pn)).trans (List.Perm.cons _ ((List.perm_middle (l₁ := rowsP pn)).trans (List.Perm.cons _ ?_)))
  rw [show rowsPs [] = [] from rfl, List.append_nil]

set_option maxHeartbeats 6400000 in
theorem foldedM_any (ms : List Mk) (hwf : ∀ m ∈ ms, m.wf) (hok : termOk ms = true) (v : Value) (w : World) (h : IsMarks w v ms) :
    Calls Try.prog 112 #[v, .func (.func 113) #[] #[]] w fun e w' => ∃ T : Tm, T.good = true ∧ T.post = ms ∧ TmMade T w e w' := by
  obtain ⟨j0, hj, hy0, hy1, hy2⟩ := info_parts infoMachW
  have HJ := Lib.hid (And.intro hj (And.intro hy0 (And.intro hy1 hy2)))
  clear hj hy0 hy1 hy2
  have hlen : ms.length ≤ 9 := by
    simp only [termOk, Bool.and_eq_true, decide_eq_true_eq] at hok; exact hok.1
  have hl0 : 0 < ms.length := by
    obtain ⟨T, _, hp, _⟩ := tree_of hok
    rw [← hp]; exact T.post_pos
  obtain ⟨a, n, cap, rfl⟩ := h.slice
  obtain ⟨g, off, rfl, rfl, h1, h2, hg, hc⟩ := h.cells hl0
  unfold maxLen at h2
  have HC := Lib.hid hc
  have HOK := Lib.hid hok
  have HWF := Lib.hid hwf
  have O0 := Lib.hid ((((Own.nil w).box #[.int .i64 0, .slice none 0 0, .slice none 0 0] 26)).keep)
  have O1 : Hid (Own w (rowT 26 3 (.slice none 0 0) 0 (cellsP []) :: cellsT w.heap.size #[.int .i64 0, .slice none 0 0, .slice none 0 0] 26 :: rowsPs []) (w.alloc (.cells #[.int .i64 0, .slice none 0 0, .slice none 0 0] 26))) := Lib.hid (by
    have b := (Own.nil w).box #[.int .i64 0, .slice none 0 0, .slice none 0 0] 26
    exact ⟨b.keep, b.ap.idle _ (World.ownsRow_nil _ _ _ _) rfl⟩)
  clear hc hok hwf h O0
  go_enter Try.func112, Try.ntmps112
  go_upto_region 1 with fail
  generalize hW0 : (w.alloc (.cells #[.int .i64 0, .slice none 0 0, .slice none 0 0] 26)) = W0 at *
  clear hW0
  generalize hR : w.heap.size = R at *
  have HRR := Lib.hid hR
  go_wp2_with fail
  go_loopw [5, 13] (fun sv i wr => ∃ (k : Nat) (sts : List Tm) (ps : List PM), k ≤ ms.length ∧ i = .int .i64 (k : Int) ∧ (∀ T ∈ sts, T.good = true) ∧ postL sts = ms.take k ∧ Terms sts ps ∧ Own w (rowT 26 3 sv ps.length (cellsP ps) :: cellsT R #[.int .i64 0, .slice none 0 0, .slice none 0 0] 26 :: rowsPs ps) wr) (fun _ i _ => ms.length - (intOf i).toNat)
  case atStart => exact ⟨0, [], [], Nat.zero_le _, rfl, by simp, rfl, trivial, O1.out⟩
  case round =>
    obtain ⟨k, sts, ps, hk, rfl, hgd, hpo, htm, hO⟩ := hrel
    have O1 := Lib.hid hO
    have HTM := Lib.hid htm
    obtain ⟨sa, sc, rfl⟩ := ownsRow_slice (hO.ap.head)
    clear hO
    by_cases hlt : k < ms.length
    · have hltI : (k : Int) < (ms.length : Int) := by omega
      obtain ⟨pre, subs, T, rfl, hput, hgd2, hpo2⟩ := step_trees HOK.out hlt hgd hpo
      obtain ⟨psP, psS, rfl, htp, hts⟩ := htm.split
      have HTP := Lib.hid htp
      have HTS := Lib.hid hts
      have HPUT := Lib.hid hput
      have HGD2 := Lib.hid hgd2
      have HPO2 := Lib.hid hpo2
      have hTg : Hid (T.good = true) := Lib.hid (hgd2 T (by simp))
      have hsl := hput.len
      have hpn : (psP ++ psS).length ≤ k := by
        have := congrArg List.length hpo
        rw [List.length_take] at this
        have h3 := postL_len (pre ++ subs)
        have h4 := htm.len
        omega
      have hmwf := HWF.out ms[k] (List.getElem_mem hlt)
      have HMW := Lib.hid hmwf
      obtain ⟨c0, c1, c2, c3, c4⟩ := (HC.out k hlt).below O1.out.keep (by rw [hR]; exact hg)
      have HU := Lib.hid (fun W => partsUnder_any ms[k] hmwf W)
      have hfine : ms[k].fine = true := by
        have hl : leftOf (ms.take k) 0 = some (pre ++ subs).length := by rw [← hpo, postL_good hgd, Nat.zero_add]
        by_cases hf : ms[k].fine = true
        · exact hf
        · have := leftOf_no hlt hl (fun h => hf h.1)
          rw [HOK.out] at this; cases this
      have HF := Lib.hid hfine
      have hss := hts.len
      have hlen2 : (psP ++ psS).length = psP.length + psS.length := List.length_append
      clear hput hgd2 hpo2 hgd hpo hmwf hfine htm htp hts
      generalize ms[k] = m at *
      obtain ⟨k1, r1, l1, t1, n1⟩ := m
      have HU2 : Hid (∀ W, Calls Try.prog 142 #[.agg #[.int .i64 k1, .int .i64 r1, .string l1, .string t1, .int .i64 n1]] W (UnderPost ⟨k1, r1, l1, t1, n1⟩ W)) := Lib.hid HU.out
      clear HU
      simp only at c0 c1 c2 c3 c4
      go_wp2_with fail
      refine (HU2.out _).mono ?_
      rintro e w2 ⟨u, rfl, hu, hb2⟩
      have O2 := Lib.hid ((O1.out.alloc (.cells #[.int .i64 k1, .int .i64 r1, .string l1, .string t1, .int .i64 n1] 109)).below hb2)
      have hmk : ∀ i, w2.cell? ⟨wr.heap.size, i, none⟩ = (#[.int .i64 k1, .int .i64 r1, .string l1, .string t1, .int .i64 n1] : Array Value)[i]? := fun i => (hb2.cell (p := ⟨wr.heap.size, i, none⟩) (by simp)).trans (World.cell?_alloc_new wr _ _ i)
      have m0 := hmk 0
      have m1 := hmk 1
      have m2 := hmk 2
      have m3 := hmk 3
      have m4 := hmk 4
      simp only [List.getElem?_toArray, List.getElem?_cons_succ, List.getElem?_cons_zero] at m0 m1 m2 m3 m4
      rw [HF.out] at *
      have hue := hu rfl
      rw [← hsl, hss] at hue
      subst hue
      have HCW : Hid (∀ (uv : Value) (W : World), IsMs W uv psS → (∀ p ∈ psS, ReadsP W p) → Calls Try.prog 113 #[.agg #[.int .i64 k1, .int .i64 r1, .string l1, .string t1, .int .i64 n1], uv] W (TmMade T W)) := Lib.hid (fun uv W a b => partMachine_any ⟨k1, r1, l1, t1, n1⟩ subs T HPUT.out hTg.out HMW.out psS HTS.out uv W a b)
      have hq : IntKind.i64.wrap (((psP ++ psS).length : Int) - (psS.length : Int)) = (psP.length : Int) := by rw [hlen2, IntWalk.i64_in _ (by omega)]; omega
      have HNP : Hid ((psP ++ psS).length - psP.length = psS.length ∧ psP.length ≤ (psP ++ psS).length ∧ (psP ++ psS).length ≤ 9 ∧ ((psP ++ psS).length = 0 → psP = [] ∧ psS = [])) := Lib.hid ⟨by omega, by omega, by omega, fun h => ⟨List.eq_nil_of_length_eq_zero (by omega), List.eq_nil_of_length_eq_zero (by omega)⟩⟩
      clear hu hb2 hmk c0 c1 c2 c3 c4 O1 hsl hss hlen2 hpn HTM
      generalize wr.heap.size = MB at *
      generalize hnn : (psP ++ psS).length = nn at *
      clear hnn
      generalize hpl : psP.length = pl at *
      have HPL := Lib.hid hpl
      generalize hul : psS.length = ul at *
      clear hpl hul
      have hnp := HNP.out
      have hpn1 := hnp.2.1
      have hnn9 := hnp.2.2.1
      clear hnp
      have O2d := Lib.hid (O2.out.same (grown_drew w2 none))
      have HRD := Lib.hid (fun p (hp : p ∈ psS) => O2d.out.reads (p := p) (fun t ht => List.mem_cons_of_mem _ (List.mem_cons_of_mem _ (rowsP_mem (List.mem_append.2 (.inr hp)) t ht))))
      rcases (O2.out.ap.head).2 with ⟨hvn, hn0⟩ | ⟨gs, scc, cur, hvn, -⟩
      · cases hvn
        obtain ⟨hpe, hse⟩ := HNP.out.2.2.2 hn0
        have HPE := Lib.hid hpe
        have hp0 : pl = 0 := by rw [← HPL.out, hpe]; rfl
        have hu0 : ul = 0 := by have := HNP.out.1; omega
        have HUB : Hid (IsMs w2.drew (.slice none 0 0) psS) := Lib.hid (by rw [hse]; exact ⟨none, 0, rfl, Nat.le_refl _, Nat.zero_le _, .inl rfl⟩)
        have O2e : Hid (Own w (rowT 26 3 (.slice none 0 0) 0 (cellsP []) :: cellsT R #[.int .i64 0, .slice none 0 0, .slice none 0 0] 26 :: rowsPs []) w2.drew) := Lib.hid (by
          have h := O2d.out
          rw [hpe, hse] at h; exact h)
        clear hpe hse O2 O2d HNP hn0
        subst hp0 hu0
        go_wp2_with fail
        go_region_law (first | (go_simp; go_at_call 113; refine (HCW.out _ _ HUB.out HRD.out).mono ?_; rintro e w5 ⟨mm, a1, a2, d1, d2, hmm, rfl, hA5, hb5⟩; have O5 := Lib.hid (Own.made0 (pn := (.slice a1 mm.next.length d1, .slice a2 mm.ends.length d2, mm)) O2e.out hA5 hb5); have HMM := Lib.hid hmm) | (refine step_append_lies _ rfl _ _ 146 rfl 0 26 j0 (.agg #[.int .i64 0, .slice none 0 0, .slice none 0 0]) 3 56 Try.underlying146 HJ.out.1 HJ.out.2.1 HJ.out.2.2.1 HJ.out.2.2.2 rfl (by decide) (.slice none 0 0) 0 (cellsP []) rfl ((O5.out.ap.head).alloc _) ⟨w5.heap.size, 0, none⟩ 1 1 [.int .i64 mm.st, .slice a1 mm.next.length d1, .slice a2 mm.ends.length d2] rfl rfl (cellW3 _ _ _ _ _) (by simp [Value.oneCell']) (by omega) (by unfold maxLen; omega) (by omega) (Nat.zero_le _) _ rfl ?_; intro g9 cp w6 hown hgrow hat hlt3; have O6 := Lib.hid (O5.out.push3 hgrow hown hat)))
        all_goals
          go_wp2
          go_roundw
          case rel =>
            refine ⟨k + 1, pre ++ [T], psP ++ [(.slice a1 mm.next.length d1, .slice a2 mm.ends.length d2, mm)], by omega, by go_num, HGD2.out, HPO2.out, HTP.out.more HMM.out, ?_⟩
            rw [HPE.out]
            exact O6.out
          case measure => simp [intOf]; omega
      · cases hvn
        have hcap := row_cap (O2.out.ap.head)
        have hcm := hcap.2
        unfold maxLen at hcm
        have hsc1 : pl ≤ sc := by omega
        obtain ⟨AD, had⟩ : ∃ AD : Option Addr, (if sc = pl then some (⟨gs, 0, none⟩ : Addr) else some ⟨gs, pl * 3, none⟩) = AD := ⟨_, rfl⟩
        have HUB : Hid (IsMs w2.drew (.slice AD ul (sc - pl)) psS) := Lib.hid (by
          have h := machs_behind (O2d.out.ap.head) pl hpn1 hcap.2
          rw [HNP.out.1, List.drop_left' HPL.out] at h
          by_cases he : sc = pl
          · rw [if_pos he] at had
            subst had
            have hu0 : ul = 0 := by have := hcap.1; have := HNP.out.1; omega
            obtain ⟨a', c', he', h1, h2, h3⟩ := h
            simp only [Value.slice.injEq] at he'
            have hsub : psS = [] := List.eq_nil_of_length_eq_zero (by omega)
            exact ⟨some ⟨gs, 0, none⟩, sc - pl, by rw [hsub, hu0]; rfl, by rw [hsub]; exact Nat.zero_le _, by omega, .inl hsub⟩
          · rw [if_neg he] at had
            subst had
            exact h)
        have hnsub : nn - pl = ul := HNP.out.1
        go_wp2_with fail
        go_region_law (first | (go_simp; go_at_call 113; refine (HCW.out _ _ HUB.out HRD.out).mono ?_; rintro e w5 ⟨mm, a1, a2, d1, d2, hmm, rfl, hA5, hb5⟩; have O5 := Lib.hid (Own.made (pn := (.slice a1 mm.next.length d1, .slice a2 mm.ends.length d2, mm)) O2d.out hA5 hb5 HPL.out hpn1); have HMM := Lib.hid hmm) | (refine step_append_lies _ rfl _ _ 146 rfl 0 26 j0 (.agg #[.int .i64 0, .slice none 0 0, .slice none 0 0]) 3 56 Try.underlying146 HJ.out.1 HJ.out.2.1 HJ.out.2.2.1 HJ.out.2.2.2 rfl (by decide) (.slice (some ⟨gs, 0, none⟩) pl sc) pl (cellsP psP) rfl ((O5.out.ap.head).alloc _) ⟨w5.heap.size, 0, none⟩ 1 1 [.int .i64 mm.st, .slice a1 mm.next.length d1, .slice a2 mm.ends.length d2] rfl rfl (cellW3 _ _ _ _ _) (by simp [Value.oneCell']) (by omega) (by unfold maxLen; omega) (by omega) (Nat.zero_le _) _ rfl ?_; intro g9 cp w6 hown hgrow hat hlt3; have O6 := Lib.hid (O5.out.push3 hgrow hown hat)))
        all_goals
          go_wp2
          go_roundw
          case rel =>
            refine ⟨k + 1, pre ++ [T], psP ++ [(.slice a1 mm.next.length d1, .slice a2 mm.ends.length d2, mm)], by omega, by go_num, HGD2.out, HPO2.out, HTP.out.more HMM.out, ?_⟩
            rw [List.length_append, HPL.out, cellsP_append]
            exact O6.out
          case measure => simp [intOf]; omega
    · obtain rfl : k = ms.length := by omega
      obtain ⟨T, rfl⟩ := last_tree HOK.out hgd (by rw [hpo, List.take_length])
      have HT : Hid (T.good = true ∧ T.post = ms) := Lib.hid ⟨hgd T (by simp), by rw [← postL_one, hpo, List.take_length]⟩
      match ps, htm with
      | [p], htm =>
      have HTT := Lib.hid htm.1
      have HRP := O1.out.reads (p := p) (fun t ht => List.mem_cons_of_mem _ (List.mem_cons_of_mem _ (rowsP_mem (by simp) t ht)))
      obtain ⟨nv, ev, mm⟩ := p
      obtain ⟨⟨a1, d1, hnv, -, -, -⟩, ⟨a2, d2, hev, -, -, -⟩⟩ := HRP
      simp only at hnv hev
      subst hnv hev
      rcases (O1.out.ap.head).2 with ⟨hvn, hn0⟩ | ⟨gs, scc, cur, hvn, -⟩
      · cases hvn
      · cases hvn
        have x0 := World.ownsRow.cellAt (O1.out.ap.head) 0 (by simp)
        have x1 := World.ownsRow.cellAt (O1.out.ap.head) 1 (by simp)
        have x2 := World.ownsRow.cellAt (O1.out.ap.head) 2 (by simp)
        have z0 := cellsT_cell (O1.out.cells 1 (by simp) rfl) 0
        have z1 := cellsT_cell (O1.out.cells 1 (by simp) rfl) 1
        have z2 := cellsT_cell (O1.out.cells 1 (by simp) rfl) 2
        have zf := cellsT_frozen (O1.out.cells 1 (by simp) rfl)
        simp only [cellsP, List.flatMap_cons, List.flatMap_nil, List.append_nil, List.getElem?_toArray, List.getElem?_cons_succ, List.getElem?_cons_zero] at z0 z1 z2 x0 x1 x2
        obtain ⟨f1, f2, r0, r1, r2⟩ := O1.out.fin (us := [rowT 3 1 (.slice a1 mm.next.length d1) mm.next.length (mm.next.map (Value.int .i64)), rowT 4 1 (.slice a2 mm.ends.length d2) mm.ends.length (mm.ends.map Value.bool)]) 1 (by simp) rfl (List.Sublist.cons _ (List.Sublist.refl _)) (x := .int .i64 mm.st) (y := .slice a1 mm.next.length d1) (z := .slice a2 mm.ends.length d2) rfl
        have HF := Lib.hid (And.intro f1 f2)
        clear hgd hpo f1 f2 htm
        go_wp2_with fail
        generalize (((wr.setCell ⟨R, 0, none⟩ (.int .i64 mm.st)).setCell ⟨R, 1, none⟩ (.slice a1 mm.next.length d1)).setCell ⟨R, 2, none⟩ (.slice a2 mm.ends.length d2)) = WE at *
        refine bodyPost_ret (v := .agg #[.int .i64 mm.st, .slice a1 mm.next.length d1, .slice a2 mm.ends.length d2]) ?_ rfl ⟨T, HT.out.1, HT.out.2, mm, a1, a2, d1, d2, HTT.out, rfl, HF.out.1, HF.out.2⟩
        simp [results, Try.results112, go_sem, r0, r1, r2]
end Go.Proofs.Ytaghjddndgpljaa

namespace Go.Proofs.Ytaghjddndgpljaa
open Go.RowKit

set_option maxHeartbeats 3200000 in
theorem l5Machine_any (T : Tm) (hg : T.good = true) : ∀ (v : Value) (w : World), IsMarks w v T.post → T.post.length ≤ 9 → Calls Try.prog 111 #[v] w (TmNew T w) := by
  induction T with
  | rule r =>
    intro v w h hl
    obtain ⟨a, n, c, rfl⟩ := h.slice
    obtain ⟨g, off, rfl, rfl, h1, h2, hgl, hc⟩ := h.cells (by simp [Tm.post])
    obtain ⟨c0, c1, c2, c3, c4⟩ := hc 0 (by simp [Tm.post])
    obtain ⟨kd, lt, th, mn⟩ := r
    have hrok : (Ru.mk kd lt th mn).ok = true := hg
    have HC := Lib.hid (fun W => specMachineFor_any kd lt th mn W)
    have HMF := Lib.hid (mf_ok hrok)
    rw [hrok] at HC
    have HTM : Hid (∀ k, IsLmZ (mf ⟨kd, lt, th, mn⟩) k → TmM (.rule ⟨kd, lt, th, mn⟩) k ∧ k.ok = true) := Lib.hid (fun k h => ⟨h, IsLmZ.ok (mf_ok hrok) h⟩)
    generalize mf ⟨kd, lt, th, mn⟩ = mm at *
    simp only [Tm.post, List.length_singleton, List.getElem_cons_zero, Nat.zero_mul, Nat.add_zero] at c0 c1 c2 c3 c4 h1 h2
    unfold maxLen at h2
    have O0 := Lib.hid ((Own.nil w).box #[.int .i64 0, .slice none 0 0, .slice none 0 0] 26)
    have hal : ∀ i, (w.alloc (.cells #[.int .i64 0, .slice none 0 0, .slice none 0 0] 26)).cell? ⟨g, i, none⟩ = w.cell? ⟨g, i, none⟩ := fun i => ((Below.refl w.heap.size w).alloc (Nat.le_refl _) _).cell (p := ⟨g, i, none⟩) hgl
    rw [← hal] at c0 c1 c2 c3 c4
    clear h hc hl hrok hg hal
    show Calls Try.prog _ #[.slice (some ⟨g, off, none⟩) 1 c] w _
    go_enter Try.func111, Try.ntmps111
    go_upto_region 1 with fail
    generalize hW0 : (w.alloc (.cells #[.int .i64 0, .slice none 0 0, .slice none 0 0] 26)) = W0 at *
    clear hW0
    generalize hR : w.heap.size = R at *
    have HR := Lib.hid hR
    clear hR
    go_wp2_with fail
    refine (HC.out _).mono ?_
    rintro e w2 ⟨a1, a2, d1, d2, rfl, hA2, hb2⟩
    have O2 := Lib.hid (O0.out.join hA2 hb2)
    have O3 := Lib.hid (O2.out.box #[.int .i64 mm.st, .slice a1 mm.next.length d1, .slice a2 mm.ends.length d2] 26)
    clear hA2 hb2 c0 c1 c2 c3 c4
    go_upto_region 5 with fail
    generalize hW3 : (w2.alloc (.cells #[.int .i64 mm.st, .slice a1 mm.next.length d1, .slice a2 mm.ends.length d2] 26)) = W3 at *
    clear hW3
    generalize w2.heap.size = B3 at *
    have b0 := cellsT_cell (O3.out.cells 0 (by simp) rfl) 0
    have b1 := cellsT_cell (O3.out.cells 0 (by simp) rfl) 1
    have b2 := cellsT_cell (O3.out.cells 0 (by simp) rfl) 2
    simp only [List.getElem?_toArray, List.getElem?_cons_succ, List.getElem?_cons_zero] at b0 b1 b2
    go_wp2_with fail
    refine (specLeastZ mm _ _ _ (O3.out.ints 1 (by simp) rfl) (O3.out.bools 2 (by simp) rfl) (M.ok_wf HMF.out)).mono ?_
    rintro e w4 ⟨k, hk, a3, a4, d3, d4, rfl, hA4, hb4⟩
    have O4 := Lib.hid (O3.out.join hA4 hb4)
    have HK := Lib.hid (HTM.out k hk)
    have z0 := cellsT_cell (O4.out.cells 5 (by simp) rfl) 0
    have z1 := cellsT_cell (O4.out.cells 5 (by simp) rfl) 1
    have z2 := cellsT_cell (O4.out.cells 5 (by simp) rfl) 2
    have zf := cellsT_frozen (O4.out.cells 5 (by simp) rfl)
    simp only [List.getElem?_toArray, List.getElem?_cons_succ, List.getElem?_cons_zero] at z0 z1 z2
    clear hA4 hb4 b0 b1 b2 hk
    go_wp2_with fail
    obtain ⟨f1, f2, r0, r1, r2⟩ := O4.out.fin (us := rowsM k (.slice a3 k.next.length d3) (.slice a4 k.ends.length d4)) 5 (by simp) rfl (List.Sublist.cons_cons _ (List.Sublist.cons_cons _ (List.nil_sublist _))) (x := .int .i64 k.st) (y := .slice a3 k.next.length d3) (z := .slice a4 k.ends.length d4) rfl
    have HF := Lib.hid (And.intro f1 f2)
    clear f1 f2 z0 z1 z2 zf
    generalize (((w4.setCell ⟨R, 0, none⟩ (.int .i64 k.st)).setCell ⟨R, 1, none⟩ (.slice a3 k.next.length d3)).setCell ⟨R, 2, none⟩ (.slice a4 k.ends.length d4)) = WE at *
    refine bodyPost_ret (v := .tuple #[.agg #[.int .i64 k.st, .slice a3 k.next.length d3, .slice a4 k.ends.length d4], .bool true]) ?_ rfl ⟨k, a3, a4, d3, d4, HK.out.1, by rw [HK.out.2], HF.out.1, HF.out.2⟩
    simp [results, Try.results111, go_sem, r0, r1, r2]
  | not a ih =>
    intro v w h hl
    have hga : a.good = true := hg
    have hpos := a.post_pos
    have hlen : (Tm.not a).post.length = a.post.length + 1 := by simp [Tm.post]
    obtain ⟨va, n, c, rfl⟩ := h.slice
    have HTK := Lib.hid (fun (k : Nat) (hk : k ≤ n) => h.take k hk)
    obtain ⟨g, off, rfl, rfl, h1, h2, hgl, hc⟩ := h.cells (by omega)
    have hcell := (hc a.post.length (by omega)).1
    have hm : (Tm.not a).post[a.post.length]'(by omega) = markOf 3 := by simp [Tm.post]
    rw [hm] at hcell
    have htk : (Tm.not a).post.take a.post.length = a.post := by simp [Tm.post]
    have HI := Lib.hid (fun W (hb : Below w.heap.size w W) => ih hga (.slice (some ⟨g, off, none⟩) a.post.length c) W (by have := (HTK.out a.post.length (by omega)).below hb; rwa [htk] at this) (by omega))
    have HTM : Hid (∀ m k b, TmM a m → IsJoin m.ok (fun u => !m.lang 0 u) k b → TmM (.not a) k ∧ k.ok = b ∧ (m.ok = false → b = false)) := Lib.hid (fun m k b h1 h2 => ⟨⟨m, b, h1, h2⟩, h2.ok_eq, fun ho => (h2.no ho).1⟩)
    have HWF := Lib.hid (fun m (h : TmM a m) => h.wf hga)
    unfold maxLen at h2
    rw [hlen] at *
    have hl8 : a.post.length ≤ 8 := by omega
    have O0 := Lib.hid ((Own.nil w).box #[.int .i64 0, .slice none 0 0, .slice none 0 0] 26)
    have hal : (w.alloc (.cells #[.int .i64 0, .slice none 0 0, .slice none 0 0] 26)).cell? ⟨g, off + a.post.length * 5, none⟩ = w.cell? ⟨g, off + a.post.length * 5, none⟩ := ((Below.refl w.heap.size w).alloc (Nat.le_refl _) _).cell (p := ⟨g, off + a.post.length * 5, none⟩) hgl
    simp only [markOf] at hcell
    rw [← hal] at hcell
    clear h hc hm htk HTK ih hlen hl hal hg hga
    generalize a.post.length = la at *
    have hq : IntKind.i64.wrap (((la + 1 : Nat) : Int) - 1) = (la : Int) := by rw [IntWalk.i64_in _ (by omega)]; omega
    have hq2 : IntKind.i64.wrap ((la : Int) + 1 - 1) = (la : Int) := by rw [IntWalk.i64_in _ (by omega)]; omega
    go_enter Try.func111, Try.ntmps111
    go_upto_region 1 with fail
    generalize hW0 : (w.alloc (.cells #[.int .i64 0, .slice none 0 0, .slice none 0 0] 26)) = W0 at *
    clear hW0
    generalize hR : w.heap.size = R at *
    have HR := Lib.hid hR
    go_wp2_with fail
    refine (HI.out _ (by rw [← hR]; exact O0.out.keep)).mono ?_
    rintro e w2 ⟨m, a1, a2, d1, d2, hm, rfl, hA2, hb2⟩
    have O2 := Lib.hid (O0.out.join hA2 hb2)
    have O3 := Lib.hid (O2.out.box #[.int .i64 m.st, .slice a1 m.next.length d1, .slice a2 m.ends.length d2] 26)
    have HM := Lib.hid hm
    clear hA2 hb2 hcell hR hm
    go_upto_region 8 with fail
    generalize hW3 : (w2.alloc (.cells #[.int .i64 m.st, .slice a1 m.next.length d1, .slice a2 m.ends.length d2] 26)) = W3 at *
    clear hW3
    generalize w2.heap.size = B3 at *
    have b0 := cellsT_cell (O3.out.cells 0 (by simp) rfl) 0
    have b1 := cellsT_cell (O3.out.cells 0 (by simp) rfl) 1
    have b2 := cellsT_cell (O3.out.cells 0 (by simp) rfl) 2
    simp only [List.getElem?_toArray, List.getElem?_cons_succ, List.getElem?_cons_zero] at b0 b1 b2
    go_wp2_with fail
    refine (specNot_any m _ _ _ (O3.out.ints 1 (by simp) rfl) (O3.out.bools 2 (by simp) rfl) (HWF.out m HM.out)).mono ?_
    rintro e w4 ⟨k, r, a3, a4, d3, d4, hj, rfl, hA4, hb4⟩
    have O4 := Lib.hid (O3.out.join hA4 hb4)
    have HK := Lib.hid (HTM.out m k r HM.out hj)
    have O5 := Lib.hid (O4.out.box #[.int .i64 k.st, .slice a3 k.next.length d3, .slice a4 k.ends.length d4] 26)
    clear hA4 hb4 b0 b1 b2 hj
    go_upto_region 9 with fail
    generalize hW5 : (w4.alloc (.cells #[.int .i64 k.st, .slice a3 k.next.length d3, .slice a4 k.ends.length d4] 26)) = W5 at *
    clear hW5
    generalize w4.heap.size = B5 at *
    have b0 := cellsT_cell (O5.out.cells 0 (by simp) rfl) 0
    have b1 := cellsT_cell (O5.out.cells 0 (by simp) rfl) 1
    have b2 := cellsT_cell (O5.out.cells 0 (by simp) rfl) 2
    have z0 := cellsT_cell (O5.out.cells 6 (by simp) rfl) 0
    have z1 := cellsT_cell (O5.out.cells 6 (by simp) rfl) 1
    have z2 := cellsT_cell (O5.out.cells 6 (by simp) rfl) 2
    have zf := cellsT_frozen (O5.out.cells 6 (by simp) rfl)
    simp only [List.getElem?_toArray, List.getElem?_cons_succ, List.getElem?_cons_zero] at z0 z1 z2 b0 b1 b2
    obtain ⟨f1, f2, r0, r1, r2⟩ := O5.out.fin (us := rowsM k (.slice a3 k.next.length d3) (.slice a4 k.ends.length d4)) 6 (by simp) rfl (List.Sublist.cons _ (List.Sublist.cons_cons _ (List.Sublist.cons_cons _ (List.nil_sublist _)))) (x := .int .i64 k.st) (y := .slice a3 k.next.length d3) (z := .slice a4 k.ends.length d4) rfl
    have HF := Lib.hid (And.intro f1 f2)
    clear f1 f2
    have HKO := Lib.hid HK.out.2.1
    cases hmo : m.ok with
    | true =>
      rw [hmo] at *
      go_wp2_with fail
      generalize (((W5.setCell ⟨R, 0, none⟩ (.int .i64 k.st)).setCell ⟨R, 1, none⟩ (.slice a3 k.next.length d3)).setCell ⟨R, 2, none⟩ (.slice a4 k.ends.length d4)) = WE at *
      refine bodyPost_ret (v := .tuple #[.agg #[.int .i64 k.st, .slice a3 k.next.length d3, .slice a4 k.ends.length d4], .bool r]) ?_ rfl ⟨k, a3, a4, d3, d4, HK.out.1, by rw [HKO.out], HF.out.1, HF.out.2⟩
      simp [results, Try.results111, go_sem, r0, r1, r2]
    | false =>
      have hrf := HK.out.2.2 hmo
      subst hrf
      rw [hmo] at *
      go_wp2_with fail
      generalize (((W5.setCell ⟨R, 0, none⟩ (.int .i64 k.st)).setCell ⟨R, 1, none⟩ (.slice a3 k.next.length d3)).setCell ⟨R, 2, none⟩ (.slice a4 k.ends.length d4)) = WE at *
      refine bodyPost_ret (v := .tuple #[.agg #[.int .i64 k.st, .slice a3 k.next.length d3, .slice a4 k.ends.length d4], .bool false]) ?_ rfl ⟨k, a3, a4, d3, d4, HK.out.1, by rw [HKO.out], HF.out.1, HF.out.2⟩
      simp [results, Try.results111, go_sem, r0, r1, r2]
  | two o a b iha ihb =>
    intro v w h hl
    have hgab : a.good = true ∧ b.good = true := by simpa [Tm.good] using hg
    have hposa := a.post_pos
    have hposb := b.post_pos
    have hlen : (Tm.two o a b).post.length = a.post.length + b.post.length + 1 := by simp [Tm.post]; omega
    obtain ⟨va, n, c, rfl⟩ := h.slice
    have HTK := Lib.hid (fun (k : Nat) (hk : k ≤ n) => h.take k hk)
    have HH := Lib.hid h
    obtain ⟨g, off, rfl, rfl, h1, h2, hgl, hc⟩ := h.cells (by omega)
    have hcell := (hc (a.post.length + b.post.length) (by omega)).1
    have hm : (Tm.two o a b).post[a.post.length + b.post.length]'(by omega) = markOf (if o = true then 2 else 1) := by
      have : (Tm.two o a b).post[a.post.length + b.post.length]? = some (markOf (if o = true then 2 else 1)) := by
        rw [Tm.post, List.getElem?_append_right (by simp)]; simp
      rw [List.getElem?_eq_getElem (by omega)] at this
      exact Option.some.inj this
    rw [hm] at hcell
    have hta : (Tm.two o a b).post.take a.post.length = a.post := by rw [Tm.post, List.append_assoc, List.take_left]
    have htb : ((Tm.two o a b).post.take (a.post.length + b.post.length)).drop a.post.length = b.post := by
      rw [Tm.post, List.take_left' (by simp), List.drop_left]
    have HST := Lib.hid (fun W (hb : Below w.heap.size w W) => l4Starts_any a.post [markOf (if o = true then 2 else 1)] b (.slice (some ⟨g, off, none⟩) (Tm.two o a b).post.length c) ((a.post.length : Int) + b.post.length - 1) W (HH.out.below hb) hl (by omega))
    have HIA := Lib.hid (fun W (hb : Below w.heap.size w W) => iha hgab.1 (.slice (some ⟨g, off, none⟩) a.post.length c) W (by have := (HTK.out a.post.length (by omega)).below hb; rwa [hta] at this) (by omega))
    have HIB := Lib.hid (fun W (hb : Below w.heap.size w W) => ihb hgab.2 (.slice (some ⟨g, off + a.post.length * 5, none⟩) b.post.length (c - a.post.length)) W (by
      have := (HH.out.cut a.post.length (a.post.length + b.post.length) (by omega) (by omega)).below hb
      rw [htb, Nat.add_sub_cancel_left] at this; exact this) (by omega))
    have HCE := Lib.hid (fun W (hb : Below w.heap.size w W) => (hb.cell (p := ⟨g, off + (a.post.length + b.post.length) * 5, none⟩) hgl).trans hcell)
    have HTT : Hid (∀ k l m r, TmM a k → TmM b l → IsJoin (k.ok && l.ok) (fun u => k.lang 0 u || l.lang 0 u) m r → TmM (.two true a b) m ∧ m.ok = r) := Lib.hid (fun k l m r h1 h2 h3 => ⟨⟨k, l, r, h1, h2, h3⟩, h3.ok_eq⟩)
    have HTF : Hid (∀ k l m r, TmM a k → TmM b l → IsJoin (k.ok && l.ok) (fun u => k.lang 0 u && l.lang 0 u) m r → TmM (.two false a b) m ∧ m.ok = r) := Lib.hid (fun k l m r h1 h2 h3 => ⟨⟨k, l, r, h1, h2, h3⟩, h3.ok_eq⟩)
    have HWA := Lib.hid (fun m (h : TmM a m) => h.wf hgab.1)
    have HWB := Lib.hid (fun m (h : TmM b m) => h.wf hgab.2)
    unfold maxLen at h2
    rw [hlen] at *
    have O0 := Lib.hid ((Own.nil w).box #[.int .i64 0, .slice none 0 0, .slice none 0 0] 26)
    clear HH h hc hm hta htb HTK iha ihb hlen hcell hg hgab
    generalize a.post.length = la at *
    generalize b.post.length = lb at *
    have hq2 : IntKind.i64.wrap ((la : Int) + lb + 1 - 1) = ((la + lb : Nat) : Int) := by rw [IntWalk.i64_in _ (by omega)]; omega
    have hq3 : IntKind.i64.wrap (((la + lb : Nat) : Int) - 1) = (la : Int) + lb - 1 := by rw [IntWalk.i64_in _ (by omega)]; omega
    have hcla : ¬ c = la := by omega
    have hsub : la + lb - la = lb := by omega
    cases o with
    | true =>
      have HCK : Hid (∀ W, Below w.heap.size w W → W.cell? ⟨g, off + (la + lb) * 5, none⟩ = some (.int .i64 2)) := Lib.hid (fun W hb => HCE.out W hb)
      go_enter Try.func111, Try.ntmps111
      go_upto_region 1 with fail
      generalize hW0 : (w.alloc (.cells #[.int .i64 0, .slice none 0 0, .slice none 0 0] 26)) = W0 at *
      clear hW0
      have BW := Lib.hid O0.out.keep
      have hcell := HCK.out _ BW.out
      have HSTW := Lib.hid (HST.out _ BW.out)
      have HIAW := Lib.hid (HIA.out _ BW.out)
      generalize hR : w.heap.size = R at *
      go_wp2_with fail
      refine HSTW.out.mono ?_
      rintro e w1 ⟨rfl, rfl⟩
      go_wp2_with fail
      refine HIAW.out.mono ?_
      rintro e w2 ⟨m, a1, a2, d1, d2, hm, rfl, hA2, hb2⟩
      have O2 := Lib.hid (O0.out.join hA2 hb2)
      have O3 := Lib.hid (O2.out.box #[.int .i64 m.st, .slice a1 m.next.length d1, .slice a2 m.ends.length d2] 26)
      have HM := Lib.hid hm
      clear hA2 hb2 hcell hm
      go_upto_region 12 with fail
      generalize hW3 : (w2.alloc (.cells #[.int .i64 m.st, .slice a1 m.next.length d1, .slice a2 m.ends.length d2] 26)) = W3 at *
      clear hW3
      generalize w2.heap.size = B3 at *
      have HIBW := Lib.hid (HIB.out _ (by rw [← hR]; exact O3.out.keep))
      go_wp2_with fail
      refine HIBW.out.mono ?_
      rintro e w4 ⟨k, a3, a4, d3, d4, hk, rfl, hA4, hb4⟩
      have O4 := Lib.hid (O3.out.join hA4 hb4)
      have O5 := Lib.hid (O4.out.box #[.int .i64 k.st, .slice a3 k.next.length d3, .slice a4 k.ends.length d4] 26)
      have HK := Lib.hid hk
      clear hA4 hb4 hk
      go_upto_region 13 with fail
      generalize hW5 : (w4.alloc (.cells #[.int .i64 k.st, .slice a3 k.next.length d3, .slice a4 k.ends.length d4] 26)) = W5 at *
      clear hW5
      generalize w4.heap.size = B5 at *
      have hcell := HCK.out _ (by rw [← hR]; exact O5.out.keep)
      have HR := Lib.hid hR
      clear hR
      have b0 := cellsT_cell (O5.out.cells 0 (by simp) rfl) 0
      have b1 := cellsT_cell (O5.out.cells 0 (by simp) rfl) 1
      have b2 := cellsT_cell (O5.out.cells 0 (by simp) rfl) 2
      have e0 := cellsT_cell (O5.out.cells 3 (by simp) rfl) 0
      have e1 := cellsT_cell (O5.out.cells 3 (by simp) rfl) 1
      have e2 := cellsT_cell (O5.out.cells 3 (by simp) rfl) 2
      have z0 := cellsT_cell (O5.out.cells 6 (by simp) rfl) 0
      have z1 := cellsT_cell (O5.out.cells 6 (by simp) rfl) 1
      have z2 := cellsT_cell (O5.out.cells 6 (by simp) rfl) 2
      have zf := cellsT_frozen (O5.out.cells 6 (by simp) rfl)
      simp only [List.getElem?_toArray, List.getElem?_cons_succ, List.getElem?_cons_zero] at z0 z1 z2 b0 b1 b2 e0 e1 e2
      cases hmk : (m.ok && k.ok) with
      | false =>
        have HZ := Lib.hid (HTT.out m k ⟨0, [], []⟩ false HM.out HK.out (by rw [hmk]; exact zero_join))
        obtain ⟨f1, f2, r0, r1, r2⟩ := O5.out.fin (us := []) 6 (by simp) rfl (List.nil_sublist _) (x := .int .i64 0) (y := .slice none 0 0) (z := .slice none 0 0) rfl
        have HF := Lib.hid (And.intro ((f1.idle (rowT 4 1 (.slice none 0 0) 0 []) (World.ownsRow_nil _ _ _ _) rfl).idle (rowT 3 1 (.slice none 0 0) 0 []) (World.ownsRow_nil _ _ _ _) rfl) f2)
        clear f1 f2
        cases hmo : m.ok with
        | false =>
          clear hmk
          rw [hmo] at *
          go_wp2_with fail
          generalize (((W5.setCell ⟨R, 0, none⟩ (.int .i64 0)).setCell ⟨R, 1, none⟩ (.slice none 0 0)).setCell ⟨R, 2, none⟩ (.slice none 0 0)) = WE at *
          refine bodyPost_ret (v := .tuple #[.agg #[.int .i64 0, .slice none 0 0, .slice none 0 0], .bool false]) ?_ rfl ⟨⟨0, [], []⟩, none, none, 0, 0, HZ.out.1, rfl, HF.out.1, HF.out.2⟩
          simp [results, Try.results111, go_sem, r0, r1, r2]
        | true =>
          have hko : k.ok = false := by rw [hmo, Bool.true_and] at hmk; exact hmk
          clear hmk
          rw [hmo, hko] at *
          go_wp2_with fail
          generalize (((W5.setCell ⟨R, 0, none⟩ (.int .i64 0)).setCell ⟨R, 1, none⟩ (.slice none 0 0)).setCell ⟨R, 2, none⟩ (.slice none 0 0)) = WE at *
          refine bodyPost_ret (v := .tuple #[.agg #[.int .i64 0, .slice none 0 0, .slice none 0 0], .bool false]) ?_ rfl ⟨⟨0, [], []⟩, none, none, 0, 0, HZ.out.1, rfl, HF.out.1, HF.out.2⟩
          simp [results, Try.results111, go_sem, r0, r1, r2]
      | true =>
        have hmko : m.ok = true ∧ k.ok = true := by simpa using hmk
        obtain ⟨hmo, hko⟩ := hmko
        have HMK := Lib.hid hmk
        have HJN := Lib.hid (specEither_any m k (.slice a1 m.next.length d1) (.slice a2 m.ends.length d2) (.slice a3 k.next.length d3) (.slice a4 k.ends.length d4) W5 (O5.out.ints 4 (by simp) rfl) (O5.out.bools 5 (by simp) rfl) (O5.out.ints 1 (by simp) rfl) (O5.out.bools 2 (by simp) rfl) (HWA.out m HM.out) (HWB.out k HK.out))
        have HTN := Lib.hid (fun x r h => HTT.out m k x r HM.out HK.out h)
        clear hmk
        rw [hmo, hko] at *
        go_wp2_with fail
        refine HJN.out.mono ?_
        rintro e w6 ⟨x, r, a5, a6, d5, d6, hj, rfl, hA6, hb6⟩
        have O6 := Lib.hid (O5.out.join hA6 hb6)
        have HX := Lib.hid (HTN.out x r hj)
        have HXO := Lib.hid HX.out.2
        clear z0 z1 z2 zf b0 b1 b2 e0 e1 e2 hcell hA6 hb6 hj
        have z0 := cellsT_cell (O6.out.cells 8 (by simp) rfl) 0
        have z1 := cellsT_cell (O6.out.cells 8 (by simp) rfl) 1
        have z2 := cellsT_cell (O6.out.cells 8 (by simp) rfl) 2
        have zf := cellsT_frozen (O6.out.cells 8 (by simp) rfl)
        simp only [List.getElem?_toArray, List.getElem?_cons_succ, List.getElem?_cons_zero] at z0 z1 z2
        obtain ⟨f1, f2, r0, r1, r2⟩ := O6.out.fin (us := rowsM x (.slice a5 x.next.length d5) (.slice a6 x.ends.length d6)) 8 (by simp) rfl (List.Sublist.cons_cons _ (List.Sublist.cons_cons _ (List.nil_sublist _))) (x := .int .i64 x.st) (y := .slice a5 x.next.length d5) (z := .slice a6 x.ends.length d6) rfl
        have HF := Lib.hid (And.intro f1 f2)
        clear f1 f2
        go_wp2_with fail
        generalize (((w6.setCell ⟨R, 0, none⟩ (.int .i64 x.st)).setCell ⟨R, 1, none⟩ (.slice a5 x.next.length d5)).setCell ⟨R, 2, none⟩ (.slice a6 x.ends.length d6)) = WE at *
        refine bodyPost_ret (v := .tuple #[.agg #[.int .i64 x.st, .slice a5 x.next.length d5, .slice a6 x.ends.length d6], .bool r]) ?_ rfl ⟨x, a5, a6, d5, d6, HX.out.1, by rw [HXO.out], HF.out.1, HF.out.2⟩
        simp [results, Try.results111, go_sem, r0, r1, r2]
    | false =>
      have HCK : Hid (∀ W, Below w.heap.size w W → W.cell? ⟨g, off + (la + lb) * 5, none⟩ = some (.int .i64 1)) := Lib.hid (fun W hb => HCE.out W hb)
      go_enter Try.func111, Try.ntmps111
      go_upto_region 1 with fail
      generalize hW0 : (w.alloc (.cells #[.int .i64 0, .slice none 0 0, .slice none 0 0] 26)) = W0 at *
      clear hW0
      have BW := Lib.hid O0.out.keep
      have hcell := HCK.out _ BW.out
      have HSTW := Lib.hid (HST.out _ BW.out)
      have HIAW := Lib.hid (HIA.out _ BW.out)
      generalize hR : w.heap.size = R at *
      go_wp2_with fail
      refine HSTW.out.mono ?_
      rintro e w1 ⟨rfl, rfl⟩
      go_wp2_with fail
      refine HIAW.out.mono ?_
      rintro e w2 ⟨m, a1, a2, d1, d2, hm, rfl, hA2, hb2⟩
      have O2 := Lib.hid (O0.out.join hA2 hb2)
      have O3 := Lib.hid (O2.out.box #[.int .i64 m.st, .slice a1 m.next.length d1, .slice a2 m.ends.length d2] 26)
      have HM := Lib.hid hm
      clear hA2 hb2 hcell hm
      go_upto_region 12 with fail
      generalize hW3 : (w2.alloc (.cells #[.int .i64 m.st, .slice a1 m.next.length d1, .slice a2 m.ends.length d2] 26)) = W3 at *
      clear hW3
      generalize w2.heap.size = B3 at *
      have HIBW := Lib.hid (HIB.out _ (by rw [← hR]; exact O3.out.keep))
      go_wp2_with fail
      refine HIBW.out.mono ?_
      rintro e w4 ⟨k, a3, a4, d3, d4, hk, rfl, hA4, hb4⟩
      have O4 := Lib.hid (O3.out.join hA4 hb4)
      have O5 := Lib.hid (O4.out.box #[.int .i64 k.st, .slice a3 k.next.length d3, .slice a4 k.ends.length d4] 26)
      have HK := Lib.hid hk
      clear hA4 hb4 hk
      go_upto_region 13 with fail
      generalize hW5 : (w4.alloc (.cells #[.int .i64 k.st, .slice a3 k.next.length d3, .slice a4 k.ends.length d4] 26)) = W5 at *
      clear hW5
      generalize w4.heap.size = B5 at *
      have hcell := HCK.out _ (by rw [← hR]; exact O5.out.keep)
      have HR := Lib.hid hR
      clear hR
      have b0 := cellsT_cell (O5.out.cells 0 (by simp) rfl) 0
      have b1 := cellsT_cell (O5.out.cells 0 (by simp) rfl) 1
      have b2 := cellsT_cell (O5.out.cells 0 (by simp) rfl) 2
      have e0 := cellsT_cell (O5.out.cells 3 (by simp) rfl) 0
      have e1 := cellsT_cell (O5.out.cells 3 (by simp) rfl) 1
      have e2 := cellsT_cell (O5.out.cells 3 (by simp) rfl) 2
      have z0 := cellsT_cell (O5.out.cells 6 (by simp) rfl) 0
      have z1 := cellsT_cell (O5.out.cells 6 (by simp) rfl) 1
      have z2 := cellsT_cell (O5.out.cells 6 (by simp) rfl) 2
      have zf := cellsT_frozen (O5.out.cells 6 (by simp) rfl)
      simp only [List.getElem?_toArray, List.getElem?_cons_succ, List.getElem?_cons_zero] at z0 z1 z2 b0 b1 b2 e0 e1 e2
      cases hmk : (m.ok && k.ok) with
      | false =>
        have HZ := Lib.hid (HTF.out m k ⟨0, [], []⟩ false HM.out HK.out (by rw [hmk]; exact zero_join))
        obtain ⟨f1, f2, r0, r1, r2⟩ := O5.out.fin (us := []) 6 (by simp) rfl (List.nil_sublist _) (x := .int .i64 0) (y := .slice none 0 0) (z := .slice none 0 0) rfl
        have HF := Lib.hid (And.intro ((f1.idle (rowT 4 1 (.slice none 0 0) 0 []) (World.ownsRow_nil _ _ _ _) rfl).idle (rowT 3 1 (.slice none 0 0) 0 []) (World.ownsRow_nil _ _ _ _) rfl) f2)
        clear f1 f2
        cases hmo : m.ok with
        | false =>
          clear hmk
          rw [hmo] at *
          go_wp2_with fail
          generalize (((W5.setCell ⟨R, 0, none⟩ (.int .i64 0)).setCell ⟨R, 1, none⟩ (.slice none 0 0)).setCell ⟨R, 2, none⟩ (.slice none 0 0)) = WE at *
          refine bodyPost_ret (v := .tuple #[.agg #[.int .i64 0, .slice none 0 0, .slice none 0 0], .bool false]) ?_ rfl ⟨⟨0, [], []⟩, none, none, 0, 0, HZ.out.1, rfl, HF.out.1, HF.out.2⟩
          simp [results, Try.results111, go_sem, r0, r1, r2]
        | true =>
          have hko : k.ok = false := by rw [hmo, Bool.true_and] at hmk; exact hmk
          clear hmk
          rw [hmo, hko] at *
          go_wp2_with fail
          generalize (((W5.setCell ⟨R, 0, none⟩ (.int .i64 0)).setCell ⟨R, 1, none⟩ (.slice none 0 0)).setCell ⟨R, 2, none⟩ (.slice none 0 0)) = WE at *
          refine bodyPost_ret (v := .tuple #[.agg #[.int .i64 0, .slice none 0 0, .slice none 0 0], .bool false]) ?_ rfl ⟨⟨0, [], []⟩, none, none, 0, 0, HZ.out.1, rfl, HF.out.1, HF.out.2⟩
          simp [results, Try.results111, go_sem, r0, r1, r2]
      | true =>
        have hmko : m.ok = true ∧ k.ok = true := by simpa using hmk
        obtain ⟨hmo, hko⟩ := hmko
        have HMK := Lib.hid hmk
        have HJN := Lib.hid (specBoth_any m k (.slice a1 m.next.length d1) (.slice a2 m.ends.length d2) (.slice a3 k.next.length d3) (.slice a4 k.ends.length d4) W5 (O5.out.ints 4 (by simp) rfl) (O5.out.bools 5 (by simp) rfl) (O5.out.ints 1 (by simp) rfl) (O5.out.bools 2 (by simp) rfl) (HWA.out m HM.out) (HWB.out k HK.out))
        have HTN := Lib.hid (fun x r h => HTF.out m k x r HM.out HK.out h)
        clear hmk
        rw [hmo, hko] at *
        go_wp2_with fail
        refine HJN.out.mono ?_
        rintro e w6 ⟨x, r, a5, a6, d5, d6, hj, rfl, hA6, hb6⟩
        have O6 := Lib.hid (O5.out.join hA6 hb6)
        have HX := Lib.hid (HTN.out x r hj)
        have HXO := Lib.hid HX.out.2
        clear z0 z1 z2 zf b0 b1 b2 e0 e1 e2 hcell hA6 hb6 hj
        have z0 := cellsT_cell (O6.out.cells 8 (by simp) rfl) 0
        have z1 := cellsT_cell (O6.out.cells 8 (by simp) rfl) 1
        have z2 := cellsT_cell (O6.out.cells 8 (by simp) rfl) 2
        have zf := cellsT_frozen (O6.out.cells 8 (by simp) rfl)
        simp only [List.getElem?_toArray, List.getElem?_cons_succ, List.getElem?_cons_zero] at z0 z1 z2
        obtain ⟨f1, f2, r0, r1, r2⟩ := O6.out.fin (us := rowsM x (.slice a5 x.next.length d5) (.slice a6 x.ends.length d6)) 8 (by simp) rfl (List.Sublist.cons_cons _ (List.Sublist.cons_cons _ (List.nil_sublist _))) (x := .int .i64 x.st) (y := .slice a5 x.next.length d5) (z := .slice a6 x.ends.length d6) rfl
        have HF := Lib.hid (And.intro f1 f2)
        clear f1 f2
        go_wp2_with fail
        generalize (((w6.setCell ⟨R, 0, none⟩ (.int .i64 x.st)).setCell ⟨R, 1, none⟩ (.slice a5 x.next.length d5)).setCell ⟨R, 2, none⟩ (.slice a6 x.ends.length d6)) = WE at *
        refine bodyPost_ret (v := .tuple #[.agg #[.int .i64 x.st, .slice a5 x.next.length d5, .slice a6 x.ends.length d6], .bool r]) ?_ rfl ⟨x, a5, a6, d5, d6, HX.out.1, by rw [HXO.out], HF.out.1, HF.out.2⟩
        simp [results, Try.results111, go_sem, r0, r1, r2]
end Go.Proofs.Ytaghjddndgpljaa

namespace Go.Proofs.Ytaghjddndgpljaa
open Go.RowKit

/-- MachineOf's answer -/
def OfNew (ms : List Mk) (w : World) (e : Ending) (w' : World) : Prop :=
  ∃ (m : M) (b : Bool) (a1 a2 : Option Addr) (c1 c2 : Nat), IsOf ms m b ∧ e = .returned (.tuple #[.agg #[.int .i64 m.st, .slice a1 m.next.length c1, .slice a2 m.ends.length c2], .bool b]) ∧
    Apart w.heap.size [rowT 3 1 (.slice a1 m.next.length c1) m.next.length (m.next.map (Value.int .i64)), rowT 4 1 (.slice a2 m.ends.length c2) m.ends.length (m.ends.map Value.bool)] w' ∧ Below w.heap.size w w'
theorem OfNew.reads {ms : List Mk} {w w' : World} {e : Ending} (h : OfNew ms w e w') : ∃ (m : M) (b : Bool) (a1 a2 : Option Addr) (c1 c2 : Nat), IsOf ms m b ∧ e = .returned (.tuple #[.agg #[.int .i64 m.st, .slice a1 m.next.length c1, .slice a2 m.ends.length c2], .bool b]) ∧
    IsInts w' (.slice a1 m.next.length c1) m.next ∧ IsBools w' (.slice a2 m.ends.length c2) m.ends ∧ Below w.heap.size w w' := by
  obtain ⟨m, b, a1, a2, c1, c2, h1, rfl, hA, hb⟩ := h
  exact ⟨m, b, a1, a2, c1, c2, h1, rfl, IsInts.of_owns hA.head, IsBools.of_owns hA.tail.head, hb⟩
theorem IsOf.no {ms : List Mk} (h : termOk ms = false) : IsOf ms ⟨0, [], []⟩ false := ⟨fun h' => (by rw [h] at h'; cases h'), fun _ => ⟨rfl, rfl⟩⟩
theorem IsOf.yes {ms : List Mk} {T : Tm} {m : M} (hg : T.good = true) (hp : T.post = ms) (h : TmM T m) (hok : termOk ms = true) : IsOf ms m m.ok := ⟨fun _ => ⟨T, hg, hp, h, rfl⟩, fun h' => (by rw [hok] at h'; cases h')⟩
theorem IsOf.len {ms : List Mk} {m : M} {b : Bool} (h : IsOf ms m b) : m.next.length ≤ 144 ∧ m.ends.length ≤ 48 ∧ (Lit.int .i64 m.st).wf = true ∧ (b = true → m.ok = true) ∧ (b = false → m = ⟨0, [], []⟩) := by
  cases ht : termOk ms with
  | true =>
    obtain ⟨T, h1, h2, h3, rfl⟩ := h.1 ht
    have := h3.len h1
    exact ⟨this.1, this.2, h3.wf h1, fun h => h, fun h => h3.zero h1 h⟩
  | false =>
    obtain ⟨rfl, rfl⟩ := h.2 ht
    exact ⟨Nat.zero_le _, Nat.zero_le _, rfl, fun h => by (cases h), fun _ => rfl⟩

set_option maxHeartbeats 3200000 in
theorem implMachineOf_any (ms : List Mk) (hwf : ∀ m ∈ ms, m.wf) (v : Value) (w : World) (h : IsMarks w v ms) :
    Calls Try.prog 51 #[v] w (OfNew ms w) := by
  have O0 := Lib.hid ((Own.nil w).box #[.int .i64 0, .slice none 0 0, .slice none 0 0] 26)
  have H1 := Lib.hid (fun W (hb : Below w.heap.size w W) => implTermOk_any ms hwf v W (h.below hb))
  have HFD := Lib.hid (fun W (hb : Below w.heap.size w W) (hok : termOk ms = true) => foldedM_any ms hwf hok v W (h.below hb))
  obtain ⟨a, n, c, rfl⟩ := h.slice
  clear h hwf
  go_enter Try.func51, Try.ntmps51
  go_upto_region 1 with fail
  generalize hW0 : (w.alloc (.cells #[.int .i64 0, .slice none 0 0, .slice none 0 0] 26)) = W0 at *
  clear hW0
  have H1W := Lib.hid (H1.out _ O0.out.keep)
  go_wp2_with fail
  refine H1W.out.mono ?_
  rintro e w1 ⟨rfl, hb1⟩
  have O1 := Lib.hid (O0.out.below hb1)
  have HFW := Lib.hid (HFD.out _ O1.out.keep)
  have z0 := cellsT_cell (O1.out.cells 0 (by simp) rfl) 0
  have z1 := cellsT_cell (O1.out.cells 0 (by simp) rfl) 1
  have z2 := cellsT_cell (O1.out.cells 0 (by simp) rfl) 2
  have zf := cellsT_frozen (O1.out.cells 0 (by simp) rfl)
  simp only [List.getElem?_toArray, List.getElem?_cons_succ, List.getElem?_cons_zero] at z0 z1 z2
  clear hb1
  cases hk : termOk ms with
  | false =>
    have HI := Lib.hid (IsOf.no hk)
    obtain ⟨f1, f2, r0, r1, r2⟩ := O1.out.fin (us := []) 0 (by simp) rfl (List.nil_sublist _) (x := .int .i64 0) (y := .slice none 0 0) (z := .slice none 0 0) rfl
    have HF := Lib.hid (And.intro ((f1.idle (rowT 4 1 (.slice none 0 0) 0 []) (World.ownsRow_nil _ _ _ _) rfl).idle (rowT 3 1 (.slice none 0 0) 0 []) (World.ownsRow_nil _ _ _ _) rfl) f2)
    clear f1 f2
    generalize hR : w.heap.size = R at *
    go_wp2_with fail
    generalize (((w1.setCell ⟨R, 0, none⟩ (.int .i64 0)).setCell ⟨R, 1, none⟩ (.slice none 0 0)).setCell ⟨R, 2, none⟩ (.slice none 0 0)) = WE at *
    refine bodyPost_ret (v := .tuple #[.agg #[.int .i64 0, .slice none 0 0, .slice none 0 0], .bool false]) ?_ rfl ⟨⟨0, [], []⟩, false, none, none, 0, 0, HI.out, rfl, by rw [hR]; exact HF.out.1, by rw [hR]; exact HF.out.2⟩
    simp [results, Try.results51, go_sem, r0, r1, r2]
  | true =>
    have HFX := Lib.hid (HFW.out hk)
    have HK := Lib.hid hk
    generalize hR : w.heap.size = R at *
    have HR := Lib.hid hR
    clear hR
    go_wp2_with fail
    refine HFX.out.mono ?_
    rintro e w2 ⟨T, hg, hp, m, a1, a2, d1, d2, hm, rfl, hA2, hb2⟩
    have HI := Lib.hid (IsOf.yes hg hp hm HK.out)
    have HWF := Lib.hid (hm.wf hg)
    have O2 := Lib.hid (O1.out.join hA2 hb2)
    have O3 := Lib.hid (O2.out.box #[.int .i64 m.st, .slice a1 m.next.length d1, .slice a2 m.ends.length d2] 26)
    clear hg hp hm hA2 hb2 z0 z1 z2 zf
    go_upto_region 4 with fail
    generalize hW3 : (w2.alloc (.cells #[.int .i64 m.st, .slice a1 m.next.length d1, .slice a2 m.ends.length d2] 26)) = W3 at *
    clear hW3
    generalize w2.heap.size = B3 at *
    have b0 := cellsT_cell (O3.out.cells 0 (by simp) rfl) 0
    have b1 := cellsT_cell (O3.out.cells 0 (by simp) rfl) 1
    have b2 := cellsT_cell (O3.out.cells 0 (by simp) rfl) 2
    simp only [List.getElem?_toArray, List.getElem?_cons_succ, List.getElem?_cons_zero] at b0 b1 b2
    have O3d := Lib.hid (O3.out.same (grown_drew W3 none))
    have HMO := Lib.hid (implMachineOk_any m _ _ W3.drew (O3d.out.ints 1 (by simp) rfl) (O3d.out.bools 2 (by simp) rfl) HWF.out)
    go_region_law (first | (go_simp; go_at_call 30; refine HMO.out.mono ?_; rintro e w4 ⟨rfl, hb4⟩; have O4 := Lib.hid (O3d.out.below hb4); have z0 := cellsT_cell (O4.out.cells 3 (by simp) rfl) 0; have z1 := cellsT_cell (O4.out.cells 3 (by simp) rfl) 1; have z2 := cellsT_cell (O4.out.cells 3 (by simp) rfl) 2; have zf := cellsT_frozen (O4.out.cells 3 (by simp) rfl); simp only [List.getElem?_toArray, List.getElem?_cons_succ, List.getElem?_cons_zero] at z0 z1 z2; have y0 := cellsT_cell (O4.out.cells 0 (by simp) rfl) 0; have y1 := cellsT_cell (O4.out.cells 0 (by simp) rfl) 1; have y2 := cellsT_cell (O4.out.cells 0 (by simp) rfl) 2; simp only [List.getElem?_toArray, List.getElem?_cons_succ, List.getElem?_cons_zero] at y0 y1 y2))
    all_goals
      obtain ⟨f1, f2, r0, r1, r2⟩ := O4.out.fin (us := [_, _]) 3 (by simp) rfl (List.Sublist.cons _ (List.Sublist.cons_cons _ (List.Sublist.cons_cons _ (List.nil_sublist _)))) (x := .int .i64 m.st) (y := .slice a1 m.next.length d1) (z := .slice a2 m.ends.length d2) rfl
      have HF := Lib.hid (And.intro f1 f2)
      clear f1 f2
      generalize hmo : m.ok = mo at *
      clear hmo
      go_wp2
      generalize (((w4.setCell ⟨R, 0, none⟩ (.int .i64 m.st)).setCell ⟨R, 1, none⟩ (.slice a1 m.next.length d1)).setCell ⟨R, 2, none⟩ (.slice a2 m.ends.length d2)) = WE at *
      refine bodyPost_ret (v := .tuple #[.agg #[.int .i64 m.st, .slice a1 m.next.length d1, .slice a2 m.ends.length d2], .bool mo]) ?_ rfl ⟨m, mo, a1, a2, d1, d2, HI.out, rfl, HF.out.1, HF.out.2⟩
      simp [results, Try.results51, go_sem, r0, r1, r2]

set_option maxHeartbeats 3200000 in
theorem specMachineOf_any (ms : List Mk) (v : Value) (w : World) (h : IsMarks w v ms) (hl : ms.length ≤ 1048576) :
    Calls Try.prog 50 #[v] w (OfNew ms w) := by
  have O0 := Lib.hid ((Own.nil w).box #[.int .i64 0, .slice none 0 0, .slice none 0 0] 26)
  have H1 := Lib.hid (fun W (hb : Below w.heap.size w W) => specTermOk_any ms v W (h.below hb) hl)
  have HLM := Lib.hid (fun W (hb : Below w.heap.size w W) (T : Tm) (hg : T.good = true) (hp : T.post = ms) (h9 : ms.length ≤ 9) => l5Machine_any T hg v W (by rw [hp]; exact h.below hb) (by rw [hp]; exact h9))
  obtain ⟨a, n, c, rfl⟩ := h.slice
  clear h hl
  go_enter Try.func50, Try.ntmps50
  go_upto_region 1 with fail
  generalize hW0 : (w.alloc (.cells #[.int .i64 0, .slice none 0 0, .slice none 0 0] 26)) = W0 at *
  clear hW0
  have H1W := Lib.hid (H1.out _ O0.out.keep)
  go_wp2_with fail
  refine H1W.out.mono ?_
  rintro e w1 ⟨rfl, hb1⟩
  have O1 := Lib.hid (O0.out.below hb1)
  have HLW := Lib.hid (HLM.out _ O1.out.keep)
  have z0 := cellsT_cell (O1.out.cells 0 (by simp) rfl) 0
  have z1 := cellsT_cell (O1.out.cells 0 (by simp) rfl) 1
  have z2 := cellsT_cell (O1.out.cells 0 (by simp) rfl) 2
  have zf := cellsT_frozen (O1.out.cells 0 (by simp) rfl)
  simp only [List.getElem?_toArray, List.getElem?_cons_succ, List.getElem?_cons_zero] at z0 z1 z2
  clear hb1
  cases hk : termOk ms with
  | false =>
    have HI := Lib.hid (IsOf.no hk)
    obtain ⟨f1, f2, r0, r1, r2⟩ := O1.out.fin (us := []) 0 (by simp) rfl (List.nil_sublist _) (x := .int .i64 0) (y := .slice none 0 0) (z := .slice none 0 0) rfl
    have HF := Lib.hid (And.intro ((f1.idle (rowT 4 1 (.slice none 0 0) 0 []) (World.ownsRow_nil _ _ _ _) rfl).idle (rowT 3 1 (.slice none 0 0) 0 []) (World.ownsRow_nil _ _ _ _) rfl) f2)
    clear f1 f2
    generalize hR : w.heap.size = R at *
    go_wp2_with fail
    generalize (((w1.setCell ⟨R, 0, none⟩ (.int .i64 0)).setCell ⟨R, 1, none⟩ (.slice none 0 0)).setCell ⟨R, 2, none⟩ (.slice none 0 0)) = WE at *
    refine bodyPost_ret (v := .tuple #[.agg #[.int .i64 0, .slice none 0 0, .slice none 0 0], .bool false]) ?_ rfl ⟨⟨0, [], []⟩, false, none, none, 0, 0, HI.out, rfl, by rw [hR]; exact HF.out.1, by rw [hR]; exact HF.out.2⟩
    simp [results, Try.results50, go_sem, r0, r1, r2]
  | true =>
    obtain ⟨T, hg, hp, h9⟩ := tree_of hk
    have HLX := Lib.hid (HLW.out T hg hp h9)
    have HIY : Hid (∀ m, TmM T m → IsOf ms m m.ok ∧ (m.ok = false → m = ⟨0, [], []⟩)) := Lib.hid (fun m h => ⟨IsOf.yes hg hp h hk, fun ho => h.zero hg ho⟩)
    clear hg hp h9
    generalize hR : w.heap.size = R at *
    have HR := Lib.hid hR
    clear hR
    go_wp2_with fail
    refine HLX.out.mono ?_
    rintro e w2 ⟨m, a1, a2, d1, d2, hm, rfl, hA2, hb2⟩
    have HI := Lib.hid (HIY.out m hm).1
    have HIZ := Lib.hid (HIY.out m hm).2
    have O2 := Lib.hid (O1.out.join hA2 hb2)
    have O3 := Lib.hid (O2.out.box #[.int .i64 m.st, .slice a1 m.next.length d1, .slice a2 m.ends.length d2] 26)
    clear hm hA2 hb2 z0 z1 z2 zf
    go_upto_region 4 with fail
    generalize hW3 : (w2.alloc (.cells #[.int .i64 m.st, .slice a1 m.next.length d1, .slice a2 m.ends.length d2] 26)) = W3 at *
    clear hW3
    generalize w2.heap.size = B3 at *
    have b0 := cellsT_cell (O3.out.cells 0 (by simp) rfl) 0
    have b1 := cellsT_cell (O3.out.cells 0 (by simp) rfl) 1
    have b2 := cellsT_cell (O3.out.cells 0 (by simp) rfl) 2
    have z0 := cellsT_cell (O3.out.cells 3 (by simp) rfl) 0
    have z1 := cellsT_cell (O3.out.cells 3 (by simp) rfl) 1
    have z2 := cellsT_cell (O3.out.cells 3 (by simp) rfl) 2
    have zf := cellsT_frozen (O3.out.cells 3 (by simp) rfl)
    simp only [List.getElem?_toArray, List.getElem?_cons_succ, List.getElem?_cons_zero] at b0 b1 b2 z0 z1 z2
    cases hmo : m.ok with
    | false =>
      have hmz := HIZ.out hmo
      have HI2 : Hid (IsOf ms ⟨0, [], []⟩ false) := Lib.hid (by have h := HI.out; rw [hmo, hmz] at h; exact h)
      obtain ⟨f1, f2, r0, r1, r2⟩ := O3.out.fin (us := []) 3 (by simp) rfl (List.nil_sublist _) (x := .int .i64 0) (y := .slice none 0 0) (z := .slice none 0 0) rfl
      have HF := Lib.hid (And.intro ((f1.idle (rowT 4 1 (.slice none 0 0) 0 []) (World.ownsRow_nil _ _ _ _) rfl).idle (rowT 3 1 (.slice none 0 0) 0 []) (World.ownsRow_nil _ _ _ _) rfl) f2)
      clear f1 f2 hmz HIZ HI
      rw [hmo] at *
      go_wp2_with fail
      generalize (((W3.setCell ⟨R, 0, none⟩ (.int .i64 0)).setCell ⟨R, 1, none⟩ (.slice none 0 0)).setCell ⟨R, 2, none⟩ (.slice none 0 0)) = WE at *
      refine bodyPost_ret (v := .tuple #[.agg #[.int .i64 0, .slice none 0 0, .slice none 0 0], .bool false]) ?_ rfl ⟨⟨0, [], []⟩, false, none, none, 0, 0, HI2.out, rfl, HF.out.1, HF.out.2⟩
      simp [results, Try.results50, go_sem, r0, r1, r2]
    | true =>
      have HI2 : Hid (IsOf ms m true) := Lib.hid (by have h := HI.out; rwa [hmo] at h)
      obtain ⟨f1, f2, r0, r1, r2⟩ := O3.out.fin (us := [_, _]) 3 (by simp) rfl (List.Sublist.cons _ (List.Sublist.cons_cons _ (List.Sublist.cons_cons _ (List.nil_sublist _)))) (x := .int .i64 m.st) (y := .slice a1 m.next.length d1) (z := .slice a2 m.ends.length d2) rfl
      have HF := Lib.hid (And.intro f1 f2)
      clear f1 f2
      rw [hmo] at *
      go_wp2_with fail
      generalize (((W3.setCell ⟨R, 0, none⟩ (.int .i64 m.st)).setCell ⟨R, 1, none⟩ (.slice a1 m.next.length d1)).setCell ⟨R, 2, none⟩ (.slice a2 m.ends.length d2)) = WE at *
      refine bodyPost_ret (v := .tuple #[.agg #[.int .i64 m.st, .slice a1 m.next.length d1, .slice a2 m.ends.length d2], .bool true]) ?_ rfl ⟨m, true, a1, a2, d1, d2, HI2.out, rfl, HF.out.1, HF.out.2⟩
      simp [results, Try.results50, go_sem, r0, r1, r2]
end Go.Proofs.Ytaghjddndgpljaa
