/- The machines of terms, by their trees; rows that calls make, joined. No program, no condition. spec.l4Starts tells where a part begins. No condition. spec.l5Machine. No condition. -/
import Derived.Test.YtjdeahdngpccpaaCkA
import Derived.Test.YtjdeahdngpccpaaPairBase
import Derived.Test.YtjdeahdngpccpaaLangWord
import Derived.Test.YtjdeahdngpccpaaCkB
import Derived.Deep.CutBlock
import Derived.Test.YtjdeahdngpccpaaCkC

namespace Go.Proofs.Ytjdeahdngpccpaa
open Go.RowKit

/-- the machine of a term, or the zero value if some part has none -/
def TmM : Tm → M → Prop
  | .rule r, m => IsLmZ (mf r) m
  | .not a, m => ∃ k b, TmM a k ∧ IsJoin k.ok (fun u => !k.lang 0 u) m b
  | .two true a b, m => ∃ k l c, TmM a k ∧ TmM b l ∧ IsJoin (k.ok && l.ok) (fun u => k.lang 0 u || l.lang 0 u) m c
  | .two false a b, m => ∃ k l c, TmM a k ∧ TmM b l ∧ IsJoin (k.ok && l.ok) (fun u => k.lang 0 u && l.lang 0 u) m c
theorem IsJoin.ok_eq {ok : Bool} {f : List (Fin 3) → Bool} {k : M} {r : Bool} (h : IsJoin ok f k r) : k.ok = r := by
  rcases h with ⟨rfl, h1, h2, h3⟩ | ⟨rfl, rfl, h1⟩
  · exact M.good_ok (h2.good (by omega)) h3
  · rfl
theorem IsJoin.no {ok : Bool} {f : List (Fin 3) → Bool} {k : M} {r : Bool} (h : IsJoin ok f k r) (ho : ok = false) : r = false ∧ k = ⟨0, [], []⟩ := by
  rcases h with ⟨rfl, h1, h2, h3⟩ | ⟨rfl, rfl, h1⟩
  · rw [ho] at h1; cases h1
  · exact ⟨rfl, rfl⟩
theorem zero_join {f : List (Fin 3) → Bool} : IsJoin false f ⟨0, [], []⟩ false := .inr ⟨rfl, rfl, fun h => by cases h⟩
theorem mf_ok {r : Ru} (h : r.ok = true) : (mf r).ok = true := by rw [mf_yes h]; exact mfT_ok h
theorem M.ok_wf {m : M} (h : m.ok = true) : (Lit.int .i64 m.st).wf = true := WalkArith.wf_i64 (by have := M.ok_shape h; show _ ∧ _; omega)
/-- it is a machine, or the zero value -/
theorem TmM.zero {T : Tm} (hg : T.good = true) {m : M} (h : TmM T m) (ho : m.ok = false) : m = ⟨0, [], []⟩ := by
  cases T with
  | rule r => rw [IsLmZ.ok (mf_ok hg) h] at ho; cases ho
  | not a =>
    obtain ⟨k, b, -, h2⟩ := h
    rw [h2.ok_eq] at ho
    subst ho
    rcases h2 with ⟨h, _⟩ | ⟨_, h, _⟩
    · cases h
    · exact h
  | two o a b =>
    cases o with
    | true =>
      obtain ⟨k, l, c, -, -, h2⟩ := h
      rw [h2.ok_eq] at ho
      subst ho
      rcases h2 with ⟨h, _⟩ | ⟨_, h, _⟩
      · cases h
      · exact h
    | false =>
      obtain ⟨k, l, c, -, -, h2⟩ := h
      rw [h2.ok_eq] at ho
      subst ho
      rcases h2 with ⟨h, _⟩ | ⟨_, h, _⟩
      · cases h
      · exact h
theorem TmM.wf {T : Tm} (hg : T.good = true) {m : M} (h : TmM T m) : (Lit.int .i64 m.st).wf = true := by
  cases ho : m.ok with
  | true => exact M.ok_wf ho
  | false => rw [h.zero hg ho]; rfl
theorem TmM.len {T : Tm} (hg : T.good = true) {m : M} (h : TmM T m) : m.next.length ≤ 144 ∧ m.ends.length ≤ 48 := by
  cases ho : m.ok with
  | true => have := M.ok_shape ho; omega
  | false => rw [h.zero hg ho]; exact ⟨Nat.zero_le _, Nat.zero_le _⟩
/-- MachineOf -/
def IsOf (ms : List Mk) (m : M) (b : Bool) : Prop := (termOk ms = true → ∃ T : Tm, T.good = true ∧ T.post = ms ∧ TmM T m ∧ b = m.ok) ∧ (termOk ms = false → m = ⟨0, [], []⟩ ∧ b = false)
/-- the rows of a machine -/
def rowsM (m : M) (nv ev : Value) : List Thing := [rowT 3 1 nv m.next.length (m.next.map (Value.int .i64)), rowT 4 1 ev m.ends.length (m.ends.map Value.bool)]
/-- what a call has made, beside what was owned before -/
theorem Own.join {wB w w' : World} {ts us : List Thing} (h : Own wB ts w) (hA : Apart w.heap.size us w') (hb : Below w.heap.size w w') : Own wB (us ++ ts) w' := by
  have h' := h.below hb
  refine ⟨h'.keep, ⟨fun t ht => ?_, List.pairwise_append.2 ⟨hA.two, h'.ap.two, fun a ha b hb' k e e' => ?_⟩⟩⟩
  · rcases List.mem_append.1 ht with ht | ht
    · exact ⟨(hA.all t ht).1, fun k e => ⟨Nat.le_trans h.size ((hA.all t ht).2 k e).1, ((hA.all t ht).2 k e).2⟩⟩
    · exact h'.ap.all t ht
  · have := ((hA.all a ha).2 k e).1
    have := ((h.ap.all b hb').2 k e').2
    omega
theorem Own.ints {wB w : World} {ts : List Thing} (h : Own wB ts w) (i : Nat) (hi : i < ts.length) {e : TypeId} {v : Value} {xs : List Int} (he : ts[i] = rowT e 1 v xs.length (xs.map (Value.int .i64))) : IsInts w v xs := IsInts.of_owns (h.row i hi he)
theorem Own.bools {wB w : World} {ts : List Thing} (h : Own wB ts w) (i : Nat) (hi : i < ts.length) {e : TypeId} {v : Value} {xs : List Bool} (he : ts[i] = rowT e 1 v xs.length (xs.map Value.bool)) : IsBools w v xs := IsBools.of_owns (h.row i hi he)
/-- a machine and whether it is one -/
def TmNew (T : Tm) (w : World) (e : Ending) (w' : World) : Prop :=
  ∃ (m : M) (a1 a2 : Option Addr) (c1 c2 : Nat), TmM T m ∧ e = .returned (.tuple #[.agg #[.int .i64 m.st, .slice a1 m.next.length c1, .slice a2 m.ends.length c2], .bool m.ok]) ∧
    Apart w.heap.size [rowT 3 1 (.slice a1 m.next.length c1) m.next.length (m.next.map (Value.int .i64)), rowT 4 1 (.slice a2 m.ends.length c2) m.ends.length (m.ends.map Value.bool)] w' ∧ Below w.heap.size w w'
/-- the result's block is written: rows and cells behind it -/
theorem Own.fin {wB w W : World} {ts us : List Thing} {R : Nat} {x y z x0 y0 z0 : Value} {t : TypeId} (h : Own wB ts w) (i : Nat) (hi : i < ts.length) (he : ts[i] = cellsT R #[x0, y0, z0] t) (hs : us.Sublist (ts.eraseIdx i))
    (hW : W = ((w.setCell ⟨R, 0, none⟩ x).setCell ⟨R, 1, none⟩ y).setCell ⟨R, 2, none⟩ z) :
    Apart wB.heap.size us W ∧ Below wB.heap.size wB W ∧ W.cell? ⟨R, 0, none⟩ = some x ∧ W.cell? ⟨R, 1, none⟩ = some y ∧ W.cell? ⟨R, 2, none⟩ = some z := by
  subst hW
  have p : ts.Perm (cellsT R #[x0, y0, z0] t :: ts.eraseIdx i) := by
    have := set_perm ts i hi ts[i]
    rw [List.set_getElem_self, he] at this; exact this
  have h1 := h.perm p
  have h2 := ((h1.put (i := 0) (by simp) rfl 0 x).put (i := 0) (by simp) rfl 1 y).put (i := 0) (by simp) rfl 2 z
  have c := h2.cells 0 (by simp) rfl
  exact ⟨(h2.sub (hs.cons _)).ap, h2.keep, cellsT_cell c 0, cellsT_cell c 1, cellsT_cell c 2⟩
end Go.Proofs.Ytjdeahdngpccpaa

namespace Go.Proofs.Ytjdeahdngpccpaa
open Go.RowKit

theorem IsMarks.take {w : World} {a : Option Addr} {n cap : Nat} {ms : List Mk} (h : IsMarks w (.slice a n cap) ms) (k : Nat) (hk : k ≤ n) : IsMarks w (.slice a k cap) (ms.take k) := by
  obtain ⟨a', cap', he, h1, h2, h3⟩ := h
  simp only [Value.slice.injEq] at he
  obtain ⟨rfl, rfl, rfl⟩ := he
  have hl : (ms.take k).length = k := by rw [List.length_take]; omega
  refine ⟨a, cap, by rw [hl], by omega, h2, ?_⟩
  rcases h3 with rfl | ⟨g, off, rfl, hg, hc⟩
  · exact .inl (by simp)
  · by_cases h0 : k = 0
    · exact .inl (by rw [h0]; rfl)
    · refine .inr ⟨g, off, rfl, hg, fun i hi => ?_⟩
      rw [List.getElem_take]
      exact hc i (by omega)
theorem IsMarks.cut {w : World} {g off n cap : Nat} {ms : List Mk} (h : IsMarks w (.slice (some ⟨g, off, none⟩) n cap) ms) (j k : Nat) (hj : j ≤ k) (hk : k ≤ n) : IsMarks w (.slice (some ⟨g, off + j * 5, none⟩) (k - j) (cap - j)) ((ms.take k).drop j) := by
  obtain ⟨a', cap', he, h1, h2, h3⟩ := h
  simp only [Value.slice.injEq] at he
  obtain ⟨rfl, rfl, rfl⟩ := he
  have hl : ((ms.take k).drop j).length = k - j := by rw [List.length_drop, List.length_take]; omega
  refine ⟨some ⟨g, off + j * 5, none⟩, cap - j, by rw [hl], by omega, by omega, ?_⟩
  rcases h3 with rfl | ⟨g', off', he, hg, hc⟩
  · exact .inl (by simp)
  · simp only [Option.some.injEq, Addr.mk.injEq, and_true] at he
    obtain ⟨rfl, rfl⟩ := he
    refine .inr ⟨g, off + j * 5, rfl, hg, fun i hi => ?_⟩
    have := hc (j + i) (by omega)
    rw [show off + j * 5 + i * 5 = off + (j + i) * 5 by omega]
    simp only [List.getElem_drop, List.getElem_take]
    exact this

theorem postL_len (ts : List Tm) : ts.length ≤ (postL ts).length := by
  induction ts with
  | nil => exact Nat.le_refl _
  | cons T ts ih =>
    have e : postL (T :: ts) = T.post ++ postL ts := by simp [postL]
    have := T.post_pos
    rw [e, List.length_append, List.length_cons]; omega

set_option maxHeartbeats 1600000 in
theorem l4Starts_any (pre rest : List Mk) (T : Tm) (v : Value) (en : Int) (w : World) (h : IsMarks w v (pre ++ T.post ++ rest)) (hl : (pre ++ T.post ++ rest).length ≤ 9) (he : en = ((pre.length + T.post.length : Nat) : Int) - 1) :
    Calls Try.prog 149 #[v, .int .i64 en] w fun e w' => e = .returned (.int .i64 (pre.length : Int)) ∧ w = w' := by
  have hpos := T.post_pos
  obtain ⟨a, cap, rfl, ha1, ha2, ha⟩ := h
  have hne : pre ++ T.post ++ rest ≠ [] := fun e => by
    have := congrArg List.length e
    simp only [List.length_append, List.length_nil] at this
    omega
  obtain ⟨g, off, rfl, hg, hc⟩ := ha.resolve_left hne
  unfold maxLen at ha2
  have HC := Lib.hid hc
  have HL := Lib.hid hl
  have hl9 : (pre ++ T.post ++ rest).length ≤ 9 := hl
  have HE : Hid (en = ((pre.length : Int) + (postL [T]).length) - 1) := Lib.hid (by rw [he, postL_one]; omega)
  have HST : Hid (pre ++ T.post ++ rest = pre ++ postL [T] ++ rest) := Lib.hid (by rw [postL_one])
  have hen : 0 ≤ en ∧ en ≤ 8 := by
    simp only [List.length_append] at hl
    omega
  clear hc hl he hne hpos
  generalize pre ++ T.post ++ rest = ms at *
  go_enter Try.func149, Try.ntmps149
  go_wp2_with fail
  go_loopw [5, 6] (fun nv av wr => ∃ (ts : List Tm) (rest' : List Mk) (need a1 : Int), nv = .int .i64 need ∧ av = .int .i64 a1 ∧ need = (ts.length : Int) ∧ a1 = (pre.length : Int) + (postL ts).length - 1 ∧ ms = pre ++ postL ts ++ rest' ∧ wr = w) (fun _ av _ => (intOf av + 1 - (pre.length : Int)).toNat)
  case atStart => exact ⟨[T], rest, 1, en, rfl, rfl, rfl, HE.out, HST.out, rfl⟩
  case round =>
    obtain ⟨ts, rest', need, a1, rfl, rfl, hnd, hat, hms, rfl⟩ := hrel
    have hplen := postL_len ts
    have HND := Lib.hid hnd
    have HAT := Lib.hid hat
    have HMS := Lib.hid hms
    have hmsl : pre.length + (postL ts).length + rest'.length = ms.length := by rw [hms, List.length_append, List.length_append]
    clear HST HE
    by_cases hpos : 0 < need
    · rcases List.eq_nil_or_concat ts with rfl | ⟨ts', T', rfl⟩
      · simp at hnd; omega
      · rw [List.concat_eq_append] at *
        obtain ⟨m, hpe, hcase⟩ := back_one ts' T'
        have HPE := Lib.hid hpe
        have hpl : (postL (ts' ++ [T'])).length = (postL (ts' ++ [T'])).dropLast.length + 1 := by rw [List.length_dropLast]; have := postL_len (ts' ++ [T']); simp at this; omega
        have HPL := Lib.hid hpl
        have hnl : need = (ts'.length : Int) + 1 := by rw [hnd, List.length_append]; simp
        generalize (postL (ts' ++ [T'])).dropLast = q at *
        have hix : pre.length + q.length < ms.length := by omega
        have hgm : ms[pre.length + q.length]? = some m := by
          rw [hms, hpe, List.append_assoc, List.getElem?_append_right (by omega), Nat.add_sub_cancel_left, List.append_assoc, List.getElem?_append_right (by omega), Nat.sub_self]; rfl
        have hgm2 : ms[pre.length + q.length] = m := by rw [List.getElem?_eq_getElem hix] at hgm; exact Option.some.inj hgm
        have hcell := (HC.out (pre.length + q.length) hix).1
        rw [hgm2] at hcell
        have hai : a1 = ((pre.length + q.length : Nat) : Int) := by omega
        have ha0 : 0 ≤ a1 := by omega
        have ham : a1 < (ms.length : Int) := by omega
        have hat2 : a1.toNat = pre.length + q.length := by omega
        have hq1 : IntKind.i64.wrap (a1 - 1) = a1 - 1 := IntWalk.i64_in _ (by omega)
        have hq2 : IntKind.i64.wrap (need - 1) = need - 1 := IntWalk.i64_in _ (by omega)
        have hq3 : IntKind.i64.wrap (need + 1) = need + 1 := IntWalk.i64_in _ (by omega)
        have hMM : ∀ t2 : List Tm, q = postL t2 → (pre.length : Int) + (postL t2).length - 1 = a1 - 1 ∧ ms = pre ++ postL t2 ++ (m :: rest') := fun t2 h => ⟨by rw [← h]; omega, by rw [← h, hms, hpe]; simp⟩
        have HMM := Lib.hid hMM
        have HNL := Lib.hid hnl
        clear hpe hpl hnl hgm hgm2 hMM hnd hat hms hmsl hplen ha0 ham hat2 HPL HPE HAT HMS HND
        have hpx : pre.length ≤ pre.length + q.length := Nat.le_add_right _ _
        generalize hix2 : pre.length + q.length = ix at *
        clear hix2
        subst hai
        rcases hcase with ⟨hk, hq⟩ | ⟨hk, x, hq⟩ | ⟨hk, x, y, hq⟩
        · rw [hk] at hcell
          go_wp2_with fail
          go_roundw
          case rel => exact ⟨ts', m :: rest', need - 1, (ix : Int) - 1, by first | rfl | rw [hq2], by first | rfl | rw [hq1], by have := HNL.out; omega, (HMM.out ts' hq).1.symm, (HMM.out ts' hq).2, by trivial⟩
          case measure => simp [intOf]; omega
        · rw [hk] at hcell
          go_wp2_with fail
          go_roundw
          case rel => exact ⟨ts' ++ [x], m :: rest', need, (ix : Int) - 1, by first | rfl | rw [hq2], by first | rfl | rw [hq1], by have := HNL.out; simp; omega, (HMM.out _ hq).1.symm, (HMM.out _ hq).2, by trivial⟩
          case measure => simp [intOf]; omega
        · have e0 : (m.kind == 0) = false := by rcases hk with h | h <;> rw [h] <;> rfl
          have e3 : (m.kind == 3) = false := by rcases hk with h | h <;> rw [h] <;> rfl
          clear hk
          generalize m.kind = mk at *
          go_wp2_with fail
          go_roundw
          case rel => exact ⟨ts' ++ [x, y], m :: rest', need + 1, (ix : Int) - 1, by first | rfl | rw [hq3], by first | rfl | rw [hq1], by have := HNL.out; simp; omega, (HMM.out _ hq).1.symm, (HMM.out _ hq).2, by trivial⟩
          case measure => simp [intOf]; omega
    · obtain rfl : ts = [] := List.eq_nil_of_length_eq_zero (by omega)
      have ha1 : a1 = (pre.length : Int) - 1 := by rw [hat, postL_nil]; simp
      have hp9 : pre.length ≤ 9 := by omega
      have hq1 : IntKind.i64.wrap (a1 + 1) = (pre.length : Int) := by rw [IntWalk.i64_in _ (by omega)]; omega
      clear hat hms hnd hmsl hplen ha1
      go_wp2_with fail
      go_ret
      exact ⟨rfl, rfl⟩

theorem IsMarks.cells {w : World} {a : Option Addr} {n cap : Nat} {ms : List Mk} (h : IsMarks w (.slice a n cap) ms) (h0 : 0 < ms.length) : ∃ g off : Nat, a = some ⟨g, off, none⟩ ∧ n = ms.length ∧ n ≤ cap ∧ cap ≤ maxLen ∧ g < w.heap.size ∧ ∀ k (h : k < ms.length), markAt w g (off + k * 5) ms[k] := by
  obtain ⟨a', cap', he, h1, h2, h3⟩ := h
  simp only [Value.slice.injEq] at he
  obtain ⟨rfl, rfl, rfl⟩ := he
  obtain ⟨g, off, rfl, hg, hc⟩ := h3.resolve_left (fun e => by rw [e] at h0; exact absurd h0 (Nat.lt_irrefl 0))
  exact ⟨g, off, rfl, rfl, h1, h2, hg, hc⟩
theorem IsMarks.slice {w : World} {v : Value} {ms : List Mk} (h : IsMarks w v ms) : ∃ a n c, v = .slice a n c := by
  obtain ⟨a, cap, rfl, _⟩ := h
  exact ⟨_, _, _, rfl⟩
end Go.Proofs.Ytjdeahdngpccpaa

namespace Go.Proofs.Ytjdeahdngpccpaa
open Go.RowKit

set_option maxHeartbeats 3200000 in
theorem l5Machine_any (T : Tm) (hg : T.good = true) : ∀ (v : Value) (w : World), IsMarks w v T.post → T.post.length ≤ 9 → Calls Try.prog 137 #[v] w (TmNew T w) := by
  induction T with
  | rule r =>
    intro v w h hl
    obtain ⟨a, n, c, rfl⟩ := h.slice
    obtain ⟨g, off, rfl, rfl, h1, h2, hgl, hc⟩ := h.cells (by simp [Tm.post])
    obtain ⟨c0, c1, c2, c3, c4⟩ := hc 0 (by simp [Tm.post])
    obtain ⟨kd, lt, th, mn⟩ := r
    have hrok : (Ru.mk kd lt th mn).ok = true := hg
    have HC := Lib.hid (fun W => specMachineFor_any kd lt th mn W)
    have HMF := Lib.hid (mf_ok hrok)
    rw [hrok] at HC
    have HTM : Hid (∀ k, IsLmZ (mf ⟨kd, lt, th, mn⟩) k → TmM (.rule ⟨kd, lt, th, mn⟩) k ∧ k.ok = true) := Lib.hid (fun k h => ⟨h, IsLmZ.ok (mf_ok hrok) h⟩)
    generalize mf ⟨kd, lt, th, mn⟩ = mm at *
    simp only [Tm.post, List.length_singleton, List.getElem_cons_zero, Nat.zero_mul, Nat.add_zero] at c0 c1 c2 c3 c4 h1 h2
    unfold maxLen at h2
    have O0 := Lib.hid ((Own.nil w).box #[.int .i64 0, .slice none 0 0, .slice none 0 0] 26)
    have hal : ∀ i, (w.alloc (.cells #[.int .i64 0, .slice none 0 0, .slice none 0 0] 26)).cell? ⟨g, i, none⟩ = w.cell? ⟨g, i, none⟩ := fun i => ((Below.refl w.heap.size w).alloc (Nat.le_refl _) _).cell (p := ⟨g, i, none⟩) hgl
    rw [← hal] at c0 c1 c2 c3 c4
    clear h hc hl hrok hg hal
    show Calls Try.prog _ #[.slice (some ⟨g, off, none⟩) 1 c] w _
    go_enter Try.func137, Try.ntmps137
    go_upto_region 1 with fail
    generalize hW0 : (w.alloc (.cells #[.int .i64 0, .slice none 0 0, .slice none 0 0] 26)) = W0 at *
    clear hW0
    generalize hR : w.heap.size = R at *
    have HR := Lib.hid hR
    clear hR
    go_wp2_with fail
    refine (HC.out _).mono ?_
    rintro e w2 ⟨a1, a2, d1, d2, rfl, hA2, hb2⟩
    have O2 := Lib.hid (O0.out.join hA2 hb2)
    have O3 := Lib.hid (O2.out.box #[.int .i64 mm.st, .slice a1 mm.next.length d1, .slice a2 mm.ends.length d2] 26)
    clear hA2 hb2 c0 c1 c2 c3 c4
    go_upto_region 5 with fail
    generalize hW3 : (w2.alloc (.cells #[.int .i64 mm.st, .slice a1 mm.next.length d1, .slice a2 mm.ends.length d2] 26)) = W3 at *
    clear hW3
    generalize w2.heap.size = B3 at *
    have b0 := cellsT_cell (O3.out.cells 0 (by simp) rfl) 0
    have b1 := cellsT_cell (O3.out.cells 0 (by simp) rfl) 1
    have b2 := cellsT_cell (O3.out.cells 0 (by simp) rfl) 2
    simp only [List.getElem?_toArray, List.getElem?_cons_succ, List.getElem?_cons_zero] at b0 b1 b2
    go_wp2_with fail
    refine (specLeastZ mm _ _ _ (O3.out.ints 1 (by simp) rfl) (O3.out.bools 2 (by simp) rfl) (M.ok_wf HMF.out)).mono ?_
    rintro e w4 ⟨k, hk, a3, a4, d3, d4, rfl, hA4, hb4⟩
    have O4 := Lib.hid (O3.out.join hA4 hb4)
    have HK := Lib.hid (HTM.out k hk)
    have z0 := cellsT_cell (O4.out.cells 5 (by simp) rfl) 0
    have z1 := cellsT_cell (O4.out.cells 5 (by simp) rfl) 1
    have z2 := cellsT_cell (O4.out.cells 5 (by simp) rfl) 2
    have zf := cellsT_frozen (O4.out.cells 5 (by simp) rfl)
    simp only [List.getElem?_toArray, List.getElem?_cons_succ, List.getElem?_cons_zero] at z0 z1 z2
    clear hA4 hb4 b0 b1 b2 hk
    go_wp2_with fail
    obtain ⟨f1, f2, r0, r1, r2⟩ := O4.out.fin (us := rowsM k (.slice a3 k.next.length d3) (.slice a4 k.ends.length d4)) 5 (by simp) rfl (List.Sublist.cons_cons _ (List.Sublist.cons_cons _ (List.nil_sublist _))) (x := .int .i64 k.st) (y := .slice a3 k.next.length d3) (z := .slice a4 k.ends.length d4) rfl
    have HF := Lib.hid (And.intro f1 f2)
    clear f1 f2 z0 z1 z2 zf
    generalize (((w4.setCell ⟨R, 0, none⟩ (.int .i64 k.st)).setCell ⟨R, 1, none⟩ (.slice a3 k.next.length d3)).setCell ⟨R, 2, none⟩ (.slice a4 k.ends.length d4)) = WE at *
    refine bodyPost_ret (v := .tuple #[.agg #[.int .i64 k.st, .slice a3 k.next.length d3, .slice a4 k.ends.length d4], .bool true]) ?_ rfl ⟨k, a3, a4, d3, d4, HK.out.1, by rw [HK.out.2], HF.out.1, HF.out.2⟩
    simp [results, Try.results137, go_sem, r0, r1, r2]
  | not a ih =>
    intro v w h hl
    have hga : a.good = true := hg
    have hpos := a.post_pos
    have hlen : (Tm.not a).post.length = a.post.length + 1 := by simp [Tm.post]
    obtain ⟨va, n, c, rfl⟩ := h.slice
    have HTK := Lib.hid (fun (k : Nat) (hk : k ≤ n) => h.take k hk)
    obtain ⟨g, off, rfl, rfl, h1, h2, hgl, hc⟩ := h.cells (by omega)
    have hcell := (hc a.post.length (by omega)).1
    have hm : (Tm.not a).post[a.post.length]'(by omega) = markOf 3 := by simp [Tm.post]
    rw [hm] at hcell
    have htk : (Tm.not a).post.take a.post.length = a.post := by simp [Tm.post]
    have HI := Lib.hid (fun W (hb : Below w.heap.size w W) => ih hga (.slice (some ⟨g, off, none⟩) a.post.length c) W (by have := (HTK.out a.post.length (by omega)).below hb; rwa [htk] at this) (by omega))
    have HTM : Hid (∀ m k b, TmM a m → IsJoin m.ok (fun u => !m.lang 0 u) k b → TmM (.not a) k ∧ k.ok = b ∧ (m.ok = false → b = false)) := Lib.hid (fun m k b h1 h2 => ⟨⟨m, b, h1, h2⟩, h2.ok_eq, fun ho => (h2.no ho).1⟩)
    have HWF := Lib.hid (fun m (h : TmM a m) => h.wf hga)
    unfold maxLen at h2
    rw [hlen] at *
    have hl8 : a.post.length ≤ 8 := by omega
    have O0 := Lib.hid ((Own.nil w).box #[.int .i64 0, .slice none 0 0, .slice none 0 0] 26)
    have hal : (w.alloc (.cells #[.int .i64 0, .slice none 0 0, .slice none 0 0] 26)).cell? ⟨g, off + a.post.length * 5, none⟩ = w.cell? ⟨g, off + a.post.length * 5, none⟩ := ((Below.refl w.heap.size w).alloc (Nat.le_refl _) _).cell (p := ⟨g, off + a.post.length * 5, none⟩) hgl
    simp only [markOf] at hcell
    rw [← hal] at hcell
    clear h hc hm htk HTK ih hlen hl hal hg hga
    generalize a.post.length = la at *
    have hq : IntKind.i64.wrap (((la + 1 : Nat) : Int) - 1) = (la : Int) := by rw [IntWalk.i64_in _ (by omega)]; omega
    have hq2 : IntKind.i64.wrap ((la : Int) + 1 - 1) = (la : Int) := by rw [IntWalk.i64_in _ (by omega)]; omega
    go_enter Try.func137, Try.ntmps137
    go_upto_region 1 with fail
    generalize hW0 : (w.alloc (.cells #[.int .i64 0, .slice none 0 0, .slice none 0 0] 26)) = W0 at *
    clear hW0
    generalize hR : w.heap.size = R at *
    have HR := Lib.hid hR
    go_wp2_with fail
    refine (HI.out _ (by rw [← hR]; exact O0.out.keep)).mono ?_
    rintro e w2 ⟨m, a1, a2, d1, d2, hm, rfl, hA2, hb2⟩
    have O2 := Lib.hid (O0.out.join hA2 hb2)
    have O3 := Lib.hid (O2.out.box #[.int .i64 m.st, .slice a1 m.next.length d1, .slice a2 m.ends.length d2] 26)
    have HM := Lib.hid hm
    clear hA2 hb2 hcell hR hm
    go_upto_region 8 with fail
    generalize hW3 : (w2.alloc (.cells #[.int .i64 m.st, .slice a1 m.next.length d1, .slice a2 m.ends.length d2] 26)) = W3 at *
    clear hW3
    generalize w2.heap.size = B3 at *
    have b0 := cellsT_cell (O3.out.cells 0 (by simp) rfl) 0
    have b1 := cellsT_cell (O3.out.cells 0 (by simp) rfl) 1
    have b2 := cellsT_cell (O3.out.cells 0 (by simp) rfl) 2
    simp only [List.getElem?_toArray, List.getElem?_cons_succ, List.getElem?_cons_zero] at b0 b1 b2
    go_wp2_with fail
    refine (specNot_any m _ _ _ (O3.out.ints 1 (by simp) rfl) (O3.out.bools 2 (by simp) rfl) (HWF.out m HM.out)).mono ?_
    rintro e w4 ⟨k, r, a3, a4, d3, d4, hj, rfl, hA4, hb4⟩
    have O4 := Lib.hid (O3.out.join hA4 hb4)
    have HK := Lib.hid (HTM.out m k r HM.out hj)
    have O5 := Lib.hid (O4.out.box #[.int .i64 k.st, .slice a3 k.next.length d3, .slice a4 k.ends.length d4] 26)
    clear hA4 hb4 b0 b1 b2 hj
    go_upto_region 9 with fail
    generalize hW5 : (w4.alloc (.cells #[.int .i64 k.st, .slice a3 k.next.length d3, .slice a4 k.ends.length d4] 26)) = W5 at *
    clear hW5
    generalize w4.heap.size = B5 at *
    have b0 := cellsT_cell (O5.out.cells 0 (by simp) rfl) 0
    have b1 := cellsT_cell (O5.out.cells 0 (by simp) rfl) 1
    have b2 := cellsT_cell (O5.out.cells 0 (by simp) rfl) 2
    have z0 := cellsT_cell (O5.out.cells 6 (by simp) rfl) 0
    have z1 := cellsT_cell (O5.out.cells 6 (by simp) rfl) 1
    have z2 := cellsT_cell (O5.out.cells 6 (by simp) rfl) 2
    have zf := cellsT_frozen (O5.out.cells 6 (by simp) rfl)
    simp only [List.getElem?_toArray, List.getElem?_cons_succ, List.getElem?_cons_zero] at z0 z1 z2 b0 b1 b2
    obtain ⟨f1, f2, r0, r1, r2⟩ := O5.out.fin (us := rowsM k (.slice a3 k.next.length d3) (.slice a4 k.ends.length d4)) 6 (by simp) rfl (List.Sublist.cons _ (List.Sublist.cons_cons _ (List.Sublist.cons_cons _ (List.nil_sublist _)))) (x := .int .i64 k.st) (y := .slice a3 k.next.length d3) (z := .slice a4 k.ends.length d4) rfl
    have HF := Lib.hid (And.intro f1 f2)
    clear f1 f2
    have HKO := Lib.hid HK.out.2.1
    cases hmo : m.ok with
    | true =>
      rw [hmo] at *
      go_wp2_with fail
      generalize (((W5.setCell ⟨R, 0, none⟩ (.int .i64 k.st)).setCell ⟨R, 1, none⟩ (.slice a3 k.next.length d3)).setCell ⟨R, 2, none⟩ (.slice a4 k.ends.length d4)) = WE at *
      refine bodyPost_ret (v := .tuple #[.agg #[.int .i64 k.st, .slice a3 k.next.length d3, .slice a4 k.ends.length d4], .bool r]) ?_ rfl ⟨k, a3, a4, d3, d4, HK.out.1, by rw [HKO.out], HF.out.1, HF.out.2⟩
      simp [results, Try.results137, go_sem, r0, r1, r2]
    | false =>
      have hrf := HK.out.2.2 hmo
      subst hrf
      rw [hmo] at *
      go_wp2_with fail
      generalize (((W5.setCell ⟨R, 0, none⟩ (.int .i64 k.st)).setCell ⟨R, 1, none⟩ (.slice a3 k.next.length d3)).setCell ⟨R, 2, none⟩ (.slice a4 k.ends.length d4)) = WE at *
      refine bodyPost_ret (v := .tuple #[.agg #[.int .i64 k.st, .slice a3 k.next.length d3, .slice a4 k.ends.length d4], .bool false]) ?_ rfl ⟨k, a3, a4, d3, d4, HK.out.1, by rw [HKO.out], HF.out.1, HF.out.2⟩
      simp [results, Try.results137, go_sem, r0, r1, r2]
  | two o a b iha ihb =>
    intro v w h hl
    have hgab : a.good = true ∧ b.good = true := by simpa [Tm.good] using hg
    have hposa := a.post_pos
    have hposb := b.post_pos
    have hlen : (Tm.two o a b).post.length = a.post.length + b.post.length + 1 := by simp [Tm.post]; omega
    obtain ⟨va, n, c, rfl⟩ := h.slice
    have HTK := Lib.hid (fun (k : Nat) (hk : k ≤ n) => h.take k hk)
    have HH := Lib.hid h
    obtain ⟨g, off, rfl, rfl, h1, h2, hgl, hc⟩ := h.cells (by omega)
    have hcell := (hc (a.post.length + b.post.length) (by omega)).1
    have hm : (Tm.two o a b).post[a.post.length + b.post.length]'(by omega) = markOf (if o = true then 2 else 1) := by
      have : (Tm.two o a b).post[a.post.length + b.post.length]? = some (markOf (if o = true then 2 else 1)) := by
        rw [Tm.post, List.getElem?_append_right (by simp)]; simp
      rw [List.getElem?_eq_getElem (by omega)] at this
      exact Option.some.inj this
    rw [hm] at hcell
    have hta : (Tm.two o a b).post.take a.post.length = a.post := by rw [Tm.post, List.append_assoc, List.take_left]
    have htb : ((Tm.two o a b).post.take (a.post.length + b.post.length)).drop a.post.length = b.post := by
      rw [Tm.post, List.take_left' (by simp), List.drop_left]
    have HST := Lib.hid (fun W (hb : Below w.heap.size w W) => l4Starts_any a.post [markOf (if o = true then 2 else 1)] b (.slice (some ⟨g, off, none⟩) (Tm.two o a b).post.length c) ((a.post.length : Int) + b.post.length - 1) W (HH.out.below hb) hl (by omega))
    have HIA := Lib.hid (fun W (hb : Below w.heap.size w W) => iha hgab.1 (.slice (some ⟨g, off, none⟩) a.post.length c) W (by have := (HTK.out a.post.length (by omega)).below hb; rwa [hta] at this) (by omega))
    have HIB := Lib.hid (fun W (hb : Below w.heap.size w W) => ihb hgab.2 (.slice (some ⟨g, off + a.post.length * 5, none⟩) b.post.length (c - a.post.length)) W (by
      have := (HH.out.cut a.post.length (a.post.length + b.post.length) (by omega) (by omega)).below hb
      rw [htb, Nat.add_sub_cancel_left] at this; exact this) (by omega))
    have HCE := Lib.hid (fun W (hb : Below w.heap.size w W) => (hb.cell (p := ⟨g, off + (a.post.length + b.post.length) * 5, none⟩) hgl).trans hcell)
    have HTT : Hid (∀ k l m r, TmM a k → TmM b l → IsJoin (k.ok && l.ok) (fun u => k.lang 0 u || l.lang 0 u) m r → TmM (.two true a b) m ∧ m.ok = r) := Lib.hid (fun k l m r h1 h2 h3 => ⟨⟨k, l, r, h1, h2, h3⟩, h3.ok_eq⟩)
    have HTF : Hid (∀ k l m r, TmM a k → TmM b l → IsJoin (k.ok && l.ok) (fun u => k.lang 0 u && l.lang 0 u) m r → TmM (.two false a b) m ∧ m.ok = r) := Lib.hid (fun k l m r h1 h2 h3 => ⟨⟨k, l, r, h1, h2, h3⟩, h3.ok_eq⟩)
    have HWA := Lib.hid (fun m (h : TmM a m) => h.wf hgab.1)
    have HWB := Lib.hid (fun m (h : TmM b m) => h.wf hgab.2)
    unfold maxLen at h2
    rw [hlen] at *
    have O0 := Lib.hid ((Own.nil w).box #[.int .i64 0, .slice none 0 0, .slice none 0 0] 26)
    clear HH h hc hm hta htb HTK iha ihb hlen hcell hg hgab
    generalize a.post.length = la at *
    generalize b.post.length = lb at *
    have hq2 : IntKind.i64.wrap ((la : Int) + lb + 1 - 1) = ((la + lb : Nat) : Int) := by rw [IntWalk.i64_in _ (by omega)]; omega
    have hq3 : IntKind.i64.wrap (((la + lb : Nat) : Int) - 1) = (la : Int) + lb - 1 := by rw [IntWalk.i64_in _ (by omega)]; omega
    have hcla : ¬ c = la := by omega
    have hsub : la + lb - la = lb := by omega
    cases o with
    | true =>
      have HCK : Hid (∀ W, Below w.heap.size w W → W.cell? ⟨g, off + (la + lb) * 5, none⟩ = some (.int .i64 2)) := Lib.hid (fun W hb => HCE.out W hb)
      go_enter Try.func137, Try.ntmps137
      go_upto_region 1 with fail
      generalize hW0 : (w.alloc (.cells #[.int .i64 0, .slice none 0 0, .slice none 0 0] 26)) = W0 at *
      clear hW0
      have BW := Lib.hid O0.out.keep
      have hcell := HCK.out _ BW.out
      have HSTW := Lib.hid (HST.out _ BW.out)
      have HIAW := Lib.hid (HIA.out _ BW.out)
      generalize hR : w.heap.size = R at *
      go_wp2_with fail
      refine HSTW.out.mono ?_
      rintro e w1 ⟨rfl, rfl⟩
      go_wp2_with fail
      refine HIAW.out.mono ?_
      rintro e w2 ⟨m, a1, a2, d1, d2, hm, rfl, hA2, hb2⟩
      have O2 := Lib.hid (O0.out.join hA2 hb2)
      have O3 := Lib.hid (O2.out.box #[.int .i64 m.st, .slice a1 m.next.length d1, .slice a2 m.ends.length d2] 26)
      have HM := Lib.hid hm
      clear hA2 hb2 hcell hm
      go_upto_region 12 with fail
      generalize hW3 : (w2.alloc (.cells #[.int .i64 m.st, .slice a1 m.next.length d1, .slice a2 m.ends.length d2] 26)) = W3 at *
      clear hW3
      generalize w2.heap.size = B3 at *
      have HIBW := Lib.hid (HIB.out _ (by rw [← hR]; exact O3.out.keep))
      go_wp2_with fail
      refine HIBW.out.mono ?_
      rintro e w4 ⟨k, a3, a4, d3, d4, hk, rfl, hA4, hb4⟩
      have O4 := Lib.hid (O3.out.join hA4 hb4)
      have O5 := Lib.hid (O4.out.box #[.int .i64 k.st, .slice a3 k.next.length d3, .slice a4 k.ends.length d4] 26)
      have HK := Lib.hid hk
      clear hA4 hb4 hk
      go_upto_region 13 with fail
      generalize hW5 : (w4.alloc (.cells #[.int .i64 k.st, .slice a3 k.next.length d3, .slice a4 k.ends.length d4] 26)) = W5 at *
      clear hW5
      generalize w4.heap.size = B5 at *
      have hcell := HCK.out _ (by rw [← hR]; exact O5.out.keep)
      have HR := Lib.hid hR
      clear hR
      have b0 := cellsT_cell (O5.out.cells 0 (by simp) rfl) 0
      have b1 := cellsT_cell (O5.out.cells 0 (by simp) rfl) 1
      have b2 := cellsT_cell (O5.out.cells 0 (by simp) rfl) 2
      have e0 := cellsT_cell (O5.out.cells 3 (by simp) rfl) 0
      have e1 := cellsT_cell (O5.out.cells 3 (by simp) rfl) 1
      have e2 := cellsT_cell (O5.out.cells 3 (by simp) rfl) 2
      have z0 := cellsT_cell (O5.out.cells 6 (by simp) rfl) 0
      have z1 := cellsT_cell (O5.out.cells 6 (by simp) rfl) 1
      have z2 := cellsT_cell (O5.out.cells 6 (by simp) rfl) 2
      have zf := cellsT_frozen (O5.out.cells 6 (by simp) rfl)
      simp only [List.getElem?_toArray, List.getElem?_cons_succ, List.getElem?_cons_zero] at z0 z1 z2 b0 b1 b2 e0 e1 e2
      cases hmk : (m.ok && k.ok) with
      | false =>
        have HZ := Lib.hid (HTT.out m k ⟨0, [], []⟩ false HM.out HK.out (by rw [hmk]; exact zero_join))
        obtain ⟨f1, f2, r0, r1, r2⟩ := O5.out.fin (us := []) 6 (by simp) rfl (List.nil_sublist _) (x := .int .i64 0) (y := .slice none 0 0) (z := .slice none 0 0) rfl
        have HF := Lib.hid (And.intro ((f1.idle (rowT 4 1 (.slice none 0 0) 0 []) (World.ownsRow_nil _ _ _ _) rfl).idle (rowT 3 1 (.slice none 0 0) 0 []) (World.ownsRow_nil _ _ _ _) rfl) f2)
        clear f1 f2
        cases hmo : m.ok with
        | false =>
          clear hmk
          rw [hmo] at *
          go_wp2_with fail
          generalize (((W5.setCell ⟨R, 0, none⟩ (.int .i64 0)).setCell ⟨R, 1, none⟩ (.slice none 0 0)).setCell ⟨R, 2, none⟩ (.slice none 0 0)) = WE at *
          refine bodyPost_ret (v := .tuple #[.agg #[.int .i64 0, .slice none 0 0, .slice none 0 0], .bool false]) ?_ rfl ⟨⟨0, [], []⟩, none, none, 0, 0, HZ.out.1, rfl, HF.out.1, HF.out.2⟩
          simp [results, Try.results137, go_sem, r0, r1, r2]
        | true =>
          have hko : k.ok = false := by rw [hmo, Bool.true_and] at hmk; exact hmk
          clear hmk
          rw [hmo, hko] at *
          go_wp2_with fail
          generalize (((W5.setCell ⟨R, 0, none⟩ (.int .i64 0)).setCell ⟨R, 1, none⟩ (.slice none 0 0)).setCell ⟨R, 2, none⟩ (.slice none 0 0)) = WE at *
          refine bodyPost_ret (v := .tuple #[.agg #[.int .i64 0, .slice none 0 0, .slice none 0 0], .bool false]) ?_ rfl ⟨⟨0, [], []⟩, none, none, 0, 0, HZ.out.1, rfl, HF.out.1, HF.out.2⟩
          simp [results, Try.results137, go_sem, r0, r1, r2]
      | true =>
        have hmko : m.ok = true ∧ k.ok = true := by simpa using hmk
        obtain ⟨hmo, hko⟩ := hmko
        have HMK := Lib.hid hmk
        have HJN := Lib.hid (specEither_any m k (.slice a1 m.next.length d1) (.slice a2 m.ends.length d2) (.slice a3 k.next.length d3) (.slice a4 k.ends.length d4) W5 (O5.out.ints 4 (by simp) rfl) (O5.out.bools 5 (by simp) rfl) (O5.out.ints 1 (by simp) rfl) (O5.out.bools 2 (by simp) rfl) (HWA.out m HM.out) (HWB.out k HK.out))
        have HTN := Lib.hid (fun x r h => HTT.out m k x r HM.out HK.out h)
        clear hmk
        rw [hmo, hko] at *
        go_wp2_with fail
        refine HJN.out.mono ?_
        rintro e w6 ⟨x, r, a5, a6, d5, d6, hj, rfl, hA6, hb6⟩
        have O6 := Lib.hid (O5.out.join hA6 hb6)
        have HX := Lib.hid (HTN.out x r hj)
        have HXO := Lib.hid HX.out.2
        clear z0 z1 z2 zf b0 b1 b2 e0 e1 e2 hcell hA6 hb6 hj
        have z0 := cellsT_cell (O6.out.cells 8 (by simp) rfl) 0
        have z1 := cellsT_cell (O6.out.cells 8 (by simp) rfl) 1
        have z2 := cellsT_cell (O6.out.cells 8 (by simp) rfl) 2
        have zf := cellsT_frozen (O6.out.cells 8 (by simp) rfl)
        simp only [List.getElem?_toArray, List.getElem?_cons_succ, List.getElem?_cons_zero] at z0 z1 z2
        obtain ⟨f1, f2, r0, r1, r2⟩ := O6.out.fin (us := rowsM x (.slice a5 x.next.length d5) (.slice a6 x.ends.length d6)) 8 (by simp) rfl (List.Sublist.cons_cons _ (List.Sublist.cons_cons _ (List.nil_sublist _))) (x := .int .i64 x.st) (y := .slice a5 x.next.length d5) (z := .slice a6 x.ends.length d6) rfl
        have HF := Lib.hid (And.intro f1 f2)
        clear f1 f2
        go_wp2_with fail
        generalize (((w6.setCell ⟨R, 0, none⟩ (.int .i64 x.st)).setCell ⟨R, 1, none⟩ (.slice a5 x.next.length d5)).setCell ⟨R, 2, none⟩ (.slice a6 x.ends.length d6)) = WE at *
        refine bodyPost_ret (v := .tuple #[.agg #[.int .i64 x.st, .slice a5 x.next.length d5, .slice a6 x.ends.length d6], .bool r]) ?_ rfl ⟨x, a5, a6, d5, d6, HX.out.1, by rw [HXO.out], HF.out.1, HF.out.2⟩
        simp [results, Try.results137, go_sem, r0, r1, r2]
    | false =>
      have HCK : Hid (∀ W, Below w.heap.size w W → W.cell? ⟨g, off + (la + lb) * 5, none⟩ = some (.int .i64 1)) := Lib.hid (fun W hb => HCE.out W hb)
      go_enter Try.func137, Try.ntmps137
      go_upto_region 1 with fail
      generalize hW0 : (w.alloc (.cells #[.int .i64 0, .slice none 0 0, .slice none 0 0] 26)) = W0 at *
      clear hW0
      have BW := Lib.hid O0.out.keep
      have hcell := HCK.out _ BW.out
      have HSTW := Lib.hid (HST.out _ BW.out)
      have HIAW := Lib.hid (HIA.out _ BW.out)
      generalize hR : w.heap.size = R at *
      go_wp2_with fail
      refine HSTW.out.mono ?_
      rintro e w1 ⟨rfl, rfl⟩
      go_wp2_with fail
      refine HIAW.out.mono ?_
      rintro e w2 ⟨m, a1, a2, d1, d2, hm, rfl, hA2, hb2⟩
      have O2 := Lib.hid (O0.out.join hA2 hb2)
      have O3 := Lib.hid (O2.out.box #[.int .i64 m.st, .slice a1 m.next.length d1, .slice a2 m.ends.length d2] 26)
      have HM := Lib.hid hm
      clear hA2 hb2 hcell hm
      go_upto_region 12 with fail
      generalize hW3 : (w2.alloc (.cells #[.int .i64 m.st, .slice a1 m.next.length d1, .slice a2 m.ends.length d2] 26)) = W3 at *
      clear hW3
      generalize w2.heap.size = B3 at *
      have HIBW := Lib.hid (HIB.out _ (by rw [← hR]; exact O3.out.keep))
      go_wp2_with fail
      refine HIBW.out.mono ?_
      rintro e w4 ⟨k, a3, a4, d3, d4, hk, rfl, hA4, hb4⟩
      have O4 := Lib.hid (O3.out.join hA4 hb4)
      have O5 := Lib.hid (O4.out.box #[.int .i64 k.st, .slice a3 k.next.length d3, .slice a4 k.ends.length d4] 26)
      have HK := Lib.hid hk
      clear hA4 hb4 hk
      go_upto_region 13 with fail
      generalize hW5 : (w4.alloc (.cells #[.int .i64 k.st, .slice a3 k.next.length d3, .slice a4 k.ends.length d4] 26)) = W5 at *
      clear hW5
      generalize w4.heap.size = B5 at *
      have hcell := HCK.out _ (by rw [← hR]; exact O5.out.keep)
      have HR := Lib.hid hR
      clear hR
      have b0 := cellsT_cell (O5.out.cells 0 (by simp) rfl) 0
      have b1 := cellsT_cell (O5.out.cells 0 (by simp) rfl) 1
      have b2 := cellsT_cell (O5.out.cells 0 (by simp) rfl) 2
      have e0 := cellsT_cell (O5.out.cells 3 (by simp) rfl) 0
      have e1 := cellsT_cell (O5.out.cells 3 (by simp) rfl) 1
      have e2 := cellsT_cell (O5.out.cells 3 (by simp) rfl) 2
      have z0 := cellsT_cell (O5.out.cells 6 (by simp) rfl) 0
      have z1 := cellsT_cell (O5.out.cells 6 (by simp) rfl) 1
      have z2 := cellsT_cell (O5.out.cells 6 (by simp) rfl) 2
      have zf := cellsT_frozen (O5.out.cells 6 (by simp) rfl)
      simp only [List.getElem?_toArray, List.getElem?_cons_succ, List.getElem?_cons_zero] at z0 z1 z2 b0 b1 b2 e0 e1 e2
      cases hmk : (m.ok && k.ok) with
      | false =>
        have HZ := Lib.hid (HTF.out m k ⟨0, [], []⟩ false HM.out HK.out (by rw [hmk]; exact zero_join))
        obtain ⟨f1, f2, r0, r1, r2⟩ := O5.out.fin (us := []) 6 (by simp) rfl (List.nil_sublist _) (x := .int .i64 0) (y := .slice none 0 0) (z := .slice none 0 0) rfl
        have HF := Lib.hid (And.intro ((f1.idle (rowT 4 1 (.slice none 0 0) 0 []) (World.ownsRow_nil _ _ _ _) rfl).idle (rowT 3 1 (.slice none 0 0) 0 []) (World.ownsRow_nil _ _ _ _) rfl) f2)
        clear f1 f2
        cases hmo : m.ok with
        | false =>
          clear hmk
          rw [hmo] at *
          go_wp2_with fail
          generalize (((W5.setCell ⟨R, 0, none⟩ (.int .i64 0)).setCell ⟨R, 1, none⟩ (.slice none 0 0)).setCell ⟨R, 2, none⟩ (.slice none 0 0)) = WE at *
          refine bodyPost_ret (v := .tuple #[.agg #[.int .i64 0, .slice none 0 0, .slice none 0 0], .bool false]) ?_ rfl ⟨⟨0, [], []⟩, none, none, 0, 0, HZ.out.1, rfl, HF.out.1, HF.out.2⟩
          simp [results, Try.results137, go_sem, r0, r1, r2]
        | true =>
          have hko : k.ok = false := by rw [hmo, Bool.true_and] at hmk; exact hmk
          clear hmk
          rw [hmo, hko] at *
          go_wp2_with fail
          generalize (((W5.setCell ⟨R, 0, none⟩ (.int .i64 0)).setCell ⟨R, 1, none⟩ (.slice none 0 0)).setCell ⟨R, 2, none⟩ (.slice none 0 0)) = WE at *
          refine bodyPost_ret (v := .tuple #[.agg #[.int .i64 0, .slice none 0 0, .slice none 0 0], .bool false]) ?_ rfl ⟨⟨0, [], []⟩, none, none, 0, 0, HZ.out.1, rfl, HF.out.1, HF.out.2⟩
          simp [results, Try.results137, go_sem, r0, r1, r2]
      | true =>
        have hmko : m.ok = true ∧ k.ok = true := by simpa using hmk
        obtain ⟨hmo, hko⟩ := hmko
        have HMK := Lib.hid hmk
        have HJN := Lib.hid (specBoth_any m k (.slice a1 m.next.length d1) (.slice a2 m.ends.length d2) (.slice a3 k.next.length d3) (.slice a4 k.ends.length d4) W5 (O5.out.ints 4 (by simp) rfl) (O5.out.bools 5 (by simp) rfl) (O5.out.ints 1 (by simp) rfl) (O5.out.bools 2 (by simp) rfl) (HWA.out m HM.out) (HWB.out k HK.out))
        have HTN := Lib.hid (fun x r h => HTF.out m k x r HM.out HK.out h)
        clear hmk
        rw [hmo, hko] at *
        go_wp2_with fail
        refine HJN.out.mono ?_
        rintro e w6 ⟨x, r, a5, a6, d5, d6, hj, rfl, hA6, hb6⟩
        have O6 := Lib.hid (O5.out.join hA6 hb6)
        have HX := Lib.hid (HTN.out x r hj)
        have HXO := Lib.hid HX.out.2
        clear z0 z1 z2 zf b0 b1 b2 e0 e1 e2 hcell hA6 hb6 hj
        have z0 := cellsT_cell (O6.out.cells 8 (by simp) rfl) 0
        have z1 := cellsT_cell (O6.out.cells 8 (by simp) rfl) 1
        have z2 := cellsT_cell (O6.out.cells 8 (by simp) rfl) 2
        have zf := cellsT_frozen (O6.out.cells 8 (by simp) rfl)
        simp only [List.getElem?_toArray, List.getElem?_cons_succ, List.getElem?_cons_zero] at z0 z1 z2
        obtain ⟨f1, f2, r0, r1, r2⟩ := O6.out.fin (us := rowsM x (.slice a5 x.next.length d5) (.slice a6 x.ends.length d6)) 8 (by simp) rfl (List.Sublist.cons_cons _ (List.Sublist.cons_cons _ (List.nil_sublist _))) (x := .int .i64 x.st) (y := .slice a5 x.next.length d5) (z := .slice a6 x.ends.length d6) rfl
        have HF := Lib.hid (And.intro f1 f2)
        clear f1 f2
        go_wp2_with fail
        generalize (((w6.setCell ⟨R, 0, none⟩ (.int .i64 x.st)).setCell ⟨R, 1, none⟩ (.slice a5 x.next.length d5)).setCell ⟨R, 2, none⟩ (.slice a6 x.ends.length d6)) = WE at *
        refine bodyPost_ret (v := .tuple #[.agg #[.int .i64 x.st, .slice a5 x.next.length d5, .slice a6 x.ends.length d6], .bool r]) ?_ rfl ⟨x, a5, a6, d5, d6, HX.out.1, by rw [HXO.out], HF.out.1, HF.out.2⟩
        simp [results, Try.results137, go_sem, r0, r1, r2]
end Go.Proofs.Ytjdeahdngpccpaa
