/- spec.CountGivings and spec.FirstGiving: what they return, for every day. No condition. -/
import Derived.Test.YthihcnlbohhemaaDayGivs
namespace Go.Proofs.Ythihcnlbohhemaa
open Go.RowKit

theorem D.givings_is {d : D} {n : Nat} {cs : List Nat} (h : d.ok = true) (hn : d.n = n) (hc : d.cs = cs) : d.givings = ((givs n cs 0).length : Int) := by
  subst hn hc; simp [D.givings, h]
theorem D.first_is {d : D} {n : Nat} {cs : List Nat} {f : List Int} {rest : List (List Int)} (h : d.ok = true) (hn : d.n = n) (hc : d.cs = cs) (hf : givs n cs 0 = f :: rest) : d.first = f ∧ d.hasGiving = true := by
  subst hn hc; simp [D.first, D.hasGiving, h, hf]
theorem D.first_none {d : D} {n : Nat} {cs : List Nat} (h : d.ok = true) (hn : d.n = n) (hc : d.cs = cs) (hf : givs n cs 0 = []) : d.first = [] ∧ d.hasGiving = false := by
  subst hn hc; simp [D.first, D.hasGiving, h, hf]
theorem D.first_bad {d : D} (h : d.ok = false) : d.first = [] ∧ d.hasGiving = false := by simp [D.first, D.hasGiving, h]

set_option maxHeartbeats 800000 in
theorem specCountGivings_any (ppl : Int) (xs : List Int) (cv : Value) (w : World) (h1 : IsInts w cv xs) :
    Calls Try.prog 56 #[.agg #[.int .i64 ppl, cv]] w fun e w' => e = .returned (.int .i64 (D.givings ⟨ppl, xs⟩)) ∧ Below w.heap.size w w' := by
  have hB0 : Below w.heap.size w (w.alloc (.cells #[.int .i64 ppl, cv] 44)) := (Below.refl _ _).alloc (Nat.le_refl _) _
  have X0 := Lib.hid (DayBox.new (ppl := ppl) 44 h1)
  have C0 := Lib.hid (specDayOk_any ppl xs cv _ X0.out.ints)
  have Q0 := Lib.hid hB0
  clear hB0
  obtain ⟨a, n0, c0, rfl⟩ := h1.slice
  clear h1
  rcases D.two ppl xs with hok | ⟨hok, n, cs, rfl, rfl, G, hdn, hdc⟩
  · have HS : Hid (D.givings ⟨ppl, xs⟩ = -1) := by
      have : D.givings ⟨ppl, xs⟩ = -1 := by simp [D.givings, hok]
      exact Lib.hid this
    go_enter Try.func56, Try.ntmps56
    go_wp2_with fail
    refine C0.out.mono ?_
    rintro e w1 ⟨rfl, hb1⟩
    have Q1 := Lib.hid (Q0.out.trans (hb1.mono Q0.out.size))
    clear hb1
    go_wp2_with fail
    go_ret
    exact ⟨ret_int HS.out.symm, Q1.out⟩
  · have HS := Lib.hid (D.givings_is hok hdn hdc)
    have HG := Lib.hid G
    clear hdn hdc G
    go_enter Try.func56, Try.ntmps56
    go_wp2_with fail
    refine C0.out.mono ?_
    rintro e w1 ⟨rfl, hb1⟩
    have X1 := Lib.hid (X0.out.below hb1)
    have Q1 := Lib.hid (Q0.out.trans (hb1.mono Q0.out.size))
    have hal : Below w1.heap.size w1 (w1.alloc (.cells #[] 3)) := (Below.refl _ _).alloc (Nat.le_refl _) _
    have X2 := Lib.hid (X1.out.below hal)
    have Q2 := Lib.hid (Q1.out.trans (hal.mono Q1.out.size))
    have I2 : Hid (IsInts (w1.alloc (.cells #[] 3)) (.slice (some ⟨w1.heap.size, 0, none⟩) 0 0) []) := Lib.hid ⟨_, 0, rfl, Nat.le_refl _, Nat.zero_le _, .inl rfl⟩
    have x0 := X1.out.c0
    have x1 := X1.out.c1
    clear hb1 hal
    go_wp2_with fail
    clear x0 x1
    refine (l8Givings_any HG.out cs.length [] (by simp) 0 _ _ _ (by omega) X2.out.ints.nats I2.out).mono ?_
    rintro e w3 ⟨qs, ra, rc, rfl, -, -, -, -, hb3⟩
    have Q3 := Lib.hid (Q2.out.trans (hb3.mono Q2.out.size))
    clear hb3
    go_wp2_with fail
    go_ret
    exact ⟨ret_int HS.out.symm, Q3.out⟩

/-- what FirstGiving answers -/
def FirstPost (d : D) (w : World) (e : Ending) (w' : World) : Prop := ∃ v, e = .returned (.tuple #[v, .bool d.hasGiving]) ∧ IsInts w' v d.first ∧ Below w.heap.size w w'
set_option maxHeartbeats 1600000 in
theorem specFirstGiving_any (ppl : Int) (xs : List Int) (cv : Value) (w : World) (h1 : IsInts w cv xs) :
    Calls Try.prog 53 #[.agg #[.int .i64 ppl, cv]] w (FirstPost ⟨ppl, xs⟩ w) := by
  have hB0 : Below w.heap.size w (w.alloc (.cells #[.int .i64 ppl, cv] 44)) := (Below.refl _ _).alloc (Nat.le_refl _) _
  have X0 := Lib.hid (DayBox.new (ppl := ppl) 44 h1)
  have C0 := Lib.hid (specDayOk_any ppl xs cv _ X0.out.ints)
  have Q0 := Lib.hid hB0
  clear hB0
  obtain ⟨a, n0, c0, rfl⟩ := h1.slice
  clear h1
  rcases D.two ppl xs with hok | ⟨hok, n, cs, rfl, rfl, G, hdn, hdc⟩
  · have HS := Lib.hid (D.first_bad hok)
    go_enter Try.func53, Try.ntmps53
    go_wp2_with fail
    refine C0.out.mono ?_
    rintro e w1 ⟨rfl, hb1⟩
    have Q1 := Lib.hid (Q0.out.trans (hb1.mono Q0.out.size))
    clear hb1
    go_wp2_with fail
    go_ret2
    exact ⟨_, by rw [HS.out.2]; rfl, by rw [HS.out.1]; exact ⟨_, 0, rfl, Nat.le_refl _, Nat.zero_le _, .inl rfl⟩, Q1.out.alloc Q1.out.size _⟩
  · have HK := Lib.hid hok
    have HN := Lib.hid hdn
    have HD := Lib.hid hdc
    have HG := Lib.hid G
    clear hdn hdc G
    go_enter Try.func53, Try.ntmps53
    go_wp2_with fail
    refine C0.out.mono ?_
    rintro e w1 ⟨rfl, hb1⟩
    have X1 := Lib.hid (X0.out.below hb1)
    have Q1 := Lib.hid (Q0.out.trans (hb1.mono Q0.out.size))
    have hal : Below w1.heap.size w1 (w1.alloc (.cells #[] 3)) := (Below.refl _ _).alloc (Nat.le_refl _) _
    have X2 := Lib.hid (X1.out.below hal)
    have Q2 := Lib.hid (Q1.out.trans (hal.mono Q1.out.size))
    have I2 : Hid (IsInts (w1.alloc (.cells #[] 3)) (.slice (some ⟨w1.heap.size, 0, none⟩) 0 0) []) := Lib.hid ⟨_, 0, rfl, Nat.le_refl _, Nat.zero_le _, .inl rfl⟩
    have x0 := X1.out.c0
    have x1 := X1.out.c1
    clear hb1 hal
    go_wp2_with fail
    clear x0 x1
    refine (l8Givings_any HG.out cs.length [] (by simp) 0 _ _ _ (by omega) X2.out.ints.nats I2.out).mono ?_
    rintro e w3 ⟨qs, ra, rc, rfl, hq1, hq2, hq3, hq4, hb3⟩
    have Q3 := Lib.hid (Q2.out.trans (hb3.mono Q2.out.size))
    have I3 := Lib.hid (I2.out.below hb3)
    clear hb3
    rw [List.length_nil, List.drop_zero] at hq1 hq2 hq3
    rw [show (givs n (cs.drop ([] : List Int).length) 0) = givs n cs 0 by rw [List.length_nil, List.drop_zero]]
    cases hL : givs n cs 0 with
    | nil =>
      have HS := Lib.hid (D.first_none HK.out HN.out HD.out hL)
      clear hq1 hq2 hq3 hq4 hL
      go_wp2_with fail
      go_ret2
      exact ⟨_, by rw [HS.out.2]; rfl, by rw [HS.out.1]; exact ⟨_, 0, rfl, Nat.le_refl _, Nat.zero_le _, .inl rfl⟩, Q3.out.alloc Q3.out.size _⟩
    | cons f rest =>
      have HS := Lib.hid (D.first_is HK.out HN.out HD.out hL)
      rw [hL] at hq1 hq2 hq3
      match qs, hq1, hq2, hq3, hq4 with
      | [], hq1, _, _, _ => simp at hq1
      | q :: qs', hq1, hq2, hq3, hq4 =>
        obtain ⟨g5, off5, c5, hsl, hn5⟩ := hq3.news (by simp)
        simp only [Value.slice.injEq] at hsl
        obtain ⟨rfl, -, -⟩ := hsl
        have hcell := hn5 0 q.1 (by simp)
        rw [add_off, Nat.add_zero] at hcell
        have hqf : q.2 = f := by simpa using (by simpa using hq1 : q.2 = f ∧ _).1
        have IQ : Hid (IsInts w3 q.1 f) := by
          have : IsInts w3 q.1 f := by
            rcases hq4 q (by simp) with h | h
            · rw [h] at hqf ⊢
              simp only at hqf
              rw [← hqf]; exact I3.out
            · rw [← hqf]; exact h.ints
          exact Lib.hid this
        obtain ⟨qa, qn, qc, hqs⟩ := IQ.out.slice
        rw [hqs] at hcell
        have HQS := Lib.hid hqs
        clear hq1 hq2 hq3 hq4 hL hn5 hqf hqs
        have hlen : (f :: rest).length = rest.length + 1 := rfl
        go_wp2_with fail
        go_ret2
        exact ⟨_, by rw [HS.out.2]; rfl, by rw [HS.out.1, ← HQS.out]; exact IQ.out, Q3.out⟩
end Go.Proofs.Ythihcnlbohhemaa
