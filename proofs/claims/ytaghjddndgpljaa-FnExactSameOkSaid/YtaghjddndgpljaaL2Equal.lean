/- The model's comparison of two machines. No condition. -/
import Derived.Test.YtaghjddndgpljaaTrim
import Derived.Test.YtaghjddndgpljaaSpecLive
namespace Go.Proofs.Ytaghjddndgpljaa
open Go.RowKit

def EqM (a b : M) (k : Nat) : Prop := ∀ i, i < k → a.next.getD i 0 = b.next.getD i 0 ∧ a.ends.getD (i / 3) false = b.ends.getD (i / 3) false
theorem EqM.more {a b : M} {k : Nat} (h : EqM a b k) (h1 : a.next.getD k 0 = b.next.getD k 0) (h2 : a.ends.getD (k / 3) false = b.ends.getD (k / 3) false) : EqM a b (k + 1) := by
  intro i hi
  rcases Nat.lt_succ_iff_lt_or_eq.1 hi with h' | rfl
  · exact h i h'
  · exact ⟨h1, h2⟩
theorem EqM.all {a b : M} (ha : a.good) (hb : b.good) (hst : a.st = b.st) (h : EqM a b a.next.length) : a = b := by
  have sa := M.good_shape ha
  have sb := M.good_shape hb
  obtain ⟨s, xs, es⟩ := a
  obtain ⟨s', ys, fs⟩ := b
  simp only at hst sa sb h
  subst hst
  have e1 : xs = ys := by
    refine List.ext_getElem (by omega) fun i h1 h2 => ?_
    have := (h i h1).1
    simpa [List.getD, h1, h2] using this
  have e2 : es = fs := by
    refine List.ext_getElem (by omega) fun i h1 h2 => ?_
    have h3 := (h (3 * i) (by omega)).2
    rw [show 3 * i / 3 = i by omega] at h3
    simpa [List.getD, h1, h2] using h3
  rw [e1, e2]

set_option maxHeartbeats 1600000 in
set_option maxRecDepth 100000 in
theorem specL2Equal_any (a b : M) (na ea nb eb : Value) (w : World) (h1 : IsInts w na a.next) (h2 : IsBools w ea a.ends) (h3 : IsInts w nb b.next) (h4 : IsBools w eb b.ends) (ha : a.good) (hb : b.good) :
    Calls Try.prog 65 #[.agg #[.int .i64 a.st, na, ea], .agg #[.int .i64 b.st, nb, eb]] w fun e w' => e = .returned (.bool (decide (a = b))) ∧ Below w.heap.size w w' := by
  have hsa := M.good_shape ha
  have hsb := M.good_shape hb
  have MA := MachBox.new (st := a.st) 26 h1 h2
  have ha1 := (Below.refl w.heap.size w).alloc (Nat.le_refl _) (.cells #[.int .i64 a.st, na, ea] 26)
  have hb1 := (Below.refl _ (w.alloc (.cells #[.int .i64 a.st, na, ea] 26))).alloc (Nat.le_refl _) (.cells #[.int .i64 b.st, nb, eb] 26)
  have MB := MachBox.new (st := b.st) 26 (h3.below ha1) (h4.below ha1)
  rw [World.size_alloc] at MB
  have MA2 := MA.below hb1
  have q2 := Lib.hid (ha1.trans (hb1.mono (by simp)))
  have HA := Lib.hid ha
  have HB := Lib.hid hb
  obtain ⟨a1, n1, c1, rfl⟩ := MA2.ints.slice
  obtain ⟨g1, o1, rfl, rfl, d1, e1, l1, r1⟩ := ints_cells MA2.ints (by omega)
  obtain ⟨a2, n2, c2, rfl⟩ := MA2.bools.slice
  obtain ⟨g2, o2, rfl, rfl, l2, r2⟩ := bools_cells3 MA2.bools (by omega)
  obtain ⟨a3, n3, c3, rfl⟩ := MB.ints.slice
  obtain ⟨g3, o3, rfl, rfl, d3, e3, l3, r3⟩ := ints_cells MB.ints (by omega)
  obtain ⟨a4, n4, c4, rfl⟩ := MB.bools.slice
  obtain ⟨g4, o4, rfl, rfl, l4, r4⟩ := bools_cells3 MB.bools (by omega)
  have R1 := Lib.hid r1
  have R2 := Lib.hid r2
  have R3 := Lib.hid r3
  have R4 := Lib.hid r4
  have MAH := Lib.hid MA2
  have MBH := Lib.hid MB
  have HSA := Lib.hid hsa
  have HSB := Lib.hid hsb
  have x0 := MA2.c0
  have x1 := MA2.c1
  have x2 := MA2.c2
  have z0 := MB.c0
  have z1 := MB.c1
  have z2 := MB.c2
  clear r1 r2 r3 r4 MA MA2 MB h1 h2 h3 h4 ha1 hb1 ha hb
  by_cases hst : a.st = b.st
  · have hq : (a.st != b.st) = false := by simp [hst]
    have HST := Lib.hid hst
    have hnl : a.next.length ≤ 12000 := by omega
    clear hst hsa hsb
    go_enter Try.func65, Try.ntmps65
    go_wp2_with fail
    generalize hW0 : (w.alloc (.cells #[.int .i64 a.st, .slice (some ⟨g1, o1, none⟩) a.next.length c1, .slice (some ⟨g2, o2, none⟩) a.ends.length c2] 26)).alloc (.cells #[.int .i64 b.st, .slice (some ⟨g3, o3, none⟩) b.next.length c3, .slice (some ⟨g4, o4, none⟩) b.ends.length c4] 26) = W0 at *
    clear hW0 x0 x1 x2 z0 z1 z2
    go_loopw [5] (fun i wr => ∃ k d : Nat, k ≤ a.next.length ∧ i = .int .i64 (k : Int) ∧ EqM a b k ∧ wr = W0.drewN d) (fun i _ => a.next.length - (intOf i).toNat)
    case atStart => exact ⟨0, 0, Nat.zero_le _, rfl, fun i h => absurd h (Nat.not_lt_zero i), rfl⟩
    case round =>
      obtain ⟨k, d, hk, rfl, hE, rfl⟩ := hrel
      have HE := Lib.hid hE
      clear hE
      have hbd := below_drewN (Below.refl W0.heap.size W0) d
      have MAd := MAH.out.below hbd
      have MBd := MBH.out.below hbd
      have x1 := MAd.c1
      have x2 := MAd.c2
      have z1 := MBd.c1
      have z2 := MBd.c2
      have HQ := Lib.hid (q2.out.trans (hbd.mono q2.out.size))
      clear MAd MBd
      by_cases hlt : k < a.next.length
      · have sa := HSA.out
        have sb := HSB.out
        have hs := HST.out
        have hlb : k < b.next.length := by omega
        have hea : k / 3 < a.ends.length := by omega
        have heb : k / 3 < b.ends.length := by omega
        have y1 : (W0.drewN d).cell? ⟨g1, o1 + k, none⟩ = some (.int .i64 a.next[k]) := R1.out k hlt
        have y2 : (W0.drewN d).cell? ⟨g2, o2 + k / 3, none⟩ = some (.bool a.ends[k / 3]) := R2.out (k / 3) hea
        have y3 : (W0.drewN d).cell? ⟨g3, o3 + k, none⟩ = some (.int .i64 b.next[k]) := R3.out k hlb
        have y4 : (W0.drewN d).cell? ⟨g4, o4 + k / 3, none⟩ = some (.bool b.ends[k / 3]) := R4.out (k / 3) heb
        have htd := tdiv3 k
        have hwd : IntKind.i64.wrap ((k / 3 : Nat) : Int) = ((k / 3 : Nat) : Int) := IntWalk.i64_in _ (by omega)
        have hwe : IntKind.i64.wrap ((k : Int).tdiv 3) = ((k / 3 : Nat) : Int) := by rw [htd]; exact hwd
        have hki : (k : Int) < (a.next.length : Int) := by omega
        have hkj : (k : Int) < (b.next.length : Int) := by omega
        have hka : ((k / 3 : Nat) : Int) < (a.ends.length : Int) := by omega
        have hkb : ((k / 3 : Nat) : Int) < (b.ends.length : Int) := by omega
        have gn : a.next.getD k 0 = a.next[k] := by rw [List.getD_eq_getElem?_getD, List.getElem?_eq_getElem hlt]; rfl
        have gm : b.next.getD k 0 = b.next[k] := by rw [List.getD_eq_getElem?_getD, List.getElem?_eq_getElem hlb]; rfl
        have ge : a.ends.getD (k / 3) false = a.ends[k / 3] := by rw [List.getD_eq_getElem?_getD, List.getElem?_eq_getElem hea]; rfl
        have gf : b.ends.getD (k / 3) false = b.ends[k / 3] := by rw [List.getD_eq_getElem?_getD, List.getElem?_eq_getElem heb]; rfl
        have HSU : Hid (a.next[k] = b.next[k] → a.ends[k / 3] = b.ends[k / 3] → EqM a b (k + 1)) := Lib.hid (fun h1 h2 => HE.out.more (by rw [gn, gm, h1]) (by rw [ge, gf, h2]))
        have HN1 : Hid (a.next[k] ≠ b.next[k] → a ≠ b) := Lib.hid (fun h e => h (by subst e; rfl))
        have HN2 : Hid (a.ends[k / 3] ≠ b.ends[k / 3] → a ≠ b) := Lib.hid (fun h e => h (by subst e; rfl))
        have HW : Hid (∀ q, ∃ d', (W0.drewN d).drewN q = W0.drewN d') := Lib.hid (fun q => ⟨d + q, by rw [World.drewN_drewN]⟩)
        clear gn gm ge gf sa sb hs hbd
        generalize a.next[k] = x at *
        generalize b.next[k] = y at *
        generalize a.ends[k / 3] = p at *
        generalize b.ends[k / 3] = q at *
        generalize hK3 : k / 3 = k3 at *
        clear hK3
        generalize W0.drewN d = W at *
        by_cases hxy : x = y
        · have hq1 : (x != y) = false := by simp [hxy]
          have HSU2 := Lib.hid (HSU.out hxy)
          clear hxy HSU HN1
          match p, q with
          | false, false =>
            have HS := Lib.hid (HSU2.out rfl)
            clear HSU2 HN2
            go_wp2_with fail
            go_quiet (fail)
            go_wp2_with fail
            go_roundw
            case rel => exact ⟨k + 1, _, by omega, by go_num, HS.out, (HW.out _).choose_spec⟩
            case measure => simp [intOf]; omega
          | true, true =>
            have HS := Lib.hid (HSU2.out rfl)
            clear HSU2 HN2
            go_wp2_with fail
            go_quiet (fail)
            go_wp2_with fail
            go_roundw
            case rel => exact ⟨k + 1, _, by omega, by go_num, HS.out, (HW.out _).choose_spec⟩
            case measure => simp [intOf]; omega
          | false, true =>
            have HS := Lib.hid (HN2.out (by decide))
            clear HSU2 HN2
            go_wp2_with fail
            go_quiet (fail)
            go_wp2_with fail
            go_ret
            exact ⟨ret_bool (decide_eq_false HS.out).symm, below_drewN HQ.out _⟩
          | true, false =>
            have HS := Lib.hid (HN2.out (by decide))
            clear HSU2 HN2
            go_wp2_with fail
            go_quiet (fail)
            go_wp2_with fail
            go_ret
            exact ⟨ret_bool (decide_eq_false HS.out).symm, below_drewN HQ.out _⟩
        · have hq1 : (x != y) = true := by simpa using hxy
          have HS := Lib.hid (HN1.out hxy)
          clear hxy HSU HN1 HN2
          go_wp2_with fail
          go_quiet (fail)
          go_wp2_with fail
          go_ret
          exact ⟨ret_bool (decide_eq_false HS.out).symm, below_drewN HQ.out _⟩
      · obtain rfl : k = a.next.length := by omega
        have HEQ := Lib.hid (EqM.all HA.out HB.out HST.out HE.out)
        go_wp2_with fail
        go_ret
        exact ⟨ret_bool (decide_eq_true HEQ.out).symm, HQ.out⟩
  · have hq : (a.st != b.st) = true := by simpa using hst
    have HNE : Hid (a ≠ b) := Lib.hid (fun e => hst (by rw [e]))
    clear hst hsa hsb
    go_enter Try.func65, Try.ntmps65
    go_wp2_with fail
    go_ret
    exact ⟨ret_bool (decide_eq_false HNE.out).symm, q2.out⟩
end Go.Proofs.Ytaghjddndgpljaa
