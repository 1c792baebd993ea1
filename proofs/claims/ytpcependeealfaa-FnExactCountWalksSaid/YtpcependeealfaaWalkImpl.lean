/- impl.stepsOf, impl.multiplied and impl.CountWalks. No condition. -/
import Derived.Test.YtpcependeealfaaWalkCnt
import Derived.BigRegion
namespace Go.Proofs.Ytpcependeealfaa
open Go.RowKit

theorem made_nils (n : Nat) : (madeCells (Value.slice none 0 0).cells (n * 1)).toList = List.replicate n (.slice none 0 0) := by
  rw [Nat.mul_one]; exact toList_madeCells_one _ _
/-- all rows ahead of a place are done -/
def DoneTo (A : Nat → Nat → Int) (n k : Nat) (ps : List (Value × List Int)) : Prop := ∀ j (hj : j < ps.length), j < k → ps[j].2 = rowF (A j) n
theorem DoneTo.set {A : Nat → Nat → Int} {n k : Nat} {ps : List (Value × List Int)} (h : DoneTo A n k ps) (p : Value × List Int) : DoneTo A n k (ps.set k p) := by
  intro j hj hk
  rw [List.getElem_set_ne (by omega)]
  exact h j (by simpa using hj) hk
theorem DoneTo.next {A : Nat → Nat → Int} {n k : Nat} {ps : List (Value × List Int)} (h : DoneTo A n k ps) (hk : k < ps.length) (e : ps[k].2 = rowF (A k) n) : DoneTo A n (k + 1) ps := by
  intro j hj hk2
  by_cases g : j = k
  · subst g; exact e
  · exact h j hj (by omega)
/-- a table of n rows of which the row k is being filled -/
structure Fill (w0 : World) (go n k : Nat) (A : Nat → Nat → Int) (gr : Nat) (f : Nat → Int) (w : World) : Prop where
  h : ∃ ps : List (Value × List Int), ps.length = n ∧ DoneTo A n k ps ∧ Bk w0 (.slice (some ⟨go, 0, none⟩) n n) ps [] w ∧ ∃ hk : k < ps.length, ps[k] = (.slice (some ⟨gr, 0, none⟩) n n, rowF f n)
section
variable {w0 : World} {go n k : Nat} {A : Nat → Nat → Int} {gr : Nat} {f g : Nat → Int} {w w' : World}
theorem Fill.same (h : Fill w0 go n k A gr f w) (hg : w.grownBy w' none) : Fill w0 go n k A gr f w' := by
  obtain ⟨ps, h1, h2, h3, h4⟩ := h.h
  exact ⟨ps, h1, h2, h3.same hg, h4⟩
theorem Fill.congr (h : Fill w0 go n k A gr f w) (e : rowF f n = rowF g n) : Fill w0 go n k A gr g w := by
  obtain ⟨ps, h1, h2, h3, h4, h5⟩ := h.h
  exact ⟨ps, h1, h2, h3, h4, by rw [h5, e]⟩
theorem Fill.keep (h : Fill w0 go n k A gr f w) : Below w0.heap.size w0 w := by
  obtain ⟨ps, h1, h2, h3, h4⟩ := h.h
  exact h3.keep
theorem Fill.cells (h : Fill w0 go n k A gr f w) (hk : k < n) : w.cell? ⟨go, k, none⟩ = some (.slice (some ⟨gr, 0, none⟩) n n) ∧ ∀ j, j < n → w.cell? ⟨gr, j, none⟩ = some (.int .i64 (f j)) ∧ w.frozen? ⟨gr, j, none⟩ = false := by
  obtain ⟨ps, h1, h2, h3, h4, h5⟩ := h.h
  have hr := h3.row
  rw [h1] at hr
  have hc := World.ownsRow.cellAt hr k (by omega)
  rw [List.getElem?_map, List.getElem?_eq_getElem h4, h5] at hc
  have hi := h3.inner k h4
  rw [h5] at hi
  simp only [rowF_length] at hi
  refine ⟨hc, fun j hj => ⟨?_, World.ownsRow.frozenAt hi j⟩⟩
  rw [World.ownsRow.cellAt hi j (by omega), rowF_cell _ _ _ hj]
theorem Fill.store (h : Fill w0 go n k A gr f w) (j : Nat) (u : Int) (e : (rowF f n).set j u = rowF g n) : Fill w0 go n k A gr g (w.setCell ⟨gr, j, none⟩ (.int .i64 u)) := by
  obtain ⟨ps, h1, h2, h3, h4, h5⟩ := h.h
  have hv : ps[k].1 = .slice (some ⟨gr, 0, none⟩) ps[k].2.length n := by rw [h5]; simp only [rowF_length]
  have := h3.setIn h4 hv j u
  refine ⟨_, by rw [List.length_set, h1], h2.set _, this, by rw [List.length_set]; exact h4, ?_⟩
  rw [List.getElem_set_self, h5]
  simp only [e]
theorem Fill.start {ps : List (Value × List Int)} (h1 : ps.length = n) (h2 : DoneTo A n k ps) (h3 : Bk w0 (.slice (some ⟨go, 0, none⟩) n n) ps (inn (.slice (some ⟨gr, 0, none⟩) n n, rowF f n) :: []) w) (hk : k < n) :
    Fill w0 go n k A gr f (w.setCell ⟨go, k, none⟩ (.slice (some ⟨gr, 0, none⟩) n n)) := by
  subst h1
  have := (h3.lay hk).1
  exact ⟨_, by rw [List.length_set], h2.set _, this, by rw [List.length_set]; exact hk, by rw [List.getElem_set_self]⟩
theorem Fill.done (h : Fill w0 go n k A gr f w) (e : rowF f n = rowF (A k) n) : ∃ ps : List (Value × List Int), ps.length = n ∧ DoneTo A n (k + 1) ps ∧ Bk w0 (.slice (some ⟨go, 0, none⟩) n n) ps [] w := by
  obtain ⟨ps, h1, h2, h3, h4, h5⟩ := h.h
  exact ⟨ps, h1, h2.next h4 (by rw [h5, e]), h3⟩
end

theorem made_part {w : World} {b n : Nat} {f : Nat → Int} (h : w.ownsRow b 3 1 (.slice (some ⟨b, 0, none⟩) n n) n (madeCells (Value.int .i64 0).cells (n * 1)).toList) (e : rowF f n = rowF (fun _ => 0) n) :
    w.ownsRow b 3 1 (.slice (some ⟨b, 0, none⟩) n n) (rowF f n).length ((rowF f n).map (Value.int .i64)) := by
  rw [e, rowF_length, ← made_rowF]; exact h
theorem bk_cell {w0 w : World} {go oc n k : Nat} {ps : List (Value × List Int)} {pre : List Thing} (h : Bk w0 (.slice (some ⟨go, 0, none⟩) n oc) ps pre w) (hk : k < ps.length) : (∃ u, w.cell? ⟨go, k, none⟩ = some u) ∧ w.frozen? ⟨go, k, none⟩ = false := by
  have hr := h.row
  rcases hr.2 with ⟨hv, _⟩ | ⟨g, cap, cur, hv, _⟩
  · cases hv
  · simp only [Value.slice.injEq, Option.some.injEq, Addr.mk.injEq, and_true] at hv
    obtain ⟨rfl, rfl, rfl⟩ := hv
    have hc := World.ownsRow.cellAt hr k (by omega)
    rw [List.getElem?_map, List.getElem?_eq_getElem hk] at hc
    exact ⟨⟨_, hc⟩, World.ownsRow.frozenAt hr k⟩

set_option maxHeartbeats 4000000 in
theorem implSteps_any (m : M) (nv ev : Value) (w : World) (h1 : IsInts w nv m.next) (h2 : IsBools w ev m.ends) (hk : m.ok = true) :
    Calls Try.prog 101 #[.agg #[.int .i64 m.st, nv, ev]] w fun e w' => ∃ v, e = .returned v ∧ IsMat w' v m.ends.length m.steps ∧ Below w.heap.size w w' := by
  obtain ⟨i0, hi, hz0, hz1, hz2⟩ := info_parts infoIntM
  obtain ⟨s0, hs, hy0, hy1, hy2⟩ := info_parts infoSlM
  have hsh := M.ok_shape hk
  have hn48 : m.ends.length ≤ 48 := by omega
  have hn1 : 1 ≤ m.ends.length := by omega
  have HI := Lib.hid (And.intro hi (And.intro hz0 (And.intro hz1 (show i0.bytes * m.ends.length ≤ 281474976710656 by rw [hz2]; omega))))
  have HS := Lib.hid (And.intro hs (And.intro hy0 (And.intro hy1 (show s0.bytes * m.ends.length ≤ 281474976710656 by rw [hy2]; omega))))
  clear hi hz0 hz1 hz2 hs hy0 hy1 hy2
  have HK := Lib.hid hk
  have HSTN := Lib.hid (show m.st = (m.ends.length : Int) by omega)
  have HNX := Lib.hid (fun s l W a h0 h1 l0 l1 => implNextOf_any m s l nv ev W a hk h0 h1 l0 l1)
  have M0 := Lib.hid (MachBox.new (st := m.st) 26 h1 h2)
  have q0 : Hid (Below w.heap.size w (w.alloc (.cells #[.int .i64 m.st, nv, ev] 26))) := Lib.hid ((Below.refl _ _).alloc (Nat.le_refl _) _)
  clear hsh h2 hk h1
  rw [HSTN.out] at M0 q0 HNX ⊢
  have y0 := M0.out.c0
  have y1 := M0.out.c1
  have y2 := M0.out.c2
  have hsz0 : (w.alloc (.cells #[.int .i64 (m.ends.length : Int), nv, ev] 26)).heap.size = w.heap.size + 1 := by simp
  go_enter Try.func101, Try.ntmps101
  go_upto_region 1 with fail
  generalize hW0 : (w.alloc (.cells #[.int .i64 (m.ends.length : Int), nv, ev] 26)) = W0 at *
  generalize hR : w.heap.size = R at *
  have HW0 := Lib.hid hW0
  have HR := Lib.hid hR
  have HSZ := Lib.hid hsz0
  clear hW0 hR hsz0
  go_wp2_with (at_make; refine wpList_make_full _ rfl _ _ 99 rfl W0.heap.size 23 s0 (.slice none 0 0) 1 Try.underlying99 HS.out.1 HS.out.2.1 HS.out.2.2.1 .i64 .i64 _ _ m.ends.length rfl rfl rfl rfl HS.out.2.2.2 (by unfold maxLen; omega) (Nat.le_refl _) ?_; intro w1 hown1 hgrow1; have z1 := hgrow1.cell y0 (by simp))
  rw [made_nils] at hown1
  have B0 := Lib.hid (bk_start W0 m.ends.length hown1 hgrow1)
  clear hown1 hgrow1 y0 y1 y2 z1
  generalize hgo : W0.heap.size = go at *
  clear hgo
  go_loopw [4, 5, 6, 12] (fun _ _ _ iv wr => ∃ (k : Nat) (ki : Int) (ps : List (Value × List Int)), ki = (k : Int) ∧ k ≤ m.ends.length ∧ iv = .int .i64 ki ∧ ps.length = m.ends.length ∧ DoneTo m.steps m.ends.length k ps ∧ Bk W0 (.slice (some ⟨go, 0, none⟩) m.ends.length m.ends.length) ps [] wr) (fun _ _ _ iv _ => m.ends.length - (intOf iv).toNat)
  case atStart => exact ⟨0, 0, _, rfl, Nat.zero_le _, rfl, List.length_replicate, fun j _ hj => absurd hj (Nat.not_lt_zero j), B0.out⟩
  case round =>
    obtain ⟨k, ki, ps, hki, hkn, rfl, hpl, hrows, hB⟩ := hrel
    have B1 := Lib.hid hB
    have HPL := Lib.hid hpl
    have HRW := Lib.hid hrows
    have HKI := Lib.hid hki
    have M1 := Lib.hid (M0.out.below hB.keep)
    have y0 := M1.out.c0
    have hq : IntKind.i64.wrap (ki + 1) = ki + 1 := IntWalk.i64_in _ (by omega)
    clear hB hrows hpl
    by_cases hlt : k < m.ends.length
    · have hltI : ki < (m.ends.length : Int) := by omega
      have hk0 : 0 ≤ ki := by omega
      have hkt : ki.toNat = k := by omega
      clear hki
      go_wp2_with (at_make; refine wpList_make_full _ rfl _ _ 23 rfl wr.heap.size 3 i0 (.int .i64 0) 1 Try.underlying23 HI.out.1 HI.out.2.1 HI.out.2.2.1 .i64 .i64 _ _ m.ends.length rfl rfl rfl rfl HI.out.2.2.2 (by unfold maxLen; omega) (Nat.le_refl _) ?_; intro w1 hown1 hgrow1; have B2 := Lib.hid (B1.out.made (p := (.slice (some ⟨wr.heap.size, 0, none⟩) m.ends.length m.ends.length, rowF (m.stepsTo 0 k) m.ends.length)) hgrow1 (made_part hown1 rfl) (fun j e => by cases e; exact Nat.le_refl _)); obtain ⟨⟨uO, cO⟩, fO⟩ := bk_cell B2.out (by rw [HPL.out]; exact hlt); clear hown1 hgrow1 y0)
      have F0 := Lib.hid (Fill.start HPL.out HRW.out B2.out hlt)
      clear B2 cO fO
      generalize wr.heap.size = gr at *
      go_loopw [5, 6, 21] (fun _ _ lv wr2 => ∃ (l : Nat) (li : Int), li = (l : Int) ∧ l ≤ 3 ∧ lv = .int .i64 li ∧ Fill W0 go m.ends.length k m.steps gr (m.stepsTo l k) wr2) (fun _ _ lv _ => 3 - (intOf lv).toNat)
      case atStart => exact ⟨0, 0, rfl, by omega, rfl, F0.out⟩
      case round =>
        obtain ⟨l, li, hli, hl3, rfl, hF⟩ := hrel
        have F1 := Lib.hid hF
        have HLI := Lib.hid hli
        have M3 := Lib.hid (M0.out.below hF.keep)
        have y0 := M3.out.c0
        have y1 := M3.out.c1
        have y2 := M3.out.c2
        clear hF
        have hq2 : IntKind.i64.wrap (li + 1) = li + 1 := IntWalk.i64_in _ (by omega)
        by_cases hl : l < 3
        · have hlI : li < 3 := by omega
          have HC := Lib.hid (HNX.out ki li wr M3.out.ints (by omega) hltI (by omega) (by omega))
          have hnb := M.nx_bd HK.out ki li (by rw [HSTN.out]; exact hltI) (by omega) (by omega)
          rw [HSTN.out] at hnb
          have HN := Lib.hid (show m.nx (k : Int) (l : Int) = m.nx ki li by rw [← HKI.out, ← HLI.out])
          clear hli
          generalize m.nx ki li = d at *
          by_cases hd : 0 ≤ d
          · obtain ⟨t, rfl⟩ := Int.eq_ofNat_of_zero_le hd
            have htn : t < m.ends.length := by omega
            have htd : (t : Int) < (m.ends.length : Int) := by omega
            have htm : ((t : Int) != -1) = true := by simp
            have HST := Lib.hid (steps_more m m.ends.length l k t htn HN.out)
            have hbd := stepsTo_bd m l k t
            have hq5 : IntKind.i64.wrap (m.stepsTo l k t + 1) = m.stepsTo l k t + 1 := IntWalk.i64_in _ (by omega)
            have HSS := Lib.hid (fun W (h : Fill W0 go m.ends.length k m.steps gr (m.stepsTo l k) W) => h.store t (m.stepsTo l k t + 1) HST.out)
            clear hbd
            go_wp2_with fail
            refine HC.out.mono ?_
            rintro e w3 ⟨rfl, hb3⟩
            have F3 := Lib.hid (F1.out.same (grown_below hb3))
            obtain ⟨c1, c2⟩ := F3.out.cells hlt
            have c3 := (c2 t htn).1
            have c4 := (c2 t htn).2
            have F4 := Lib.hid (HSS.out _ F3.out)
            generalize m.stepsTo l k t = z at *
            clear hb3 c2 y0 y1 y2
            go_wp2_with fail
            go_roundw
            case rel => exact ⟨l + 1, li + 1, by have := HLI.out; omega, by omega, by first | rfl | rw [hq2], F4.out⟩
            case measure => simp [intOf]; have := HLI.out; omega
          · have HST := Lib.hid (steps_same m m.ends.length l k (by rw [HN.out]; omega))
            obtain rfl : d = -1 := by omega
            clear hd
            go_wp2_with fail
            refine HC.out.mono ?_
            rintro e w3 ⟨rfl, hb3⟩
            have F3 := Lib.hid ((F1.out.same (grown_below hb3)).congr HST.out)
            clear hb3 y0 y1 y2
            go_wp2_with fail
            go_roundw
            case rel => exact ⟨l + 1, li + 1, by have := HLI.out; omega, by omega, by first | rfl | rw [hq2], F3.out⟩
            case measure => simp [intOf]; have := HLI.out; omega
        · obtain rfl : l = 3 := by omega
          have hnl : ¬ li < 3 := by omega
          obtain ⟨ps2, d1, d2, d3⟩ := F1.out.done (rowF_congr fun j _ => m.stepsTo_three k j)
          have D := Lib.hid (And.intro d1 (And.intro d2 d3))
          clear hli d1 d2 d3 y0 y1 y2
          go_wp2_with fail
          go_roundw
          case rel => exact ⟨k + 1, ki + 1, ps2, by have := HKI.out; omega, by omega, by first | rfl | rw [hq], D.out.1, D.out.2.1, D.out.2.2⟩
          case measure => simp [intOf]; have := HKI.out; omega
    · have hnlt : ¬ ki < (m.ends.length : Int) := by omega
      have hkn2 : k = m.ends.length := by omega
      clear hki
      go_wp2_with fail
      go_ret
      refine ⟨_, rfl, B1.out.mat HPL.out hn1 (fun j hj => HRW.out j hj (by rw [hkn2, ← HPL.out]; exact hj)), ?_⟩
      have hb := B1.out.keep
      rw [← HW0.out, ← HR.out] at *
      exact ((Below.refl w.heap.size w).alloc (Nat.le_refl _) _).trans (hb.mono (by simp))
end Go.Proofs.Ytpcependeealfaa
