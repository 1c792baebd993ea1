/- The program's ShortestTaken: the search for the shortest word. No condition. -/
import Derived.Test.YtdgpemjbaciiaaaShort
import Derived.Test.YtdgpemjbaciiaaaTakes
import Derived.Test.YtdgpemjbaciiaaaApart
import Derived.Test.YtdgpemjbaciiaaaQueue
import Derived.Deep.AppendLies
import Derived.Deep.RegionLaw
namespace Go.Proofs.Ytdgpemjbaciiaaa
open Go.RowKit Go.Maps

theorem rdnS_cut : ∀ l, l < 3 → ((⟨#[114, 100, 110]⟩ : ByteArray).extract l (l + 1)).data.toList = [byteOf l]
  | 0, _ => by kernel_rfl
  | 1, _ => by kernel_rfl
  | 2, _ => by kernel_rfl
theorem rdnS_at (l : Nat) (hl : l < 3) (w : World) : (Instr.slice 9 (.string ⟨#[114, 100, 110]⟩) (some (.int .i64 (l : Int))) (some (.int .i64 ((l : Int) + 1))) none).run Try.prog w = .ok (.string (letS l)) w := by
  have hs : (⟨#[114, 100, 110]⟩ : ByteArray).size = 3 := by kernel_rfl
  have h := slice_one ⟨#[114, 100, 110]⟩ l (by omega) w
  have e : (⟨#[114, 100, 110]⟩ : ByteArray).extract l (l + 1) = letS l := bytes_ext (rdnS_cut l hl)
  rw [e] at h; exact h
theorem cell_newS (w : World) (u : Value) (t : TypeId) : ∀ j x, [u][j]? = some x → (w.alloc (.cells #[u] t)).cell? ((⟨w.heap.size, 0, none⟩ : Addr).add j) = some x := by
  intro j x hx
  rw [show (⟨w.heap.size, 0, none⟩ : Addr).add j = ⟨w.heap.size, j, none⟩ by unfold Addr.add; split <;> simp_all, World.cell?_alloc_new]
  simpa using hx
theorem infoStrS : (Try.prog.info? 9).map (fun i => (i.zero, i.size, i.bytes)) = some (some (.string ⟨#[]⟩), 1, 16) := by kernel_rfl
theorem infoBoolS : (Try.prog.info? 4).map (fun i => (i.zero, i.size, i.bytes)) = some (some (.bool false), 1, 1) := by kernel_rfl
/-- what lies in memory while the word is searched: which states are come to, and the queue of words -/
structure ShF (wB : World) (N gc : Nat) (bs : List Bool) (q : List SW) (qv : Value) (w : World) : Prop where
  keep : Below wB.heap.size wB w
  ap : Apart wB.heap.size [rowT 4 1 (.slice (some ⟨gc, 0, none⟩) N N) N (bs.map Value.bool), rowT 9 1 qv q.length (q.map fun x => Value.string x.2)] w
section
variable {wB : World} {N gc : Nat} {bs : List Bool} {q : List SW} {qv : Value} {w w' : World}
theorem ShF.size (h : ShF wB N gc bs q qv w) : wB.heap.size ≤ w.heap.size := h.keep.size
theorem ShF.below (h : ShF wB N gc bs q qv w) (hb : Below w.heap.size w w') : ShF wB N gc bs q qv w' := ⟨h.keep.trans (hb.mono h.size), h.ap.below hb⟩
theorem ShF.same (h : ShF wB N gc bs q qv w) (hg : w.grownBy w' none) : ShF wB N gc bs q qv w' := ⟨h.keep.grown hg h.size (fun _ e => by cases e), h.ap.same hg⟩
theorem ShF.rowC (h : ShF wB N gc bs q qv w) : w.ownsRow 0 4 1 (.slice (some ⟨gc, 0, none⟩) N N) N (bs.map Value.bool) := h.ap.at 0 (by simp)
theorem ShF.rowQ (h : ShF wB N gc bs q qv w) : w.ownsRow 0 9 1 qv q.length (q.map fun x => Value.string x.2) := h.ap.at 1 (by simp)
theorem ShF.set (h : ShF wB N gc bs q qv w) (s : Nat) : ShF wB N gc (bs.set s true) q qv (w.setCell ⟨gc, s, none⟩ (.bool true)) := by
  have h1 := (h.ap.lt gc rfl).1
  have h2 := h.ap.setRow h.size s (.bool true)
  rw [← List.map_set] at h2
  exact ⟨h.keep.setCell (p := ⟨gc, s, none⟩) h1 _, h2⟩
theorem ShF.push {x : SW} {t : TypeId} {g cp : Nat} {w1 : World} (h : ShF wB N gc bs q qv w) (hg : (w.alloc (.cells #[.string x.2] t)).grownBy w1 qv.ownBlock)
    (ho : w1.ownsRow 0 9 1 (.slice (some ⟨g, 0, none⟩) (q.length + 1) cp) (q.length + 1) ((q.map fun x => Value.string x.2) ++ [.string x.2])) (hat : qv.ownBlock = some g ∨ g = (w.alloc (.cells #[.string x.2] t)).heap.size) :
    ShF wB N gc bs (q ++ [x]) (.slice (some ⟨g, 0, none⟩) (q.length + 1) cp) w1 := by
  have h1 := h.same (World.grownBy_alloc w (.cells #[.string x.2] t) none)
  have hlt := h1.ap.ltAt 1 (by simp)
  have a1 := h1.ap.turnAt 1 (by simp) hg (rowT 9 1 (.slice (some ⟨g, 0, none⟩) (q.length + 1) cp) (q ++ [x]).length ((q ++ [x]).map fun x => Value.string x.2))
    (by show w1.ownsRow 0 _ _ _ _ _; rw [List.length_append, List.map_append]; exact ho) h1.size
    (fun j e => ⟨by cases e; exact hat.imp id (fun e => Nat.le_of_eq e.symm), (World.ownsRow.lt ho j e).2⟩)
  exact ⟨h1.keep.grown hg h1.size (fun j e => (hlt j e).1), a1⟩
theorem ShF.word {gq cp : Nat} (h : ShF wB N gc bs q (.slice (some ⟨gq, 0, none⟩) q.length cp) w) (k : Nat) (hk : k < q.length) : w.cell? ⟨gq, k, none⟩ = some (.string q[k].2) := by
  rw [h.rowQ.cellAt k (by omega)]; simp [hk]
theorem ShF.comeC (h : ShF wB N gc bs q qv w) (s : Nat) (hs : s < bs.length) (hN : bs.length = N) : w.cell? ⟨gc, s, none⟩ = some (.bool bs[s]) := by
  rw [h.rowC.cellAt s (by omega)]; simp [hs]
theorem ShF.froz (h : ShF wB N gc bs q qv w) (s : Nat) : w.frozen? ⟨gc, s, none⟩ = false := h.rowC.frozenAt s
end
/-- the two rows just made -/
theorem ShF.start {wB w1 w3 : World} {N : Nat} (hK : Below wB.heap.size wB w1) (hg : (w1.alloc (.cells #[.string ⟨#[]⟩] 9)).grownBy w3 none)
    (ho : w3.ownsRow (w1.heap.size + 1) 4 1 (.slice (some ⟨w1.heap.size + 1, 0, none⟩) N N) N (madeCells (Value.bool false).cells (N * 1)).toList) :
    ShF wB N (w1.heap.size + 1) (List.replicate N false) [(0, ⟨#[]⟩)] (.slice (some ⟨w1.heap.size, 0, none⟩) 1 1) w3 := by
  have e : (madeCells (Value.bool false).cells (N * 1)).toList = (List.replicate N false).map Value.bool := by
    rw [Nat.mul_one, List.map_replicate]; exact toList_madeCells_one _ _
  rw [e] at ho
  have hs := hK.size
  have A1 : Apart wB.heap.size [rowT 9 1 (.slice (some ⟨w1.heap.size, 0, none⟩) 1 1) 1 [Value.string ⟨#[]⟩]] (w1.alloc (.cells #[.string ⟨#[]⟩] 9)) :=
    (Apart.nil wB.heap.size w1).more (World.grownBy_alloc w1 _ none) _ (World.ownsRow_lit (base := 0) w1 #[.string ⟨#[]⟩] 1 (Nat.zero_le _) (by decide) (by simp)) hs (fun k e => by
      have : k = w1.heap.size := by simpa [rowT, Value.ownBlock] using e.symm
      subst this; exact ⟨Nat.le_refl _, by simp⟩)
  have A2 := A1.more hg (rowT 4 1 (.slice (some ⟨w1.heap.size + 1, 0, none⟩) N N) N ((List.replicate N false).map Value.bool)) (ownsRow_base ho (fun _ _ => Nat.zero_le _)) (by rw [World.size_alloc]; omega) (fun k e => by
      have hk : k = w1.heap.size + 1 := by simpa [rowT, Value.ownBlock] using e.symm
      subst hk
      exact ⟨by simp, (World.ownsRow.lt ho _ rfl).2⟩)
  refine ⟨?_, A2⟩
  have hal : Below wB.heap.size wB (w1.alloc (.cells #[.string ⟨#[]⟩] 9)) := hK.alloc hs _
  exact hal.grown hg (by rw [World.size_alloc]; omega) (fun _ e => by cases e)
def comeL (N : Nat) (q : List SW) : List Bool := (List.range N).map fun (s : Nat) => decide ((s : Int) ∈ q.map Prod.fst)
theorem comeL_length (N : Nat) (q : List SW) : (comeL N q).length = N := by simp [comeL]
theorem comeL_at {N : Nat} (q : List SW) {s : Nat} (h : s < N) : (comeL N q)[s]'(by rw [comeL_length]; exact h) = decide ((s : Int) ∈ q.map Prod.fst) := by simp [comeL]
theorem comeL_set (N : Nat) (q : List SW) (s : Nat) (x : ByteArray) : (comeL N q).set s true = comeL N (q ++ [((s : Int), x)]) := by
  apply List.ext_getElem
  · simp [comeL_length]
  · intro i h1 h2
    rw [comeL_length] at h2
    rw [List.getElem_set, comeL_at _ h2]
    by_cases e : s = i
    · subst e; rw [if_pos rfl, comeL_at _ h2]; simp
    · rw [if_neg e, comeL_at _ h2]
      have : ¬ ((i : Int) = (s : Int)) := by omega
      simp [this]
theorem comeL_zero (N : Nat) : (List.replicate N false).set 0 true = comeL N [(0, ⟨#[]⟩)] := by
  have := comeL_set N [] 0 ⟨#[]⟩
  rw [List.nil_append] at this
  rw [← show comeL N [] = List.replicate N false from by
    apply List.ext_getElem
    · simp [comeL_length]
    · intro i h1 h2; rw [comeL_length] at h1; rw [comeL_at _ h1]; simp]
  exact this

set_option maxHeartbeats 6400000 in
set_option maxRecDepth 100000 in
theorem implShort_any (N : Nat) (xs : List Int) (es : List Bool) (nv ev : Value) (w : World) (h1 : IsInts w nv xs) (h2 : IsBools w ev es) (hok : (M.mk N xs es).ok = true) :
    Calls Try.prog 33 #[.agg #[.int .i64 (N : Int), nv, ev]] w
      fun e w' => (∃ r : Option ByteArray, IsShort ⟨N, xs, es⟩ r ∧ e = .returned (.tuple #[.string (r.getD ⟨#[]⟩), .bool r.isSome])) ∧ Below w.heap.size w w' := by
  obtain ⟨s0, s1, s2, s3⟩ := M.ok_shape hok
  simp only at s0 s1 s2 s3
  have hst : (Lit.int .i64 (N : Int)).wf = true := WalkArith.wf_i64 (by show _ ∧ _; omega)
  have HOK : Hid (∀ W, IsInts W nv xs → IsBools W ev es → Calls Try.prog 44 #[.agg #[.int .i64 (N : Int), nv, ev]] W fun e w' => e = .returned (.bool true) ∧ Below W.heap.size W w') := Lib.hid (fun W a b => by
    have := implMachineOk_any ⟨N, xs, es⟩ nv ev W a b hst
    rwa [hok] at this)
  have H1 := Lib.hid h1
  have H2 := Lib.hid h2
  obtain ⟨a1, n1, c1, rfl⟩ := h1.slice
  obtain ⟨a2, n2, c2, rfl⟩ := h2.slice
  obtain ⟨i0, hi, hz0, hz1, hz2⟩ := info_parts infoBoolS
  have hsz : i0.bytes * N ≤ 281474976710656 := by rw [hz2]; omega
  have HI := Lib.hid hi
  have HZ0 := Lib.hid hz0
  have HZ1 := Lib.hid hz1
  have HSZ := Lib.hid hsz
  obtain ⟨j0, hj, hy0, hy1, hy2⟩ := info_parts infoStrS
  have HJ := Lib.hid (And.intro hj (And.intro hy0 (And.intro hy1 hy2)))
  clear hj hy0 hy1 hy2
  have HS2 := Lib.hid s2
  have HS3 := Lib.hid s3
  clear h1 h2 hi hz0 hz1 hz2 hsz s2 s3
  have hB := MachBox.new (st := (N : Int)) 27 H1.out H2.out
  have q0 := Lib.hid ((Below.refl w.heap.size w).alloc (Nat.le_refl _) (.cells #[.int .i64 (N : Int), .slice a1 n1 c1, .slice a2 n2 c2] 27))
  have hse : (w.alloc (.cells #[.int .i64 (N : Int), .slice a1 n1 c1, .slice a2 n2 c2] 27)).heap.size = w.heap.size + 1 := by simp
  have HSE := Lib.hid hse
  have MB := Lib.hid hB
  clear hB hse
  go_enter Try.func33, Try.ntmps33
  go_wp2_with fail
  generalize hWB : w.alloc (.cells #[.int .i64 (N : Int), .slice a1 n1 c1, .slice a2 n2 c2] 27) = wB at *
  clear hWB
  refine (HOK.out _ MB.out.ints MB.out.bools).mono ?_
  rintro e w1 ⟨rfl, hb1⟩
  have hal : Below w1.heap.size w1 (w1.alloc (.cells #[.string ⟨#[]⟩] 9)) := (Below.refl _ _).alloc (Nat.le_refl _) _
  have M1 := Lib.hid ((MB.out.below hb1).below hal)
  have K1 := Lib.hid hb1
  have K2 := Lib.hid (hb1.trans (hal.mono hb1.size))
  clear hb1 hal
  have y0 := M1.out.c0
  have hm : N ≤ maxLen := by unfold maxLen; omega
  have hb4 : w1.heap.size + 1 ≤ (w1.alloc (.cells #[.string ⟨#[]⟩] 9)).heap.size := by simp
  have HM := Lib.hid hm
  have HB4 := Lib.hid hb4
  have HN0 := Lib.hid (show 0 < N by omega)
  clear hm hb4
  go_wp2_with (at_make; refine wpList_make_full _ rfl _ _ 23 rfl (w1.heap.size + 1) 4 i0 (.bool false) 1 Try.underlying23 HI.out HZ0.out HZ1.out .i64 .i64 _ _ N rfl rfl rfl rfl HSZ.out HM.out HB4.out ?_; intro w3 hown3 hgrow3; rw [World.size_alloc] at hown3; have F0 := Lib.hid (ShF.start K1.out hgrow3 hown3); clear hown3 hgrow3; have x0 := F0.out.comeC 0 (by rw [List.length_replicate]; exact HN0.out) List.length_replicate; have f0 := F0.out.froz 0)
  have F1 := Lib.hid (F0.out.set 0)
  rw [comeL_zero] at F1
  clear x0 f0 F0 y0 M1 K1 K2
  have HTO := Lib.hid (Sh.to hok)
  have HTK : Hid (∀ (W : World) (n : Nat) (hn : n < (shTo ⟨N, xs, es⟩ n).length), IsInts W (.slice a1 n1 c1) xs → IsBools W (.slice a2 n2 c2) es → Calls Try.prog 35 #[.agg #[.int .i64 (N : Int), .slice a1 n1 c1, .slice a2 n2 c2], .string (shTo ⟨N, xs, es⟩ n)[n].2] W fun e w' => e = .returned (.bool ((M.mk N xs es).endAt (shTo ⟨N, xs, es⟩ n)[n].1)) ∧ Below W.heap.size W w') := Lib.hid (fun W n hn hi hb => by
    have hx := (Sh.to hok n).all _ (List.getElem_mem hn)
    have h14 : (shTo ⟨N, xs, es⟩ n)[n].2.size ≤ 14 := by have := hx.ok; simp only [wordOk, Bool.and_eq_true, decide_eq_true_eq] at this; exact this.2
    have := implTakesOk_any ⟨N, xs, es⟩ (shTo ⟨N, xs, es⟩ n)[n].2 _ _ W hi hb hst (by unfold maxLen; omega)
    rwa [M.takes, M.after_yes hok hx.ok, hx.go] at this)
  go_loopw [4, 6] (fun qv i wr => ∃ (n gq cp : Nat), i = .int .i64 (n : Int) ∧ qv = .slice (some ⟨gq, 0, none⟩) (shTo ⟨N, xs, es⟩ n).length cp ∧ n ≤ (shTo ⟨N, xs, es⟩ n).length ∧ ShF wB N (w1.heap.size + 1) (comeL N (shTo ⟨N, xs, es⟩ n)) (shTo ⟨N, xs, es⟩ n) (.slice (some ⟨gq, 0, none⟩) (shTo ⟨N, xs, es⟩ n).length cp) wr ∧ ∀ j, j < n → j < (shTo ⟨N, xs, es⟩ j).length ∧ hitAt ⟨N, xs, es⟩ j = none) (fun _ i _ => 48 - (intOf i).toNat)
  case atStart => exact ⟨0, w1.heap.size, 1, rfl, rfl, Nat.zero_le _, F1.out, fun j h => absurd h (Nat.not_lt_zero j)⟩
  case round =>
    obtain ⟨n, gq, cp, rfl, rfl, hn, hF, hno⟩ := hrel
    have hq48 := (HTO.out n).len hok
    have HNO := Lib.hid hno
    have FF := Lib.hid hF
    clear hno hF
    by_cases hlt : n < (shTo ⟨N, xs, es⟩ n).length
    · have hword := FF.out.word n hlt
      have MM := Lib.hid (MB.out.below FF.out.keep)
      have m0 := MM.out.c0
      have m1 := MM.out.c1
      have m2 := MM.out.c2
      have HTN := Lib.hid (fun W => HTK.out W n hlt)
      have HSTEP := Lib.hid (shTo_step hlt)
      have HX := Lib.hid ((HTO.out n).all _ (List.getElem_mem hlt))
      generalize hxx : (shTo ⟨N, xs, es⟩ n)[n] = x at *
      have HXX := Lib.hid hxx
      clear hxx
      obtain ⟨xs1, xw⟩ := x
      simp only at hword HTN
      have HYES : Hid ((M.mk N xs es).endAt xs1 = true → hitAt ⟨N, xs, es⟩ n = some xw) := Lib.hid (fun h => by
        have := hitAt_yes hlt (by rw [HXX.out]; exact h)
        rw [HXX.out] at this; exact this)
      have HNOT : Hid ((M.mk N xs es).endAt xs1 = false → hitAt ⟨N, xs, es⟩ n = none) := Lib.hid (fun h => hitAt_no hlt (by rw [HXX.out]; exact h))
      generalize hee : (M.mk N xs es).endAt xs1 = ee at *
      have HEE := Lib.hid hee
      clear hee
      go_wp2_with fail
      go_region_with (go_at_call 35; refine (HTN.out _ (MM.out.ints.below (Below.refl _ _).drew) (MM.out.bools.below (Below.refl _ _).drew)).mono ?_; rintro e w4 ⟨rfl, hb4⟩)
      all_goals
        have F4 := Lib.hid ((FF.out.same (grown_drew _ none)).below hb4)
        have Q4 := Lib.hid (q0.out.trans (F4.out.keep.mono q0.out.size))
        clear m0 m1 m2 hword hb4
        have hword : w4.cell? ⟨gq, n, none⟩ = some (.string xw) := by have := F4.out.word n hlt; rw [HXX.out] at this; exact this
        cases ee with
        | true =>
          go_wp2_with fail
          go_ret2
          exact ⟨⟨some xw, ⟨n, HNO.out, .inl ⟨xw, HYES.out (by trivial), rfl⟩⟩, rfl⟩, Q4.out⟩
        | false =>
          clear hword
          go_wp2_with fail
          go_loopw [4, 35] (fun qv i wr2 => ∃ (l g2 cp2 : Nat), l ≤ 3 ∧ i = .int .i64 (l : Int) ∧ qv = .slice (some ⟨g2, 0, none⟩) (shL (M.mk N xs es) (xs1, xw) (shTo (M.mk N xs es) n) l).length cp2 ∧ ShF wB N (w1.heap.size + 1) (comeL N (shL (M.mk N xs es) (xs1, xw) (shTo (M.mk N xs es) n) l)) (shL (M.mk N xs es) (xs1, xw) (shTo (M.mk N xs es) n) l) (.slice (some ⟨g2, 0, none⟩) (shL (M.mk N xs es) (xs1, xw) (shTo (M.mk N xs es) n) l).length cp2) wr2) (fun _ i _ => 3 - (intOf i).toNat)
          case atStart => exact ⟨0, gq, cp, by omega, rfl, rfl, F4.out⟩
          case round =>
            obtain ⟨l, g2, cp2, hl, rfl, rfl, hF2⟩ := hrel
            have F6 := Lib.hid hF2
            clear hF2
            by_cases hl3 : l < 3
            · have SHL := Lib.hid ((HTO.out n).many hok HX.out l hl)
              have hq6 := SHL.out.len hok
              have hpre := shL_prefix (M.mk N xs es) (xs1, xw) (shTo (M.mk N xs es) n) l
              have hn6 : n < (shL (M.mk N xs es) (xs1, xw) (shTo (M.mk N xs es) n) l).length := Nat.lt_of_lt_of_le hlt hpre.length_le
              have hx6 : (shL (M.mk N xs es) (xs1, xw) (shTo (M.mk N xs es) n) l)[n] = (xs1, xw) := by rw [← hpre.getElem hlt]; exact HXX.out
              have hword : wr.cell? ⟨g2, n, none⟩ = some (.string xw) := by have := F6.out.word n hn6; rw [hx6] at this; exact this
              have HST : Hid (shL (M.mk N xs es) (xs1, xw) (shTo (M.mk N xs es) n) (l + 1) = sh1 (M.mk N xs es) (xs1, xw) (shL (M.mk N xs es) (xs1, xw) (shTo (M.mk N xs es) n) l) l) := Lib.hid rfl
              have h14 : xw.size ≤ 14 := by have := HX.out.ok; simp only [wordOk, Bool.and_eq_true, decide_eq_true_eq] at this; exact this.2
              have hls : (letS l).size = 1 := rfl
              have hva : (xw.size < 14 → (M.mk N xs es).after (xw ++ letS l) = (M.mk N xs es).nx xs1 l) ∧ (¬ xw.size < 14 → (M.mk N xs es).after (xw ++ letS l) = -2) :=
                ⟨fun h => by rw [M.after_yes hok (wordOk_more HX.out.ok h l hl3), goes_more _ _ l hl3, HX.out.go], fun h => M.after_now _ (wordOk_full h l)⟩
              have HSA : Hid (∀ W, IsInts W (.slice a1 n1 c1) xs → IsBools W (.slice a2 n2 c2) es → Calls Try.prog 78 #[.agg #[.int .i64 (N : Int), .slice a1 n1 c1, .slice a2 n2 c2], .string (xw ++ letS l)] W fun e w' => e = .returned (.int .i64 ((M.mk N xs es).after (xw ++ letS l))) ∧ Below W.heap.size W w') := Lib.hid (fun W a b => implStateAfter_any (M.mk N xs es) (xw ++ letS l) _ _ W a b hst (by unfold maxLen; rw [ByteArray.size_append]; omega))
              generalize (M.mk N xs es).after (xw ++ letS l) = v at *
              have HV := Lib.hid hva
              have hsl := fun W => rdnS_at l hl3 W
              have hwr : IntKind.i64.wrap ((l : Int) + 1) = (l : Int) + 1 := IntWalk.i64_in _ (by omega)
              clear hva hpre hx6
              generalize shL (M.mk N xs es) (xs1, xw) (shTo (M.mk N xs es) n) l = q at *
              have MM6 := Lib.hid (MB.out.below F6.out.keep)
              have m0 := MM6.out.c0
              have m1 := MM6.out.c1
              have m2 := MM6.out.c2
              go_wp2_with fail
              go_quiet (fail)
              go_wp2_with fail
              refine (HSA.out _ (MM6.out.ints.below (below_drewN (Below.refl _ _) _)) (MM6.out.bools.below (below_drewN (Below.refl _ _) _))).mono ?_
              rintro e w5 ⟨rfl, hb5⟩
              have F7 := Lib.hid ((F6.out.same (grown_drewN _ _ none)).below hb5)
              clear m0 m1 m2 hword hsl hb5
              by_cases hv : v < 0
              · have hs1 : sh1 (M.mk N xs es) (xs1, xw) q l = q := by
                  unfold sh1
                  rw [if_neg]
                  rintro ⟨d1, d2, -⟩
                  have := HV.out.1 d1
                  simp only at d1 d2
                  omega
                have HS1 := Lib.hid hs1
                clear hs1
                go_wp2_with fail
                go_roundw
                case rel => exact ⟨l + 1, g2, cp2, by omega, by go_num, by rw [HST.out, HS1.out], by rw [HST.out, HS1.out]; exact F7.out⟩
                case measure => simp [intOf]; omega
              · obtain ⟨k, rfl⟩ := Int.eq_ofNat_of_zero_le (show 0 ≤ v by omega)
                have hsz : xw.size < 14 := by
                  rcases Nat.lt_or_ge xw.size 14 with h | h
                  · exact h
                  · have := HV.out.2 (by omega); omega
                have hnx : (M.mk N xs es).nx xs1 l = (k : Int) := (HV.out.1 hsz).symm
                have hkN : k < N := by
                  have := (M.nx_bd hok xs1 l HX.out.s1 (by omega) (by omega)).2
                  rw [hnx] at this
                  simp only at this
                  omega
                have HNX := Lib.hid hnx
                clear hnx hv
                have hcc := F7.out.comeC k (by rw [comeL_length]; exact hkN) (comeL_length N q)
                rw [comeL_at q hkN] at hcc
                by_cases hin : (k : Int) ∈ q.map Prod.fst
                · have hs1 : sh1 (M.mk N xs es) (xs1, xw) q l = q := by
                    unfold sh1
                    rw [if_neg]
                    rintro ⟨-, -, d3⟩
                    simp only at d3
                    rw [HNX.out] at d3
                    exact d3 hin
                  have HS1 := Lib.hid hs1
                  rw [decide_eq_true hin] at hcc
                  clear hs1 hin
                  go_wp2_with fail
                  go_roundw
                  case rel => exact ⟨l + 1, g2, cp2, by omega, by go_num, by rw [HST.out, HS1.out], by rw [HST.out, HS1.out]; exact F7.out⟩
                  case measure => simp [intOf]; omega
                · have hs1 : sh1 (M.mk N xs es) (xs1, xw) q l = q ++ [((k : Int), xw ++ letS l)] := by
                    unfold sh1
                    simp only
                    rw [if_pos ⟨hsz, by rw [HNX.out]; omega, by rw [HNX.out]; exact hin⟩, HNX.out]
                  have HS1 := Lib.hid hs1
                  rw [decide_eq_false hin] at hcc
                  have ff := F7.out.froz k
                  have F8 := Lib.hid (F7.out.set k)
                  rw [comeL_set N q k (xw ++ letS l)] at F8
                  have hnews : ∀ j u, [Value.string (xw ++ letS l)][j]? = some u → ((w5.setCell ⟨w1.heap.size + 1, k, none⟩ (.bool true)).alloc (.cells #[.string (xw ++ letS l)] 9)).cell? ((⟨w5.heap.size, 0, none⟩ : Addr).add j) = some u := by
                    have := cell_newS (w5.setCell ⟨w1.heap.size + 1, k, none⟩ (.bool true)) (.string (xw ++ letS l)) 9
                    simpa using this
                  have HNEWS := Lib.hid hnews
                  have HA1 := Lib.hid (show q.length + 1 ≤ maxLen by unfold maxLen; omega)
                  have HA2 := Lib.hid (show (q.length + 1) * 16 ≤ 140737488355328 by omega)
                  clear hs1 hin hnews
                  go_wp2_with (at_builtin; refine wpList_append_lies _ rfl _ _ 69 rfl 0 9 j0 (.string ⟨#[]⟩) 1 16 Try.underlying69 HJ.out.1 HJ.out.2.1 HJ.out.2.2.1 HJ.out.2.2.2 rfl (by decide) (.slice (some ⟨g2, 0, none⟩) q.length cp2) q.length (q.map fun x => Value.string x.2) rfl (F8.out.rowQ.alloc _) ⟨w5.heap.size, 0, none⟩ 1 1 [.string (xw ++ letS l)] rfl rfl HNEWS.out (by simp [Value.oneCell']) (by omega) HA1.out HA2.out (Nat.zero_le _) _ rfl ?_; intro g3 cp3 w6 hown hgrow hat hlt3; have F9 := Lib.hid (F8.out.push (x := ((k : Int), xw ++ letS l)) hgrow hown hat); clear hown hgrow hat hlt3)
                  go_roundw
                  case rel => exact ⟨l + 1, g3, cp3, by omega, by go_num, by rw [HST.out, HS1.out, List.length_append]; rfl, by rw [HST.out, HS1.out, List.length_append]; exact F9.out⟩
                  case measure => simp [intOf]; omega
            · obtain rfl : l = 3 := by omega
              have Q6 := Lib.hid (q0.out.trans (F6.out.keep.mono q0.out.size))
              have hn7 : n + 1 ≤ (shL (M.mk N xs es) (xs1, xw) (shTo (M.mk N xs es) n) 3).length := Nat.lt_of_lt_of_le hlt (shL_prefix (M.mk N xs es) (xs1, xw) (shTo (M.mk N xs es) n) 3).length_le
              have HN7 := Lib.hid hn7
              clear hn7
              go_wp2_with fail
              go_roundw
              case rel => exact ⟨n + 1, g2, cp2, by go_num, by rw [HSTEP.out], by rw [HSTEP.out]; exact HN7.out, by rw [HSTEP.out]; exact F6.out, fun j hj => by
                rcases Nat.lt_or_ge j n with h | h
                · exact HNO.out j h
                · obtain rfl : j = n := by omega
                  exact ⟨hlt, HNOT.out (by trivial)⟩⟩
              case measure => simp [intOf]; omega
    · obtain hn2 : n = (shTo (M.mk N xs es) n).length := by omega
      have hd : decide ((n : Int) < ((shTo (M.mk N xs es) n).length : Int)) = false := decide_eq_false (by omega)
      have Q4 := Lib.hid (q0.out.trans (FF.out.keep.mono q0.out.size))
      have HLE := Lib.hid (Nat.le_of_eq hn2.symm)
      clear hn2
      go_wp2_with fail
      go_ret2
      exact ⟨⟨none, ⟨n, HNO.out, .inr ⟨HLE.out, rfl⟩⟩, rfl⟩, Q4.out⟩
end Go.Proofs.Ytdgpemjbaciiaaa
