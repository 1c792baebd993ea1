/- The model's ShortestTaken: the search for the shortest word. No condition. -/
import Derived.Test.YtdgpemjbaciiaaaImplShort
import Derived.Deep.RegionLaw
namespace Go.Proofs.Ytdgpemjbaciiaaa
open Go.RowKit Go.Maps

def numsOf (q : List SW) : List Value := q.map fun x => Value.int .i64 x.1
def textsOf (q : List SW) : List Value := q.map fun x => Value.string x.2
theorem numsOf_at {q : List SW} {k : Nat} (h : k < q.length) : (numsOf q)[k]? = some (.int .i64 q[k].1) := by simp [numsOf, h]
theorem textsOf_at {q : List SW} {k : Nat} (h : k < q.length) : (textsOf q)[k]? = some (.string q[k].2) := by simp [textsOf, h]
theorem numsOf_more (q : List SW) (x : SW) : numsOf (q ++ [x]) = numsOf q ++ [.int .i64 x.1] := by simp [numsOf]
theorem textsOf_more (q : List SW) (x : SW) : textsOf (q ++ [x]) = textsOf q ++ [.string x.2] := by simp [textsOf]
theorem shL_full (m : M) (x : SW) (q : List SW) (h : ¬ x.2.size < 14) : ∀ l, shL m x q l = q
  | 0 => rfl
  | l + 1 => by rw [shL, shL_full m x q h l, sh1, if_neg (fun h2 => h h2.1)]
/-- whether a state is among the first ones of the queue -/
def seenTo (q : List SW) (u : Int) (k : Nat) : Bool := (q.take k).any fun x => x.1 == u
theorem seenTo_zero (q : List SW) (u : Int) : seenTo q u 0 = false := rfl
theorem seenTo_succ {q : List SW} (u : Int) {k : Nat} (h : k < q.length) : seenTo q u (k + 1) = (seenTo q u k || (q[k].1 == u)) := by
  rw [seenTo, seenTo, List.take_add_one, List.any_append]
  congr 1
  simp [h]
theorem seenTo_mono {q : List SW} {u : Int} {k : Nat} (h : seenTo q u k = true) : seenTo q u q.length = true := by
  simp only [seenTo, List.any_eq_true] at h ⊢
  obtain ⟨x, hx, he⟩ := h
  exact ⟨x, by rw [List.take_length]; exact List.mem_of_mem_take hx, he⟩
theorem seenTo_all (q : List SW) (u : Int) : seenTo q u q.length = decide (u ∈ q.map Prod.fst) := by
  rw [seenTo, List.take_length]
  by_cases h : u ∈ q.map Prod.fst
  · rw [decide_eq_true h]
    obtain ⟨x, hx, he⟩ := List.mem_map.1 h
    exact List.any_eq_true.2 ⟨x, hx, by simpa using he⟩
  · rw [decide_eq_false h]
    cases hq : q.any fun x => x.1 == u with
    | false => rfl
    | true =>
      obtain ⟨x, hx, he⟩ := List.any_eq_true.1 hq
      exact absurd (List.mem_map.2 ⟨x, hx, by simpa using he⟩) h
/-- what lies in memory while the word is searched by the model: the states and the words of the queue -/
structure ShS (wB : World) (ns : Nat) (vs : List Value) (sv : Value) (nw : Nat) (us : List Value) (qv : Value) (w : World) : Prop where
  keep : Below wB.heap.size wB w
  ap : Apart wB.heap.size [rowT 3 1 sv ns vs, rowT 9 1 qv nw us] w
section
variable {wB : World} {ns nw : Nat} {vs us : List Value} {sv qv : Value} {w w' : World}
theorem ShS.size (h : ShS wB ns vs sv nw us qv w) : wB.heap.size ≤ w.heap.size := h.keep.size
theorem ShS.below (h : ShS wB ns vs sv nw us qv w) (hb : Below w.heap.size w w') : ShS wB ns vs sv nw us qv w' := ⟨h.keep.trans (hb.mono h.size), h.ap.below hb⟩
theorem ShS.same (h : ShS wB ns vs sv nw us qv w) (hg : w.grownBy w' none) : ShS wB ns vs sv nw us qv w' := ⟨h.keep.grown hg h.size (fun _ e => by cases e), h.ap.same hg⟩
theorem ShS.rowS (h : ShS wB ns vs sv nw us qv w) : w.ownsRow 0 3 1 sv ns vs := h.ap.at 0 (by simp)
theorem ShS.rowQ (h : ShS wB ns vs sv nw us qv w) : w.ownsRow 0 9 1 qv nw us := h.ap.at 1 (by simp)
theorem ShS.num {gs cs : Nat} (h : ShS wB ns vs (.slice (some ⟨gs, 0, none⟩) ns cs) nw us qv w) (k : Nat) (hk : k < ns) : w.cell? ⟨gs, k, none⟩ = vs[k]? := h.rowS.cellAt k (by omega)
theorem ShS.word {gq cq : Nat} (h : ShS wB ns vs sv nw us (.slice (some ⟨gq, 0, none⟩) nw cq) w) (k : Nat) (hk : k < nw) : w.cell? ⟨gq, k, none⟩ = us[k]? := h.rowQ.cellAt k (by omega)
theorem ShS.pushS {x : Int} {t : TypeId} {g cp : Nat} {w1 : World} (h : ShS wB ns vs sv nw us qv w) (hg : (w.alloc (.cells #[.int .i64 x] t)).grownBy w1 sv.ownBlock)
    (ho : w1.ownsRow 0 3 1 (.slice (some ⟨g, 0, none⟩) (ns + 1) cp) (ns + 1) (vs ++ [.int .i64 x])) (hat : sv.ownBlock = some g ∨ g = (w.alloc (.cells #[.int .i64 x] t)).heap.size) :
    ShS wB (ns + 1) (vs ++ [.int .i64 x]) (.slice (some ⟨g, 0, none⟩) (ns + 1) cp) nw us qv w1 := by
  have h1 := h.same (World.grownBy_alloc w (.cells #[.int .i64 x] t) none)
  have hlt := h1.ap.ltAt 0 (by simp)
  have a1 := h1.ap.turnAt 0 (by simp) hg (rowT 3 1 (.slice (some ⟨g, 0, none⟩) (ns + 1) cp) (ns + 1) (vs ++ [.int .i64 x]))
    (by show w1.ownsRow 0 _ _ _ _ _; exact ho) h1.size (fun j e => ⟨by cases e; exact hat.imp id (fun e => Nat.le_of_eq e.symm), (World.ownsRow.lt ho j e).2⟩)
  exact ⟨h1.keep.grown hg h1.size (fun j e => (hlt j e).1), a1⟩
theorem ShS.pushQ {x : ByteArray} {t : TypeId} {g cp : Nat} {w1 : World} (h : ShS wB ns vs sv nw us qv w) (hg : (w.alloc (.cells #[.string x] t)).grownBy w1 qv.ownBlock)
    (ho : w1.ownsRow 0 9 1 (.slice (some ⟨g, 0, none⟩) (nw + 1) cp) (nw + 1) (us ++ [.string x])) (hat : qv.ownBlock = some g ∨ g = (w.alloc (.cells #[.string x] t)).heap.size) :
    ShS wB ns vs sv (nw + 1) (us ++ [.string x]) (.slice (some ⟨g, 0, none⟩) (nw + 1) cp) w1 := by
  have h1 := h.same (World.grownBy_alloc w (.cells #[.string x] t) none)
  have hlt := h1.ap.ltAt 1 (by simp)
  have a1 := h1.ap.turnAt 1 (by simp) hg (rowT 9 1 (.slice (some ⟨g, 0, none⟩) (nw + 1) cp) (nw + 1) (us ++ [.string x]))
    (by show w1.ownsRow 0 _ _ _ _ _; exact ho) h1.size (fun j e => ⟨by cases e; exact hat.imp id (fun e => Nat.le_of_eq e.symm), (World.ownsRow.lt ho j e).2⟩)
  exact ⟨h1.keep.grown hg h1.size (fun j e => (hlt j e).1), a1⟩
end
theorem ShS.start {wB w1 : World} (hK : Below wB.heap.size wB w1) :
    ShS wB 1 (numsOf [(0, ⟨#[]⟩)]) (.slice (some ⟨w1.heap.size, 0, none⟩) 1 1) 1 (textsOf [(0, ⟨#[]⟩)]) (.slice (some ⟨w1.heap.size + 1, 0, none⟩) 1 1) ((w1.alloc (.cells #[.int .i64 0] 3)).alloc (.cells #[.string ⟨#[]⟩] 9)) := by
  have hs := hK.size
  have hA := World.ownsRow_lit (base := 0) (e := 3) (size := 1) w1 #[.int .i64 0] 1 (Nat.zero_le _) (by decide) (by simp)
  have hB := World.ownsRow_lit (base := 0) (e := 9) (size := 1) (w1.alloc (.cells #[.int .i64 0] 3)) #[.string ⟨#[]⟩] 1 (Nat.zero_le _) (by decide) (by simp)
  have A1 : Apart wB.heap.size [rowT 3 1 (.slice (some ⟨w1.heap.size, 0, none⟩) 1 1) 1 (numsOf [(0, ⟨#[]⟩)])] (w1.alloc (.cells #[.int .i64 0] 3)) :=
    (Apart.nil wB.heap.size w1).more (World.grownBy_alloc w1 _ none) _ hA hs (fun k e => by
      have : k = w1.heap.size := by simpa [rowT, Value.ownBlock] using e.symm
      subst this; exact ⟨Nat.le_refl _, by simp⟩)
  rw [World.size_alloc] at hB
  have A2 := A1.more (World.grownBy_alloc (w1.alloc (.cells #[.int .i64 0] 3)) (.cells #[.string ⟨#[]⟩] 9) none) (rowT 9 1 (.slice (some ⟨w1.heap.size + 1, 0, none⟩) 1 1) 1 (textsOf [(0, ⟨#[]⟩)])) hB (by rw [World.size_alloc]; omega) (fun k e => by
      have hk : k = w1.heap.size + 1 := by simpa [rowT, Value.ownBlock] using e.symm
      subst hk
      exact ⟨by simp, by simp⟩)
  exact ⟨(hK.alloc hs _).alloc (by rw [World.size_alloc]; omega) _, A2.perm (List.Perm.swap _ _ _)⟩

theorem infoIntS : (Try.prog.info? 3).map (fun i => (i.zero, i.size, i.bytes)) = some (some (.int .i64 0), 1, 8) := by kernel_rfl
set_option maxHeartbeats 6400000 in
set_option maxRecDepth 100000 in
theorem specShort_any (N : Nat) (xs : List Int) (es : List Bool) (nv ev : Value) (w : World) (h1 : IsInts w nv xs) (h2 : IsBools w ev es) (hok : (M.mk N xs es).ok = true) :
    Calls Try.prog 32 #[.agg #[.int .i64 (N : Int), nv, ev]] w
      fun e w' => (∃ r : Option ByteArray, IsShort ⟨N, xs, es⟩ r ∧ e = .returned (.tuple #[.string (r.getD ⟨#[]⟩), .bool r.isSome])) ∧ Below w.heap.size w w' := by
  obtain ⟨s0, s1, s2, s3⟩ := M.ok_shape hok
  simp only at s0 s1 s2 s3
  have hst : (Lit.int .i64 (N : Int)).wf = true := WalkArith.wf_i64 (by show _ ∧ _; omega)
  have HOK : Hid (∀ W, IsInts W nv xs → IsBools W ev es → Calls Try.prog 37 #[.agg #[.int .i64 (N : Int), nv, ev]] W fun e w' => e = .returned (.bool true) ∧ Below W.heap.size W w') := Lib.hid (fun W a b => by
    have := specMachineOk_any ⟨N, xs, es⟩ nv ev W a b hst
    rw [hok] at this
    exact this)
  have H1 := Lib.hid h1
  have H2 := Lib.hid h2
  obtain ⟨a1, n1, c1, rfl⟩ := h1.slice
  obtain ⟨a2, n2, c2, rfl⟩ := h2.slice
  have HS2 := Lib.hid s2
  have HS3 := Lib.hid s3
  clear h1 h2 s2 s3
  have hB := MachBox.new (st := (N : Int)) 27 H1.out H2.out
  have q0 := Lib.hid ((Below.refl w.heap.size w).alloc (Nat.le_refl _) (.cells #[.int .i64 (N : Int), .slice a1 n1 c1, .slice a2 n2 c2] 27))
  have MB := Lib.hid hB
  clear hB
  go_enter Try.func32, Try.ntmps32
  go_wp2_with fail
  generalize hWB : w.alloc (.cells #[.int .i64 (N : Int), .slice a1 n1 c1, .slice a2 n2 c2] 27) = wB at *
  clear hWB
  refine (HOK.out _ MB.out.ints MB.out.bools).mono ?_
  rintro e w1 ⟨rfl, hb1⟩
  have M1 := Lib.hid (MB.out.below hb1)
  have K1 := Lib.hid hb1
  clear hb1
  have F0 := Lib.hid (ShS.start K1.out)
  obtain ⟨j0, hj, hy0, hy1, hy2⟩ := info_parts infoStrS
  have HJ := Lib.hid (And.intro hj (And.intro hy0 (And.intro hy1 hy2)))
  obtain ⟨i0, hi, hz0, hz1, hz2⟩ := info_parts infoIntS
  have HI := Lib.hid (And.intro hi (And.intro hz0 (And.intro hz1 hz2)))
  clear hj hy0 hy1 hy2 hi hz0 hz1 hz2
  have HTO := Lib.hid (Sh.to hok)
  go_wp2_with fail
  go_loopw [4, 5, 6] (fun sv qv i wr => ∃ (n gs cs gq cq : Nat), i = .int .i64 (n : Int) ∧ sv = .slice (some ⟨gs, 0, none⟩) (shTo (M.mk N xs es) n).length cs ∧ qv = .slice (some ⟨gq, 0, none⟩) (shTo (M.mk N xs es) n).length cq ∧ n ≤ (shTo (M.mk N xs es) n).length ∧ ShS wB (shTo (M.mk N xs es) n).length (numsOf (shTo (M.mk N xs es) n)) (.slice (some ⟨gs, 0, none⟩) (shTo (M.mk N xs es) n).length cs) (shTo (M.mk N xs es) n).length (textsOf (shTo (M.mk N xs es) n)) (.slice (some ⟨gq, 0, none⟩) (shTo (M.mk N xs es) n).length cq) wr ∧ ∀ j, j < n → j < (shTo (M.mk N xs es) j).length ∧ hitAt (M.mk N xs es) j = none) (fun _ _ i _ => 48 - (intOf i).toNat)
  case atStart => exact ⟨0, w1.heap.size, 1, w1.heap.size + 1, 1, rfl, rfl, rfl, Nat.zero_le _, F0.out, fun j h => absurd h (Nat.not_lt_zero j)⟩
  case round =>
    obtain ⟨n, gs, cs, gq, cq, rfl, rfl, rfl, hn, hF, hno⟩ := hrel
    have hq48 := (HTO.out n).len hok
    have HNO := Lib.hid hno
    have FF := Lib.hid hF
    clear hno hF
    by_cases hlt : n < (shTo (M.mk N xs es) n).length
    · have hnum := (FF.out.num n hlt).trans (numsOf_at hlt)
      have hword := (FF.out.word n hlt).trans (textsOf_at hlt)
      have MM := Lib.hid (MB.out.below FF.out.keep)
      have m1 := MM.out.c1
      have m2 := MM.out.c2
      have HSTEP := Lib.hid (shTo_step hlt)
      have HX := Lib.hid ((HTO.out n).all _ (List.getElem_mem hlt))
      generalize hxx : (shTo (M.mk N xs es) n)[n] = x at *
      have HXX := Lib.hid hxx
      clear hxx
      obtain ⟨xs1, xw⟩ := x
      simp only at hnum hword
      obtain ⟨s, rfl⟩ := Int.eq_ofNat_of_zero_le HX.out.s0
      have hsN : s < N := by have := HX.out.s1; simp only at this; omega
      have HYES : Hid ((M.mk N xs es).endAt (s : Int) = true → hitAt (M.mk N xs es) n = some xw) := Lib.hid (fun h => by
        have := hitAt_yes hlt (by rw [HXX.out]; exact h)
        rw [HXX.out] at this; exact this)
      have HNOT : Hid ((M.mk N xs es).endAt (s : Int) = false → hitAt (M.mk N xs es) n = none) := Lib.hid (fun h => hitAt_no hlt (by rw [HXX.out]; exact h))
      have hsE : s < es.length := by have := HS3.out; omega
      obtain ⟨eA, eC, hev, ec1, ec2, hes⟩ := MM.out.bools
      simp only [Value.slice.injEq] at hev
      obtain ⟨rfl, rfl, rfl⟩ := hev
      obtain ⟨ge, oe, rfl, hge, hce⟩ := hes.resolve_left (fun h => by rw [h] at hsE; exact absurd hsE (Nat.not_lt_zero s))
      have hcell := hce s hsE
      have hend : (M.mk N xs es).endAt (s : Int) = es[s] := by
        obtain ⟨k, hk1, hk2, hk3⟩ := M.endAt_at hok (s : Int) (by omega) (by show (s : Int) < (N : Int); omega)
        obtain rfl : k = s := by omega
        exact hk3
      rw [hend] at HYES HNOT
      generalize es[s] = ee at *
      clear hge hce hes ec1 ec2
      go_wp2_with fail
      go_quiet (fail)
      have F4 := Lib.hid (FF.out.same (grown_drewN wr nq none))
      have Q4 := Lib.hid (q0.out.trans (F4.out.keep.mono q0.out.size))
      cases ee with
      | true =>
        go_wp2_with fail
        go_ret2
        exact ⟨⟨some xw, ⟨n, HNO.out, .inl ⟨xw, HYES.out (by trivial), rfl⟩⟩, rfl⟩, Q4.out⟩
      | false =>
        clear hnum hword m1 m2 hcell hend
        go_wp2_with fail
        go_loopw [4, 5, 7] (fun sv qv i wr2 => ∃ (l gs2 cs2 gq2 cq2 : Nat), l ≤ 3 ∧ i = .int .i64 (l : Int) ∧ sv = .slice (some ⟨gs2, 0, none⟩) (shL (M.mk N xs es) ((s : Int), xw) (shTo (M.mk N xs es) n) l).length cs2 ∧ qv = .slice (some ⟨gq2, 0, none⟩) (shL (M.mk N xs es) ((s : Int), xw) (shTo (M.mk N xs es) n) l).length cq2 ∧ ShS wB (shL (M.mk N xs es) ((s : Int), xw) (shTo (M.mk N xs es) n) l).length (numsOf (shL (M.mk N xs es) ((s : Int), xw) (shTo (M.mk N xs es) n) l)) (.slice (some ⟨gs2, 0, none⟩) (shL (M.mk N xs es) ((s : Int), xw) (shTo (M.mk N xs es) n) l).length cs2) (shL (M.mk N xs es) ((s : Int), xw) (shTo (M.mk N xs es) n) l).length (textsOf (shL (M.mk N xs es) ((s : Int), xw) (shTo (M.mk N xs es) n) l)) (.slice (some ⟨gq2, 0, none⟩) (shL (M.mk N xs es) ((s : Int), xw) (shTo (M.mk N xs es) n) l).length cq2) wr2) (fun _ _ i _ => 3 - (intOf i).toNat)
        case atStart => exact ⟨0, gs, cs, gq, cq, by omega, rfl, rfl, rfl, F4.out⟩
        case round =>
          obtain ⟨l, gs2, cs2, gq2, cq2, hl, rfl, rfl, rfl, hF2⟩ := hrel
          have F6 := Lib.hid hF2
          clear hF2
          have SHL := Lib.hid ((HTO.out n).many hok HX.out l hl)
          have hq6 := SHL.out.len hok
          have hpre := shL_prefix (M.mk N xs es) ((s : Int), xw) (shTo (M.mk N xs es) n) l
          have hn6 : n < (shL (M.mk N xs es) ((s : Int), xw) (shTo (M.mk N xs es) n) l).length := Nat.lt_of_lt_of_le hlt hpre.length_le
          have hx6 : (shL (M.mk N xs es) ((s : Int), xw) (shTo (M.mk N xs es) n) l)[n] = ((s : Int), xw) := by rw [← hpre.getElem hlt]; exact HXX.out
          have hnum : wr.cell? ⟨gs2, n, none⟩ = some (.int .i64 (s : Int)) := by have := (F6.out.num n hn6).trans (numsOf_at hn6); rw [hx6] at this; exact this
          have hword : wr.cell? ⟨gq2, n, none⟩ = some (.string xw) := by have := (F6.out.word n hn6).trans (textsOf_at hn6); rw [hx6] at this; exact this
          by_cases hgo : l < 3 ∧ xw.size < 14
          · obtain ⟨hl3, hsz⟩ := hgo
            have HST : Hid (shL (M.mk N xs es) ((s : Int), xw) (shTo (M.mk N xs es) n) (l + 1) = sh1 (M.mk N xs es) ((s : Int), xw) (shL (M.mk N xs es) ((s : Int), xw) (shTo (M.mk N xs es) n) l) l) := Lib.hid rfl
            have hls : (letS l).size = 1 := rfl
            have hsl := fun W => rdnS_at l hl3 W
            have hwr : IntKind.i64.wrap ((l : Int) + 1) = (l : Int) + 1 := IntWalk.i64_in _ (by omega)
            have HX6 : Hid ((shL (M.mk N xs es) ((s : Int), xw) (shTo (M.mk N xs es) n) l)[n]? = some ((s : Int), xw)) := Lib.hid (by rw [List.getElem?_eq_getElem hn6, hx6])
            clear hpre hx6
            generalize shL (M.mk N xs es) ((s : Int), xw) (shTo (M.mk N xs es) n) l = q at *
            obtain ⟨k, hk1, hk2, hk3⟩ := M.nx_at hok (s : Int) (l : Int) (by omega) (by show (s : Int) < (N : Int); omega) (by omega) (by omega)
            have hvb := M.nx_bd hok (s : Int) (l : Int) (by show (s : Int) < (N : Int); omega) (by omega) (by omega)
            have MM6 := Lib.hid (MB.out.below F6.out.keep)
            have m1 := MM6.out.c1
            obtain ⟨iA, iC, hiv, ic1, ic2, his⟩ := MM6.out.ints
            simp only [Value.slice.injEq] at hiv
            obtain ⟨rfl, rfl, rfl⟩ := hiv
            obtain ⟨gi, oi, rfl, hgi, hci⟩ := his.resolve_left (fun h => by rw [h] at hk2; exact absurd hk2 (Nat.not_lt_zero k))
            have hcell := hci k hk2
            rw [hk3] at hvb
            have HNX := Lib.hid hk3
            clear hk3 hgi hci his ic1 ic2
            generalize ((M.mk N xs es)).next[k] = v at *
            have hq1 : IntKind.i64.wrap (3 * (s : Int)) = 3 * (s : Int) := IntWalk.i64_in _ (by omega)
            have hq2 : IntKind.i64.wrap (3 * (s : Int) + (l : Int)) = 3 * (s : Int) + (l : Int) := IntWalk.i64_in _ (by omega)
            have hq3 : 3 * (s : Int) + (l : Int) = (k : Int) := by omega
            simp only at hk2
            clear hk1
            go_wp2_with fail
            go_quiet (fail)
            clear m1 hq1 hq2 hcell
            have F7 := Lib.hid (F6.out.same (grown_drewN wr nq none))
            go_wp2_with fail
            go_loopw [9, 10] (fun sn i wr3 => ∃ j : Nat, j ≤ q.length ∧ i = .int .i64 (j : Int) ∧ sn = .bool (decide (v < 0) || seenTo q v j) ∧ ShS wB (q).length (numsOf (q)) (.slice (some ⟨gs2, 0, none⟩) (q).length cs2) (q).length (textsOf (q)) (.slice (some ⟨gq2, 0, none⟩) (q).length cq2) wr3) (fun _ i _ => q.length - (intOf i).toNat)
            case atStart => exact ⟨0, Nat.zero_le _, rfl, by simp [seenTo_zero], F7.out⟩
            case round =>
              obtain ⟨j, hj, rfl, rfl, hF3⟩ := hrel
              have F8 := Lib.hid hF3
              clear hF3
              cases hsn : (decide (v < 0) || seenTo q v j) with
              | true =>
                have hs1 : sh1 (M.mk N xs es) ((s : Int), xw) q l = q := by
                  unfold sh1
                  rw [if_neg]
                  rintro ⟨-, d2, d3⟩
                  simp only at d2 d3
                  rw [HNX.out] at d2 d3
                  rw [Bool.or_eq_true, decide_eq_true_eq] at hsn
                  rcases hsn with h | h
                  · omega
                  · have := seenTo_mono h
                    rw [seenTo_all, decide_eq_true_eq] at this
                    exact d3 this
                have HS1 := Lib.hid hs1
                clear hs1 hsn
                by_cases hjl : (j : Int) < (q.length : Int)
                all_goals
                  go_wp2_with fail
                  go_roundw
                  case rel => exact ⟨l + 1, gs2, cs2, gq2, cq2, by omega, by go_num, by rw [HST.out, HS1.out], by rw [HST.out, HS1.out], by rw [HST.out, HS1.out]; exact F8.out⟩
                  case measure => simp [intOf]; omega
              | false =>
                rw [Bool.or_eq_false_iff] at hsn
                obtain ⟨hv0, hnot⟩ := hsn
                by_cases hjl : j < q.length
                · have hnum3 := (F8.out.num j hjl).trans (numsOf_at hjl)
                  have HSU : Hid (seenTo q v (j + 1) = (q[j].1 == v)) := Lib.hid (by rw [seenTo_succ v hjl, hnot, Bool.false_or])
                  have HV0 := Lib.hid hv0
                  generalize q[j].1 = z at *
                  clear hv0 hnot
                  by_cases hz : z = v
                  · have hz' : (z == v) = true := by simp [hz]
                    have HSV : Hid (seenTo q v (j + 1) = true) := Lib.hid (HSU.out.trans hz')
                    clear hz HSU
                    go_wp2_with fail
                    go_roundw
                    case rel => exact ⟨j + 1, by omega, by go_num, by rw [HSV.out, HV0.out]; rfl, F8.out⟩
                    case measure => simp [intOf]; omega
                  · have hz' : (z == v) = false := by simpa using hz
                    have HSV : Hid (seenTo q v (j + 1) = false) := Lib.hid (HSU.out.trans hz')
                    clear hz HSU
                    go_wp2_with fail
                    go_roundw
                    case rel => exact ⟨j + 1, by omega, by go_num, by rw [HSV.out, HV0.out]; rfl, F8.out⟩
                    case measure => simp [intOf]; omega
                · obtain rfl : j = q.length := by omega
                  have hs1 : sh1 (M.mk N xs es) ((s : Int), xw) q l = q ++ [(v, xw ++ letS l)] := by
                    unfold sh1
                    simp only
                    rw [HNX.out, if_pos ⟨hsz, by simpa using hv0, by rw [seenTo_all, decide_eq_false_iff_not] at hnot; exact hnot⟩]
                  have HS1 := Lib.hid hs1
                  have hword3 : wr.cell? ⟨gq2, n, none⟩ = some (.string xw) := by have := F8.out.word n hn6; rw [this, textsOf, List.getElem?_map, HX6.out]; rfl
                  clear hs1 hv0 hnot
                  have HA1 := Lib.hid (show q.length + 1 ≤ maxLen by unfold maxLen; omega)
                  have HA2 := Lib.hid (show (q.length + 1) * 16 ≤ 140737488355328 by omega)
                  have HA3 := Lib.hid (show (q.length + 1) * 8 ≤ 140737488355328 by omega)
                  go_wp2_with (first | (at_builtin; refine wpList_append_lies _ rfl _ _ 22 rfl 0 3 i0 (.int .i64 0) 1 8 Try.underlying22 HI.out.1 HI.out.2.1 HI.out.2.2.1 HI.out.2.2.2 rfl (by decide) (.slice (some ⟨gs2, 0, none⟩) q.length cs2) q.length (numsOf q) rfl (F8.out.rowS.alloc _) ⟨wr.heap.size, 0, none⟩ 1 1 [.int .i64 v] rfl rfl (cell_newS wr (.int .i64 v) 3) (by simp [Value.oneCell']) (by omega) HA1.out HA3.out (Nat.zero_le _) _ rfl ?_; intro g9 cp9 w4 hown hgrow hat hlt3; have F9 := Lib.hid (F8.out.pushS hgrow hown hat); have hword4 : w4.cell? ⟨gq2, n, none⟩ = some (.string xw) := (F9.out.word n hn6).trans ((by rw [textsOf, List.getElem?_map, HX6.out]; rfl)); clear hword3 hown hgrow hat hlt3))
                  have Fd := Lib.hid (F9.out.same (grown_drew w4 none))
                  have hword5 : w4.drew.cell? ⟨gq2, n, none⟩ = some (.string xw) := hword4
                  have hcat : ¬ (9223372036854775807 < xw.size + 1) := by omega
                  clear hword4
                  go_region_law (first | (refine step_append_lies _ rfl _ _ 69 rfl 0 9 j0 (.string ⟨#[]⟩) 1 16 Try.underlying69 HJ.out.1 HJ.out.2.1 HJ.out.2.2.1 HJ.out.2.2.2 rfl (by decide) (.slice (some ⟨gq2, 0, none⟩) q.length cq2) q.length (textsOf q) rfl (Fd.out.rowQ.alloc _) ⟨w4.drew.heap.size, 0, none⟩ 1 1 [.string (xw ++ letS l)] rfl rfl (cell_newS w4.drew (.string (xw ++ letS l)) 9) (by simp [Value.oneCell']) (by omega) HA1.out HA2.out (Nat.zero_le _) _ rfl ?_; intro g10 cp10 w5 hown hgrow hat hlt3; have F10 := Lib.hid (Fd.out.pushQ hgrow hown hat)))
                  all_goals
                    clear hword5
                    go_wp2
                    go_roundw
                    case rel => exact ⟨l + 1, g9, cp9, g10, cp10, by omega, by go_num, by rw [HST.out, HS1.out, List.length_append]; rfl, by rw [HST.out, HS1.out, List.length_append]; rfl, by rw [HST.out, HS1.out, List.length_append, numsOf_more, textsOf_more]; exact F10.out⟩
                    case measure => simp [intOf]; omega
          · have hend3 : shL (M.mk N xs es) ((s : Int), xw) (shTo (M.mk N xs es) n) l = shL (M.mk N xs es) ((s : Int), xw) (shTo (M.mk N xs es) n) 3 := by
              by_cases hsz : xw.size < 14
              · obtain rfl : l = 3 := by omega
                rfl
              · rw [shL_full _ _ _ hsz, shL_full _ _ _ hsz]
            have HE3 := Lib.hid hend3
            have hn7 : n + 1 ≤ (shL (M.mk N xs es) ((s : Int), xw) (shTo (M.mk N xs es) n) 3).length := Nat.lt_of_lt_of_le hlt (shL_prefix (M.mk N xs es) ((s : Int), xw) (shTo (M.mk N xs es) n) 3).length_le
            have HN7 := Lib.hid hn7
            have hstop : (decide ((l : Int) < 3) && decide ((xw.size : Int) < 14)) = false := by
              by_cases h : l < 3
              · rw [decide_eq_false (by omega : ¬ (xw.size : Int) < 14), Bool.and_false]
              · rw [decide_eq_false (by omega : ¬ (l : Int) < 3), Bool.false_and]
            clear hend3 hn7 hpre hx6
            by_cases hl3 : (l : Int) < 3
            · have hsz : ¬ (xw.size : Int) < 14 := fun h => hgo ⟨by omega, by omega⟩
              clear hgo hstop
              go_wp2_with fail
              go_roundw
              case rel => exact ⟨n + 1, gs2, cs2, gq2, cq2, by go_num, by rw [HSTEP.out, ← HE3.out], by rw [HSTEP.out, ← HE3.out], by rw [HSTEP.out]; exact HN7.out, by rw [HSTEP.out, ← HE3.out]; exact F6.out, fun j hj => by
                rcases Nat.lt_or_ge j n with h | h
                · exact HNO.out j h
                · obtain rfl : j = n := by omega
                  exact ⟨hlt, HNOT.out (by trivial)⟩⟩
              case measure => simp [intOf]; omega
            · clear hgo hstop
              go_wp2_with fail
              go_roundw
              case rel => exact ⟨n + 1, gs2, cs2, gq2, cq2, by go_num, by rw [HSTEP.out, ← HE3.out], by rw [HSTEP.out, ← HE3.out], by rw [HSTEP.out]; exact HN7.out, by rw [HSTEP.out, ← HE3.out]; exact F6.out, fun j hj => by
                rcases Nat.lt_or_ge j n with h | h
                · exact HNO.out j h
                · obtain rfl : j = n := by omega
                  exact ⟨hlt, HNOT.out (by trivial)⟩⟩
              case measure => simp [intOf]; omega
    · obtain hn2 : n = (shTo (M.mk N xs es) n).length := by omega
      have Q4 := Lib.hid (q0.out.trans (FF.out.keep.mono q0.out.size))
      have HLE := Lib.hid (Nat.le_of_eq hn2.symm)
      have hd : decide ((n : Int) < ((shTo (M.mk N xs es) n).length : Int)) = false := decide_eq_false (by omega)
      clear hn2
      go_wp2_with fail
      go_ret2
      exact ⟨⟨none, ⟨n, HNO.out, .inr ⟨HLE.out, rfl⟩⟩, rfl⟩, Q4.out⟩
end Go.Proofs.Ytdgpemjbaciiaaa
