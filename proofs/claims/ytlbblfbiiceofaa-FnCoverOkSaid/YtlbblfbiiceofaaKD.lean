/- Rosters as they are filled: letter by letter with a cut, and day by day. The plain mathematics. No program, no condition. Columns of a day as texts, and rosters as rows of texts. The plain mathematics. No program, no condition. spec.l10Columns: all columns of a day that fit the needs. No condition. spec.l10Search: the first roster that goes on some rows, and how many there are. No condition. The walk of spec.l10Search. No condition. -/
import Derived.Test.YtlbblfbiiceofaaKB
import Derived.Test.YtlbblfbiiceofaaKC
import Derived.IntWalk
import Derived.Laws.Concat
import Derived.Test.YtlbblfbiiceofaaKP

namespace Go.Proofs.Ytlbblfbiiceofaa

/-- all rows of so many letters, by their numbers, in the order of letters -/
def colsL : Nat → List (List Nat)
  | 0 => [[]]
  | n + 1 => [0, 1, 2].flatMap fun l => (colsL n).map (l :: ·)
/-- how often a letter is among them -/
def cntL (c : List Nat) (l : Nat) : Int := ((c.filter (· == l)).length : Int)
theorem cntL_cons (x : Nat) (c : List Nat) (l : Nat) : cntL (x :: c) l = cntL c l + if x = l then 1 else 0 := by
  unfold cntL
  by_cases h : x = l
  · subst h; simp
  · simp [h]
theorem colsL_len : ∀ (n : Nat) (c : List Nat), c ∈ colsL n → c.length = n
  | 0, c, h => by simp [colsL] at h; subst h; rfl
  | n + 1, c, h => by
    simp only [colsL, List.mem_flatMap, List.mem_map] at h
    obtain ⟨l, -, d, hd, rfl⟩ := h
    rw [List.length_cons, colsL_len n d hd]

/-- a row: its letters so far, and the state that they lead to -/
structure Fil where
  word : ByteArray
  st : Int
def Fil.more (m : M) (b : Fil) (l : Nat) : Fil := ⟨b.word ++ ⟨#[byteOf l]⟩, m.nx b.st l⟩
/-- what is still needed after a letter -/
def aftL (l : Nat) (a : Int) : Int := if l = 1 then a - 1 else a
def aftD (l : Nat) (a : Int) : Int := if l = 2 then a - 1 else a
def aftOk (l : Nat) (a b : Int) (behind : Nat) : Bool := decide (0 ≤ aftL l a) && decide (0 ≤ aftD l b) && decide (aftL l a + aftD l b ≤ behind)
/-- a letter may be given -/
def mayL (m : M) (k : Nat) (b : Fil) (l : Nat) : Bool := decide (m.ways k (m.nx b.st l) ≠ 0)

/-- one day is filled row by row, and the rest is told by K -/
def fillDay {β : Type} (m : M) (k : Nat) (K : List Fil → List β) : List Fil → List Fil → Int → Int → List β
  | A, [], _, _ => K A
  | A, b :: B, nl, nd => [0, 1, 2].flatMap fun l => if aftOk l nl nd B.length && mayL m k b l then fillDay m k K (A ++ [b.more m l]) B (aftL l nl) (aftD l nd) else []
/-- all rows may have their letters -/
def mayC (m : M) (k : Nat) : List Fil → List Nat → Bool
  | b :: B, l :: c => mayL m k b l && mayC m k B c
  | _, _ => true
def moreC (m : M) : List Fil → List Nat → List Fil
  | b :: B, l :: c => b.more m l :: moreC m B c
  | _, _ => []
def colOk (c : List Nat) (nl nd : Int) : Bool := decide (cntL c 1 = nl) && decide (cntL c 2 = nd)
/-- all rosters of so many days more -/
def rosOf (m : M) (nl nd : Int) : Nat → List Fil → List (List Fil)
  | 0, A => [A]
  | k + 1, A => (colsL A.length).flatMap fun c => if colOk c nl nd && mayC m k A c then rosOf m nl nd k (moreC m A c) else []
/-- and filled letter by letter -/
def filOf (m : M) (nl nd : Int) : Nat → List Fil → List (List Fil)
  | 0, A => [A]
  | k + 1, A => fillDay m k (filOf m nl nd k) [] A nl nd
end Go.Proofs.Ytlbblfbiiceofaa

namespace Go.Proofs.Ytlbblfbiiceofaa

theorem cntTo_cntC (p : Nat → Bool) (k : Nat) : cntTo p k = ((List.range k).countP p : Int) := by
  induction k with
  | zero => rfl
  | succ k ih =>
    rw [List.range_succ, List.countP_append, cntTo, ih, List.countP_singleton]
    by_cases h : p k = true
    · simp [h]
    · simp [h]
theorem range_getD (l : List UInt8) : (List.range l.length).map (fun i => l.getD i 0) = l := by
  refine List.ext_getElem (by simp) fun i h1 h2 => ?_
  simp [List.getD, h2]
theorem cntEq_cntC (l : List UInt8) (c : UInt8) : cntEq l c l.length = (l.countP (· == c) : Int) := by
  rw [cntEq, cntTo_cntC]
  congr 1
  have := List.countP_map (p := (· == c)) (f := fun i => l.getD i 0) (l := List.range l.length)
  rw [range_getD] at this
  rw [this]; rfl
/-- the text of a column -/
def txtC (c : List Nat) : ByteArray := ⟨(c.map byteOf).toArray⟩
theorem txtC_size (c : List Nat) : (txtC c).size = c.length := by show (c.map byteOf).toArray.size = _; simp
theorem txtC_list (c : List Nat) : (txtC c).data.toList = c.map byteOf := rfl
theorem byteOf_isL (x : Nat) : isL (byteOf x) = true := by
  unfold byteOf
  split
  · rfl
  · split <;> rfl
theorem txtC_word (c : List Nat) (h : c.length ≤ 14) : wordOk (txtC c) = true := by
  have : allL (txtC c).data.toList = true := by
    rw [txtC_list, allL, List.all_eq_true]
    intro b hb
    obtain ⟨x, _, rfl⟩ := List.mem_map.1 hb
    exact byteOf_isL x
  rw [wordOk, this, Bool.true_and]
  exact decide_eq_true (by rw [txtC_size]; exact h)
theorem byte_one : ∀ x, x < 3 → ((byteOf x == 100) = decide (x = 1) ∧ (byteOf x == 110) = decide (x = 2)) := by decide
theorem cnt_txt (c : List Nat) (h3 : ∀ x ∈ c, x < 3) : ((c.map byteOf).countP (· == 100) : Int) = cntL c 1 ∧ ((c.map byteOf).countP (· == 110) : Int) = cntL c 2 := by
  induction c with
  | nil => exact ⟨rfl, rfl⟩
  | cons x c ih =>
    obtain ⟨i1, i2⟩ := ih (fun y hy => h3 y (List.mem_cons_of_mem _ hy))
    obtain ⟨b1, b2⟩ := byte_one x (h3 x (List.mem_cons_self ..))
    rw [cntL_cons, cntL_cons, List.map_cons, List.countP_cons, List.countP_cons, b1, b2]
    constructor
    · by_cases e : x = 1
      · simp only [e, decide_true, if_true]; omega
      · simp only [e, decide_false, if_false, Bool.false_eq_true]; omega
    · by_cases e : x = 2
      · simp only [e, decide_true, if_true]; omega
      · simp only [e, decide_false, if_false, Bool.false_eq_true]; omega
theorem covers_txt (c : List Nat) (l d : Int) (h : c.length ≤ 14) (h3 : ∀ x ∈ c, x < 3) : covers (txtC c) l d = colOk c l d := by
  have hw := txtC_word c h
  have e1 : countOf (txtC c) ⟨#[100]⟩ = cntL c 1 := by
    have hl : letterOk ⟨#[100]⟩ = true := by decide
    simp only [countOf, hw, hl, Bool.and_self, if_true]
    rw [txtC_list, txtC_size, ← (cnt_txt c h3).1, ← cntEq_cntC, List.length_map]; rfl
  have e2 : countOf (txtC c) ⟨#[110]⟩ = cntL c 2 := by
    have hl : letterOk ⟨#[110]⟩ = true := by decide
    simp only [countOf, hw, hl, Bool.and_self, if_true]
    rw [txtC_list, txtC_size, ← (cnt_txt c h3).2, ← cntEq_cntC, List.length_map]; rfl
  rw [covers, e1, e2, colOk]
  congr 1 <;> (by_cases h : _ = _ <;> simp [h])
/-- all columns that go on a beginning, as texts -/
def colsF (l d : Int) (n : Nat) (b : List Nat) : List ByteArray := ((colsL n).filter (fun c => colOk (b ++ c) l d)).map (fun c => txtC (b ++ c))
def colsTo (l d : Int) (n : Nat) (b : List Nat) (x : Nat) : List ByteArray := (List.range x).flatMap (fun i => colsF l d n (b ++ [i]))
theorem colsF_zero (l d : Int) (b : List Nat) : colsF l d 0 b = if colOk b l d = true then [txtC b] else [] := by
  simp only [colsF, colsL, List.filter_cons, List.append_nil, List.filter_nil]
  split <;> simp
theorem colsTo_zero (l d : Int) (n : Nat) (b : List Nat) : colsTo l d n b 0 = [] := rfl
theorem colsTo_succ (l d : Int) (n : Nat) (b : List Nat) (x : Nat) : colsTo l d n b (x + 1) = colsTo l d n b x ++ colsF l d n (b ++ [x]) := by
  simp [colsTo, List.range_succ]
theorem colsTo_all (l d : Int) (n : Nat) (b : List Nat) : colsTo l d n b 3 = colsF l d (n + 1) b := by
  have e : List.range 3 = [0, 1, 2] := by decide
  simp only [colsTo, colsF, colsL, e, List.flatMap_cons, List.flatMap_nil, List.append_nil, List.filter_append, List.map_append, List.filter_map, List.map_map, Function.comp_def, List.append_assoc, List.singleton_append]
theorem colsL_bd : ∀ n, n ≤ 3 → (colsL n).length ≤ 27 := by decide
theorem colsF_bd (l d : Int) (n : Nat) (b : List Nat) (h : n ≤ 3) : (colsF l d n b).length ≤ 27 := by
  rw [colsF, List.length_map]
  exact Nat.le_trans (List.length_filter_le _ _) (colsL_bd n h)
theorem colsTo_bd (l d : Int) (n : Nat) (b : List Nat) (h : n ≤ 3) (x : Nat) : (colsTo l d n b x).length ≤ 27 * x := by
  induction x with
  | zero => exact Nat.le_refl _
  | succ x ih => rw [colsTo_succ, List.length_append]; have := colsF_bd l d n (b ++ [x]) h; omega
theorem colsF_size (l d : Int) (n : Nat) (b : List Nat) (s : ByteArray) (h : s ∈ colsF l d n b) : s.size = b.length + n := by
  obtain ⟨c, hc, rfl⟩ := List.mem_map.1 h
  rw [txtC_size, List.length_append, colsL_len n c (List.mem_filter.1 hc).1]
/-- a roster with a day more -/
def extW (A : List ByteArray) (c : ByteArray) : List ByteArray := List.zipWith (fun s b => s ++ ⟨#[b]⟩) A c.data.toList
def okW (m : M) (k : Nat) (B : List ByteArray) : Bool := B.all (fun s => decide (m.ways k (m.goes 0 s.data.toList) ≠ 0))
/-- all rosters of so many days more, out of columns -/
def rosW (m : M) (cols : List ByteArray) : Nat → List ByteArray → List (List ByteArray)
  | 0, A => [A]
  | k + 1, A => cols.flatMap fun c => if okW m k (extW A c) = true then rosW m cols k (extW A c) else []
def rosOne (m : M) (cols : List ByteArray) (k : Nat) (A : List ByteArray) (c : ByteArray) : List (List ByteArray) := if okW m k (extW A c) = true then rosW m cols k (extW A c) else []
def rosTo (m : M) (cols : List ByteArray) (k : Nat) (A : List ByteArray) (i : Nat) : List (List ByteArray) := (cols.take i).flatMap (rosOne m cols k A)
theorem rosTo_zero (m : M) (cols : List ByteArray) (k : Nat) (A : List ByteArray) : rosTo m cols k A 0 = [] := rfl
theorem rosTo_succ (m : M) (cols : List ByteArray) (k : Nat) (A : List ByteArray) (i : Nat) (h : i < cols.length) : rosTo m cols k A (i + 1) = rosTo m cols k A i ++ rosOne m cols k A cols[i] := by
  rw [rosTo, List.take_succ_eq_append_getElem h, List.flatMap_append, rosTo]; simp
theorem rosTo_all (m : M) (cols : List ByteArray) (k : Nat) (A : List ByteArray) : rosTo m cols k A cols.length = rosW m cols (k + 1) A := by
  rw [rosTo, List.take_length]; rfl
theorem rosTo_pre (m : M) (cols : List ByteArray) (k : Nat) (A : List ByteArray) (i : Nat) : rosTo m cols k A i <+: rosW m cols (k + 1) A := by
  rw [← rosTo_all, rosTo, rosTo, List.take_length]
  have : cols = cols.take i ++ cols.drop i := (List.take_append_drop i cols).symm
  refine ⟨(cols.drop i).flatMap (rosOne m cols k A), ?_⟩
  rw [← List.flatMap_append, List.take_append_drop]
theorem extW_length (A : List ByteArray) (c : ByteArray) (h : c.size = A.length) : (extW A c).length = A.length := by
  have : c.data.toList.length = c.size := len_data c
  simp only [extW, List.length_zipWith]; omega
theorem extW_get (A : List ByteArray) (c : ByteArray) (h : c.size = A.length) (j : Nat) (hj : j < A.length) : (extW A c)[j]'(by rw [extW_length A c h]; exact hj) = A[j] ++ ⟨#[byteAt c j]⟩ := by
  have hl : c.data.toList.length = c.size := len_data c
  simp only [extW, List.getElem_zipWith, byteAt, List.getD, List.getElem?_eq_getElem (show j < c.data.toList.length by omega), Option.getD_some]
end Go.Proofs.Ytlbblfbiiceofaa

namespace Go.Proofs.Ytlbblfbiiceofaa
open Go.RowKit

theorem run_append_zeroC {P : Program} {w : World} (base : Nat) (t ty e : TypeId) (i : TypeInfo) (size : Nat) (ht : P.underlying t = some (.slice e)) (hi : P.info? e = some i)
    (v : Value) (n : Nat) (xs : List Value) (hown : w.ownsRow base e size v n xs) (p : Option Addr) (c : Nat) :
    (Builtin.append_ #[t, t] ty #[v, .slice p 0 c]).run P w = .ok v w := by
  rcases hown.2 with ⟨rfl, rfl⟩ | ⟨g, cap, cur, rfl, _, _, hnc, _⟩
  · cases p <;> simp [Builtin.append_, run_underlying ht, sizeOf, typeInfo, hi, Builtin.lenOf, Builtin.firstCells, loadCells, loadCellsFrom, Result.andThen]
  · cases p <;> simp [Builtin.append_, run_underlying ht, sizeOf, typeInfo, hi, Builtin.lenOf, Builtin.firstCells, hnc, storeCells, loadCells, loadCellsFrom, Result.andThen]
theorem step_append_zeroC {P : Program} {w : World} {ops : Array Oper} {o : Oper} {a : Act} {K : Act → World → Prop} {Q : Exit → Act → World → Prop} {E : Prop} (hgd : o.guard = none) (s x : Operand) (t : TypeId)
    (ho : o.op = .call { callee := .builtin .append, args := #[s, x], argTypes := #[t, t] })
    (base : Nat) (e : TypeId) (i : TypeInfo) (size : Nat) (ht : P.underlying t = some (.slice e)) (hi : P.info? e = some i)
    (v : Value) (n : Nat) (xs : List Value) (hs : a.eval s = v) (hown : w.ownsRow base e size v n xs) (p : Option Addr) (c : Nat) (hx : a.eval x = .slice p 0 c)
    (h : K (a.put o.dst v) w) : if Region.wanted o (yielded ops a.tmps) = true then Oper.wp P o a w K Q else E := by
  have hw : Region.wanted o (yielded ops a.tmps) = true := by simp [Region.wanted, hgd]
  rw [if_pos hw]
  have hrun := run_append_zeroC (P := P) (w := w) base t o.type e i size ht hi v n xs hown p c
  unfold Oper.wp
  simp [execOp, ho, resolve, invoke, builtin, hs, hx, hrun, Result.andThen]
  exact h
theorem Own.turnC {wB w w' : World} {ts : List Thing} {i g cp n m : Nat} {e : TypeId} {v : Value} {xs ys : List Value} (h : Own wB ts w) (hi : i < ts.length) (he : ts[i] = rowT e 1 v n xs) (hg : w.grownBy w' v.ownBlock)
    (ho : w'.ownsRow 0 e 1 (.slice (some ⟨g, 0, none⟩) m cp) m ys) (hat : v.ownBlock = some g ∨ g = w.heap.size) : Own wB (ts.set i (rowT e 1 (.slice (some ⟨g, 0, none⟩) m cp) m ys)) w' := by
  have hlt := h.ap.ltAt i hi
  rw [he] at hlt
  exact ⟨h.keep.grown hg h.size (fun j e => (hlt j e).1), h.ap.turnAt i hi (by rw [he]; exact hg) _ ho h.size
    (fun j e => ⟨by rw [he]; cases e; exact hat.imp id (fun e => Nat.le_of_eq e.symm), (World.ownsRow.lt ho j e).2⟩)⟩
/-- a row that reads as strings, as cells to append -/
theorem IsStrs.newsC {w : World} {v : Value} {xs : List ByteArray} (h : IsStrs w v xs) (h0 : 0 < xs.length) : ∃ g off c, v = .slice (some ⟨g, off, none⟩) xs.length c ∧ ∀ j u, (xs.map Value.string)[j]? = some u → w.cell? ((⟨g, off, none⟩ : Addr).add j) = some u := by
  obtain ⟨a, c, rfl, -, -⟩ := h.form
  obtain ⟨g, off, rfl, hg, hc⟩ := h.at h0
  refine ⟨g, off, c, rfl, fun j u hj => ?_⟩
  have hjl : j < xs.length := by
    have := (List.getElem?_eq_some_iff.1 hj).1
    simpa using this
  rw [add_off, hc j hjl, ← hj]
  simp [hjl]
theorem one_cellS {xs : List ByteArray} : ∀ u ∈ xs.map Value.string, u.oneCell' = true := fun u hu => by
  obtain ⟨y, _, rfl⟩ := List.mem_map.1 hu; rfl
theorem rdn_cutC (x : Nat) (h : x < 3) (W : World) : (Instr.slice 9 (.string ⟨#[114, 100, 110]⟩) (some (.int .i64 (x : Int))) (some (.int .i64 ((x : Int) + 1))) none).run Try.prog W = .ok (.string ⟨#[byteOf x]⟩) W := by
  rw [cut_one ⟨#[114, 100, 110]⟩ x (by show x < 3; exact h) W, extract_one _ x (by show x < 3; exact h)]
  have : x = 0 ∨ x = 1 ∨ x = 2 := by omega
  rcases this with rfl | rfl | rfl <;> rfl
theorem txtC_more (b : List Nat) (x : Nat) : txtC b ++ ⟨#[byteOf x]⟩ = txtC (b ++ [x]) := by
  rw [txtC, arr_more, txtC, List.map_append]; rfl

/-- what l10Columns leaves -/
def ColsPost (ys : List ByteArray) (w : World) (e : Ending) (w' : World) : Prop :=
  ∃ (a : Option Addr) (c : Nat), e = .returned (.slice a ys.length c) ∧ w'.ownsRow w.heap.size 9 1 (.slice a ys.length c) ys.length (ys.map Value.string) ∧ Below w.heap.size w w'

set_option maxHeartbeats 6400000 in
set_option maxRecDepth 20000 in
theorem specColumns_any (P : Nat) (hP : P ≤ 3) (l d : Int) : ∀ (n : Nat) (b : List Nat) (_ : b.length + n = P) (_ : ∀ x ∈ b, x < 3) (w : World),
    Calls Try.prog 102 #[.int .i64 (P : Int), .agg #[.int .i64 l, .int .i64 d], .string (txtC b)] w (ColsPost (colsF l d n b) w) := by
  intro n
  induction n with
  | zero =>
    intro b hb h3 w
    have hsz : ((txtC b).size : Int) = (P : Int) := by rw [txtC_size]; omega
    have heq : (((txtC b).size : Int) == (P : Int)) = true := beq_iff_eq.2 hsz
    have hs4 : (txtC b).size ≤ 3 := by rw [txtC_size]; omega
    have HC := Lib.hid (fun W => specCovers_any (txtC b) l d W (by rw [txtC_size]; unfold maxLen; omega))
    have HE := Lib.hid (colsF_zero l d b)
    rw [covers_txt b l d (by omega) h3] at HC
    have X0 := Lib.hid (NdBox.new w l d 29)
    have Q0 := Lib.hid (show Below w.heap.size w (w.alloc (.cells #[.int .i64 l, .int .i64 d] 29)) from (Below.refl _ _).alloc (Nat.le_refl _) _)
    clear hsz
    generalize txtC b = tb at *
    cases hk : colOk b l d with
    | true =>
      rw [hk] at HC HE
      rw [HE.out, if_pos rfl]
      have c0 := X0.out.c0
      have c1 := X0.out.c1
      go_enter Try.func102, Try.ntmps102
      go_wp2_with fail
      refine (HC.out _).mono ?_
      rintro e w2 ⟨rfl, hb2⟩
      have B2 := Lib.hid (Q0.out.trans (hb2.mono Q0.out.size))
      clear hb2 c0 c1
      go_wp2_with fail
      go_ret
      exact ⟨_, _, rfl, World.ownsRow_lit w2 #[.string tb] 1 B2.out.size (by unfold maxLen; omega) rfl, B2.out.alloc B2.out.size _⟩
    | false =>
      rw [hk] at HC HE
      rw [HE.out, if_neg (by simp)]
      have c0 := X0.out.c0
      have c1 := X0.out.c1
      go_enter Try.func102, Try.ntmps102
      go_wp2_with fail
      refine (HC.out _).mono ?_
      rintro e w2 ⟨rfl, hb2⟩
      have B2 := Lib.hid (Q0.out.trans (hb2.mono Q0.out.size))
      clear hb2 c0 c1
      go_wp2_with fail
      go_ret
      exact ⟨_, _, rfl, World.ownsRow_lit w2 #[] 0 B2.out.size (by unfold maxLen; omega) rfl, B2.out.alloc B2.out.size _⟩
  | succ n ih =>
    intro b hb h3 w
    have hne : (((txtC b).size : Int) == (P : Int)) = false := by rw [beq_eq_false_iff_ne, txtC_size]; omega
    have hs4 : (txtC b).size ≤ 3 := by rw [txtC_size]; omega
    obtain ⟨u0, hu, hz0, hz1, hz2⟩ := info_parts infoStrC
    have HU := Lib.hid (And.intro hu (And.intro hz0 (And.intro hz1 hz2)))
    have HREC : Hid (∀ (x : Nat) (W : World), x < 3 → Calls Try.prog 102 #[.int .i64 (P : Int), .agg #[.int .i64 l, .int .i64 d], .string (txtC b ++ ⟨#[byteOf x]⟩)] W fun e w' => ∃ (a : Option Addr) (c : Nat), e = .returned (.slice a (colsF l d n (b ++ [x])).length c) ∧ w'.ownsRow W.heap.size 9 1 (.slice a (colsF l d n (b ++ [x])).length c) (colsF l d n (b ++ [x])).length ((colsF l d n (b ++ [x])).map Value.string) ∧ Below W.heap.size W w') := by
      have : ∀ (x : Nat) (W : World), x < 3 → Calls Try.prog 102 #[.int .i64 (P : Int), .agg #[.int .i64 l, .int .i64 d], .string (txtC b ++ ⟨#[byteOf x]⟩)] W fun e w' => ∃ (a : Option Addr) (c : Nat), e = .returned (.slice a (colsF l d n (b ++ [x])).length c) ∧ w'.ownsRow W.heap.size 9 1 (.slice a (colsF l d n (b ++ [x])).length c) (colsF l d n (b ++ [x])).length ((colsF l d n (b ++ [x])).map Value.string) ∧ Below W.heap.size W w' := fun x W hx => by
        rw [txtC_more]
        exact ih (b ++ [x]) (by rw [List.length_append, List.length_singleton]; omega) (fun y hy => by
          rcases List.mem_append.1 hy with hy | hy
          · exact h3 y hy
          · rw [List.mem_singleton.1 hy]; exact hx) W
      exact Lib.hid this
    have HCUT := Lib.hid (fun x hx W => rdn_cutC x hx W)
    have HB27 := Lib.hid (fun x => colsF_bd l d n (b ++ [x]) (by omega))
    have HT27 := Lib.hid (fun x => colsTo_bd l d n b (by omega) x)
    have HT := Lib.hid (fun x => colsTo_succ l d n b x)
    have HT0 := Lib.hid (colsTo_zero l d n b)
    have HALL := Lib.hid (colsTo_all l d n b)
    rw [← HALL.out]
    have X0 := Lib.hid (NdBox.new w l d 29)
    have O0 := Lib.hid ((Own.nil w).box #[.int .i64 l, .int .i64 d] 29)
    have O1 := Lib.hid (O0.out.lit 9 #[] 0 rfl (Nat.zero_le _))
    clear hu hz0 hz1 hz2 ih hb h3
    generalize txtC b = tb at *
    go_enter Try.func102, Try.ntmps102
    go_wp2_with fail
    go_loopw [7, 8] (fun ov iv wr => ∃ (x n' : Nat) (oa : Option Addr) (oc : Nat), x ≤ 3 ∧ iv = .int .i64 (x : Int) ∧ ov = .slice oa n' oc ∧ Hid (n' = (colsTo l d n b x).length) ∧ n' ≤ 81 ∧ Hid (Own w [rowT 9 1 (.slice oa n' oc) n' ((colsTo l d n b x).map Value.string), cellsT w.heap.size #[.int .i64 l, .int .i64 d] 29] wr)) (fun _ iv _ => 3 - (intOf iv).toNat)
    case atStart => exact ⟨0, 0, some ⟨(w.alloc (.cells #[.int .i64 l, .int .i64 d] 29)).heap.size, 0, none⟩, 0, by omega, rfl, by simp, Lib.hid (by rw [HT0.out]; rfl), by omega, Lib.hid (by rw [HT0.out]; exact O1.out)⟩
    case round =>
      obtain ⟨x, n', oa, oc, hx, rfl, rfl, HN, hn81, HO⟩ := hrel
      by_cases hlt : x < 3
      · have XX : Hid (∀ W, Below wr.heap.size wr W → W.cell? ⟨w.heap.size, 0, none⟩ = some (.int .i64 l) ∧ W.cell? ⟨w.heap.size, 1, none⟩ = some (.int .i64 d)) := by
          have h0 := cellsT_cell (HO.out.cells 1 (by simp) rfl) 0
          have h1 := cellsT_cell (HO.out.cells 1 (by simp) rfl) 1
          simp only [List.getElem?_toArray, List.getElem?_cons_zero, List.getElem?_cons_succ] at h0 h1
          have hlt1 : w.heap.size < wr.heap.size := (HO.out.ap.ltAt 1 (by simp) w.heap.size rfl).2
          exact Lib.hid (fun W hb => ⟨(hb.cell (p := ⟨w.heap.size, 0, none⟩) hlt1).trans h0, (hb.cell (p := ⟨w.heap.size, 1, none⟩) hlt1).trans h1⟩)
        have hcut := HCUT.out x hlt
        have hwr : IntKind.i64.wrap ((x : Int) + 1) = (x : Int) + 1 := IntWalk.i64_in _ (by omega)
        have hxi : (x : Int) + 1 ≤ 3 := by omega
        have HR := Lib.hid (fun W => HREC.out x W hlt)
        have hq27 := HB27.out x
        have HTX := Lib.hid (HT.out x)
        have HNX := Lib.hid (HT27.out (x + 1))
        have HNX0 := Lib.hid (HT27.out x)
        have h1s : (⟨#[byteOf x]⟩ : ByteArray).size = 1 := rfl
        generalize (⟨#[byteOf x]⟩ : ByteArray) = one at hcut HR h1s
        have HON := Lib.hid h1s
        have h1s2 : one.size ≤ 1 := by omega
        have hadd : ∀ W, (Op.stringOp .add tb one).run Try.prog W = .ok (.string (tb ++ one)) W := fun W => run_string_add_sum (P := Try.prog) (w := W) tb one (by omega)
        have BD := Lib.hid ((Below.refl wr.heap.size wr).drew)
        have c0 := (XX.out wr (Below.refl _ _)).1
        have c1 := (XX.out wr (Below.refl _ _)).2
        clear h1s
        generalize colsF l d n (b ++ [x]) = qs at *
        obtain ⟨q, hq⟩ : ∃ q, qs.length = q := ⟨_, rfl⟩
        rw [hq] at hq27 HR
        have HQ := Lib.hid hq
        clear hq
        by_cases hq0 : 0 < q
        · go_wp2_with fail
          go_region_held3 (fun w' => w'.cell? ⟨w.heap.size, 0, none⟩ = some (.int .i64 l) ∧ w'.cell? ⟨w.heap.size, 1, none⟩ = some (.int .i64 d))
            (first | exact XX.out _ (Below.refl _ _) | exact XX.out _ BD.out | exact XX.out _ kb.out | exact ⟨cellsT_cell (O6.out.cells 1 (by simp) rfl) 0, cellsT_cell (O6.out.cells 1 (by simp) rfl) 1⟩)
            (first | (refine step_append_lies _ rfl _ _ 23 rfl 0 9 u0 (.string ⟨#[]⟩) 1 16 Try.underlying23 HU.out.1 HU.out.2.1 HU.out.2.2.1 HU.out.2.2.2 rfl (by decide) (.slice oa n' oc) n' ((colsTo l d n b x).map Value.string) rfl (O5.out.row 0 (by simp) rfl) ⟨g5, off5, none⟩ q rc (qs.map Value.string) rfl (by rw [List.length_map, HQ.out, Nat.mul_one]) HN5.out one_cellS (by omega) (by unfold maxLen; omega) (by omega) (Nat.zero_le _) _ rfl ?_; intro gG cG wG hown hgrow hat hltG; have O6 := Lib.hid (O5.out.turnC (i := 0) (by simp) rfl hgrow hown hat); clear hown hgrow hat hltG) | (go_at_call 102; with_reducible refine Calls.mono (HR.out _) ?_; rintro e w5 ⟨ra, rc, rfl, ho5, hb5⟩; have kb : Hid (Below wr.heap.size wr w5) := Lib.hid (BD.out.trans (hb5.mono BD.out.size)); have O5 := Lib.hid (HO.out.below kb.out); have IS : Hid (IsStrs w5 (.slice ra q rc) qs) := Lib.hid (IsStrs.of_owns (by rw [HQ.out]; exact ho5)); clear ho5 hb5; obtain ⟨g5, off5, c5, hsl, hn5⟩ := IS.out.newsC (by rw [HQ.out]; exact hq0); simp only [Value.slice.injEq] at hsl; obtain ⟨rfl, -, -⟩ := hsl; have HN5 := Lib.hid hn5; clear hn5))
          all_goals
            go_wp2_with fail
            go_roundw
            case rel => exact ⟨x + 1, n' + q, some ⟨gG, 0, none⟩, cG, by omega, by go_num, rfl, Lib.hid (by rw [HTX.out, List.length_append, HQ.out, HN.out]), by have := HNX.out; rw [HTX.out, List.length_append, HQ.out, ← HN.out] at this; omega, Lib.hid (by rw [HTX.out, List.map_append]; exact O6.out)⟩
            case measure => simp [intOf]; omega
        · obtain rfl : q = 0 := by omega
          have hqn : qs = [] := List.eq_nil_of_length_eq_zero HQ.out
          have HQN := Lib.hid hqn
          clear hqn
          go_wp2_with fail
          go_region_held3 (fun w' => w'.cell? ⟨w.heap.size, 0, none⟩ = some (.int .i64 l) ∧ w'.cell? ⟨w.heap.size, 1, none⟩ = some (.int .i64 d))
            (first | exact XX.out _ (Below.refl _ _) | exact XX.out _ BD.out | exact XX.out _ kb.out)
            (first | (refine step_append_zeroC rfl _ _ 23 rfl 0 9 u0 1 Try.underlying23 HU.out.1 (.slice oa n' oc) n' ((colsTo l d n b x).map Value.string) rfl (O5.out.row 0 (by simp) rfl) ra rc rfl ?_) | (go_at_call 102; with_reducible refine Calls.mono (HR.out _) ?_; rintro e w5 ⟨ra, rc, rfl, ho5, hb5⟩; have kb : Hid (Below wr.heap.size wr w5) := Lib.hid (BD.out.trans (hb5.mono BD.out.size)); have O5 := Lib.hid (HO.out.below kb.out); clear ho5 hb5))
          all_goals
            go_wp2_with fail
            go_roundw
            case rel => exact ⟨x + 1, n', oa, oc, by omega, by go_num, rfl, Lib.hid (by rw [HTX.out, HQN.out, List.append_nil]; exact HN.out), hn81, Lib.hid (by rw [HTX.out, HQN.out, List.append_nil]; exact O5.out)⟩
            case measure => simp [intOf]; omega
      · obtain rfl : x = 3 := by omega
        have HR := Lib.hid (ownsRow_base (B := w.heap.size) (HO.out.row 0 (by simp) rfl) (fun j e => ((HO.out.ap.ltAt 0 (by simp)) j e).1))
        obtain rfl := HN.out
        go_wp2_with fail
        go_ret
        exact ⟨oa, oc, rfl, HR.out, HO.out.keep⟩
end Go.Proofs.Ytlbblfbiiceofaa

namespace Go.Proofs.Ytlbblfbiiceofaa
open Go.RowKit

theorem srch_done {most : Nat} {Rc R : List (List ByteArray)} (h : Rc <+: R) (hm : 1 ≤ most) (hn : most ≤ min most Rc.length) : min most R.length = min most Rc.length ∧ R.headD [] = Rc.headD [] := by
  obtain ⟨T, rfl⟩ := h
  have h1 : most ≤ Rc.length := by omega
  refine ⟨by rw [List.length_append]; omega, ?_⟩
  cases Rc with
  | nil => simp at h1; omega
  | cons a l => rfl
theorem srch_step {most n : Nat} {Rc R1 : List (List ByteArray)} (hn : n = min most Rc.length) (h : n < most) : n + min (most - n) R1.length = min most (Rc ++ R1).length := by
  rw [List.length_append]; omega
theorem srch_head0 {most n : Nat} {Rc R1 : List (List ByteArray)} (hn : n = min most Rc.length) (hm : 1 ≤ most) (h : n = 0) : (Rc ++ R1).headD [] = R1.headD [] := by
  have : Rc = [] := List.eq_nil_of_length_eq_zero (by omega)
  subst this; rfl
theorem srch_head1 {most n : Nat} {Rc R1 : List (List ByteArray)} (hn : n = min most Rc.length) (h : 0 < n) : (Rc ++ R1).headD [] = Rc.headD [] := by
  cases Rc with
  | nil => simp at hn; omega
  | cons a l => rfl
theorem srch_none {most n : Nat} {R1 : List (List ByteArray)} (hm : n < most) (h : min (most - n) R1.length = 0) : R1 = [] := List.eq_nil_of_length_eq_zero (by omega)
theorem rosOne_yes {m : M} {cols : List ByteArray} {k : Nat} {A : List ByteArray} {c : ByteArray} (h : okW m k (extW A c) = true) : rosOne m cols k A c = rosW m cols k (extW A c) := if_pos h
theorem rosOne_no {m : M} {cols : List ByteArray} {k : Nat} {A : List ByteArray} {c : ByteArray} (h : okW m k (extW A c) = false) : rosOne m cols k A c = [] := if_neg (by rw [h]; simp)
theorem okW_yes {m : M} {k : Nat} {X : List ByteArray} (h : ∀ i (hi : i < X.length), m.ways k (m.goes 0 X[i].data.toList) ≠ 0) : okW m k X = true := by
  rw [okW, List.all_eq_true]
  intro s hs
  obtain ⟨i, hi, rfl⟩ := List.mem_iff_getElem.1 hs
  exact decide_eq_true (h i hi)
theorem okW_no {m : M} {k : Nat} {X : List ByteArray} (i : Nat) (hi : i < X.length) (h : m.ways k (m.goes 0 X[i].data.toList) = 0) : okW m k X = false := by
  rw [okW, List.all_eq_false]
  exact ⟨X[i], List.getElem_mem hi, by simp [h]⟩
theorem word_more {s : ByteArray} {b : UInt8} (hs : wordOk s = true) (hb : isL b = true) (hl : s.size ≤ 13) : wordOk (s ++ ⟨#[b]⟩) = true := by
  have h1 : (s ++ (⟨#[b]⟩ : ByteArray)).data.toList = s.data.toList ++ [b] := by rw [ByteArray.data_append, Array.toList_append]
  have h2 : (s ++ (⟨#[b]⟩ : ByteArray)).size = s.size + 1 := by rw [ByteArray.size_append]; rfl
  simp only [wordOk, Bool.and_eq_true, decide_eq_true_eq] at hs ⊢
  rw [h1, h2]
  refine ⟨?_, by omega⟩
  rw [allL, List.all_append]
  have := hs.1
  rw [allL] at this
  simp [this, hb]

/-- the box of a machine -/
structure McBox (B : Nat) (st : Int) (nv ev : Value) (w : World) : Prop where
  c0 : w.cell? ⟨B, 0, none⟩ = some (.int .i64 st)
  c1 : w.cell? ⟨B, 1, none⟩ = some nv
  c2 : w.cell? ⟨B, 2, none⟩ = some ev
  lt : B < w.heap.size
theorem McBox.new (w : World) (st : Int) (nv ev : Value) (t : TypeId) : McBox w.heap.size st nv ev (w.alloc (.cells #[.int .i64 st, nv, ev] t)) := ⟨World.cell?_alloc_new w _ _ 0, World.cell?_alloc_new w _ _ 1, World.cell?_alloc_new w _ _ 2, by simp⟩
theorem McBox.below {B : Nat} {st : Int} {nv ev : Value} {w w' : World} (h : McBox B st nv ev w) (hb : Below w.heap.size w w') : McBox B st nv ev w' :=
  ⟨(hb.cell (p := ⟨B, 0, none⟩) h.lt).trans h.c0, (hb.cell (p := ⟨B, 1, none⟩) h.lt).trans h.c1, (hb.cell (p := ⟨B, 2, none⟩) h.lt).trans h.c2, Nat.lt_of_lt_of_le h.lt hb.size⟩

/-- what l10Search leaves: the first one, and how many -/
def SrchPost (R : List (List ByteArray)) (most B : Nat) (w : World) (e : Ending) (w' : World) : Prop :=
  ∃ (a : Option Addr) (c n q : Nat), e = .returned (.tuple #[.slice a n c, .int .i64 (q : Int)]) ∧ n = (R.headD []).length ∧ q = min most R.length ∧ w'.ownsRow B 9 1 (.slice a n c) n ((R.headD []).map Value.string) ∧ Below w.heap.size w w'
/-- the rows that are searched on -/
structure SrchIn (D k : Nat) (cols A : List ByteArray) : Prop where
  a1 : 1 ≤ A.length
  a3 : A.length ≤ 3
  aw : ∀ s ∈ A, s.size + k = D ∧ wordOk s = true
  cc : ∀ c ∈ cols, c.size = A.length ∧ wordOk c = true
  cl : cols.length ≤ 27
theorem SrchIn.ext {D k : Nat} {cols A : List ByteArray} (h : SrchIn D (k + 1) cols A) (hD : D ≤ 5) {c : ByteArray} (hc : c ∈ cols) : SrchIn D k cols (extW A c) ∧ (extW A c).length = A.length := by
  obtain ⟨c1, c2⟩ := h.cc c hc
  have hl := extW_length A c c1
  refine ⟨⟨by rw [hl]; exact h.a1, by rw [hl]; exact h.a3, fun s hs => ?_, fun d hd => by rw [hl]; exact h.cc d hd, h.cl⟩, hl⟩
  obtain ⟨j, hj, rfl⟩ := List.mem_iff_getElem.1 hs
  have hj2 : j < A.length := by omega
  rw [extW_get A c c1 j hj2]
  obtain ⟨h1, h2⟩ := h.aw A[j] (List.getElem_mem hj2)
  refine ⟨by rw [ByteArray.size_append]; show A[j].size + 1 + k = D; omega, word_more h2 (isL_byteAt c2 j (by omega)) (by omega)⟩
end Go.Proofs.Ytlbblfbiiceofaa

namespace Go.Proofs.Ytlbblfbiiceofaa
open Go.RowKit

theorem owns_belowX {w w' : World} {base : Nat} {e : TypeId} {size : Nat} {v : Value} {n : Nat} {xs : List Value} (h : w.ownsRow base e size v n xs) (hb : Below w.heap.size w w') : w'.ownsRow base e size v n xs :=
  h.kept (row := none) ⟨hb.os, hb.tape, hb.output, hb.size, fun k hk _ => hb.block k hk⟩ (by cases v.ownBlock <;> simp)
/-- the next rows, as far as they are made -/
structure NextAt (m : M) (k : Nat) (X : List ByteArray) (j : Nat) (mb : Bool) (ys : List ByteArray) : Prop where
  len : ys.length = j
  yes : mb = true → ys = X.take j ∧ ∀ i (hi : i < X.length), i < j → m.ways k (m.goes 0 X[i].data.toList) ≠ 0
  no : mb = false → okW m k X = false
theorem NextAt.step {m : M} {k : Nat} {X : List ByteArray} {j : Nat} {ys : List ByteArray} (h : NextAt m k X j true ys) (hj : j < X.length) (b : Bool) (hb : b = decide (m.ways k (m.goes 0 X[j].data.toList) ≠ 0)) : NextAt m k X (j + 1) b (ys ++ [X[j]]) := by
  obtain ⟨h1, h2⟩ := h.yes rfl
  refine ⟨by rw [List.length_append, h.len]; rfl, fun e => ⟨by rw [h1, List.take_succ_eq_append_getElem hj], fun i hi hij => ?_⟩, fun e => ?_⟩
  · by_cases he : i = j
    · subst he
      rw [e] at hb
      exact of_decide_eq_true hb.symm
    · exact h2 i hi (by omega)
  · rw [e] at hb
    have := of_decide_eq_false hb.symm
    exact okW_no j hj (by omega)
theorem NextAt.done {m : M} {k : Nat} {X : List ByteArray} {ys : List ByteArray} (h : NextAt m k X X.length true ys) : ys = X ∧ okW m k X = true := by
  obtain ⟨h1, h2⟩ := h.yes rfl
  exact ⟨by rw [h1, List.take_length], okW_yes fun i hi => h2 i hi hi⟩

set_option maxHeartbeats 12800000 in
set_option maxRecDepth 20000 in
theorem specSearch_any (m : M) (hk : m.ok = true) (D : Nat) (hD : D ≤ 5) (cols : List ByteArray) (a1 a2 : Option Addr) (c1 c2 : Nat) (cv : Value) (B : Nat) :
    ∀ (k : Nat) (A : List ByteArray) (_ : SrchIn D k cols A) (most : Nat) (_ : 1 ≤ most) (_ : most ≤ 1000000) (ra : Option Addr) (rc : Nat) (w : World) (_ : B ≤ w.heap.size) (_ : w.ownsRow B 9 1 (.slice ra A.length rc) A.length (A.map Value.string)) (_ : IsInts w (.slice a1 m.next.length c1) m.next) (_ : IsBools w (.slice a2 m.ends.length c2) m.ends) (_ : IsStrs w cv cols),
    Calls Try.prog 101 #[.agg #[.int .i64 m.st, .slice a1 m.next.length c1, .slice a2 m.ends.length c2], .slice ra A.length rc, .int .i64 (D : Int), cv, .int .i64 (most : Int)] w (SrchPost (rosW m cols k A) most B w) := by
  intro k
  induction k with
  | zero =>
    intro A hA most hm1 hm2 ra rc w hB hrow h1 h2 hcv
    have h0 : 0 < A.length := hA.a1
    obtain ⟨cva, cvc, rfl, -, -⟩ := hcv.form
    have hI := IsStrs.of_owns hrow
    obtain ⟨g, off, rfl, hg, hc⟩ := hI.at h0
    have hc0 := hc 0 h0
    have hz := (hA.aw A[0] (List.getElem_mem h0)).1
    have heq : ((A[0].size : Int) == (D : Int)) = true := beq_iff_eq.2 (by omega)
    have hs5 : A[0].size ≤ 5 := by omega
    have Q0 := Lib.hid (show Below w.heap.size w (w.alloc (.cells #[.int .i64 m.st, .slice a1 m.next.length c1, .slice a2 m.ends.length c2] 115)) from (Below.refl _ _).alloc (Nat.le_refl _) _)
    have HR := Lib.hid (owns_belowX hrow Q0.out)
    have c0 : w.cell? ⟨g, off, none⟩ = some (.string A[0]) := hc0
    have HMN : Hid ((1 : Nat) = min most 1) := by
      have : (1 : Nat) = min most 1 := by omega
      exact Lib.hid this
    clear hc hc0 hI hrow h1 h2 hcv hz
    generalize A[0] = s0 at *
    go_enter Try.func101, Try.ntmps101
    go_wp2_with fail
    go_ret2
    exact ⟨_, _, A.length, 1, rfl, rfl, HMN.out, HR.out, Q0.out⟩
  | succ k ih =>
    intro A hA most hm1 hm2 ra rc w hB hrow h1 h2 hcv
    obtain ⟨u0, hu, hz0, hz1, hz2⟩ := info_parts infoStrC
    have HU := Lib.hid (And.intro hu (And.intro hz0 (And.intro hz1 hz2)))
    have h0 : 0 < A.length := hA.a1
    have hA3 : A.length ≤ 3 := hA.a3
    have hc27 : cols.length ≤ 27 := hA.cl
    have HA := Lib.hid hA
    obtain ⟨cva, cvc, rfl, hcv1, hcv2⟩ := hcv.form
    have hrb : ∀ j, (Value.slice ra A.length rc).ownBlock = some j → j < w.heap.size := fun j e => (World.ownsRow.lt hrow j e).2
    have hI := IsStrs.of_owns hrow
    obtain ⟨g, off, rfl, hg, hc⟩ := hI.at h0
    have HG := Lib.hid hg
    have HC := Lib.hid hc
    have HCV := Lib.hid hcv
    have H1 := Lib.hid h1
    have H2 := Lib.hid h2
    have hc0 : w.cell? ⟨g, off, none⟩ = some (.string A[0]) := hc 0 h0
    have hz := (hA.aw A[0] (List.getElem_mem h0)).1
    have hne : ((A[0].size : Int) == (D : Int)) = false := by rw [beq_eq_false_iff_ne]; omega
    have hs5 : A[0].size ≤ 5 := by omega
    have X0 := Lib.hid (McBox.new w m.st (.slice a1 m.next.length c1) (.slice a2 m.ends.length c2) 115)
    have Q0 := Lib.hid (show Below w.heap.size w (w.alloc (.cells #[.int .i64 m.st, .slice a1 m.next.length c1, .slice a2 m.ends.length c2] 115)) from (Below.refl _ _).alloc (Nat.le_refl _) _)
    have HSH := Lib.hid (M.ok_shape hk)
    have HK := Lib.hid hk
    have hst48 : m.st ≤ 48 := (M.ok_shape hk).2.1
    have hst0 : 0 < m.st := by have := M.ok_shape hk; omega
    have HBB := Lib.hid hB
    have HIH := Lib.hid ih
    clear hu hz0 hz1 hz2 hrow hI hc hcv h1 h2 hz hA hk ih hB hrb
    generalize A[0] = s0 at *
    go_enter Try.func101, Try.ntmps101
    have L0 := Lib.hid (World.ownsRow_lit (base := B) (e := 9) (size := 1) (w.alloc (.cells #[.int .i64 m.st, .slice a1 m.next.length c1, .slice a2 m.ends.length c2] 115)) #[] 0 (Nat.le_trans HBB.out Q0.out.size) (Nat.zero_le _) rfl)
    have Q1 := Lib.hid (Q0.out.alloc Q0.out.size (.cells #[] 9))
    have X1 := Lib.hid (X0.out.below ((Below.refl _ _).alloc (Nat.le_refl _) (.cells #[] 9)))
    go_wp2_with fail
    go_loopw [12, 13, 14, 15, 16, 17, 18, 19, 20, 21] (fun fv nvv iv _ _ _ _ _ _ _ wr => ∃ (c nn fl : Nat) (fa : Option Addr) (fc : Nat), c ≤ cols.length ∧ iv = .int .i64 (c : Int) ∧ nvv = .int .i64 (nn : Int) ∧ nn ≤ most ∧ Hid (nn = min most (rosTo m cols k A c).length) ∧ fv = .slice fa fl fc ∧ Hid (fl = ((rosTo m cols k A c).headD []).length) ∧ Hid (wr.ownsRow B 9 1 (.slice fa fl fc) fl (((rosTo m cols k A c).headD []).map Value.string)) ∧ Hid (Below w.heap.size w wr) ∧ Hid (McBox w.heap.size m.st (.slice a1 m.next.length c1) (.slice a2 m.ends.length c2) wr)) (fun _ _ iv _ _ _ _ _ _ _ _ => cols.length - (intOf iv).toNat)
    case atStart => exact ⟨0, 0, 0, _, 0, Nat.zero_le _, rfl, rfl, by omega, Lib.hid (by rw [rosTo_zero]; simp), rfl, Lib.hid (by rw [rosTo_zero]; rfl), Lib.hid (by rw [rosTo_zero]; simpa using L0.out), Q1, X1⟩
    case round =>
      obtain ⟨c, nn, fl, fa, fc, hc, rfl, rfl, hnm, HN, rfl, HFL, HF, BB, XX⟩ := hrel
      obtain ⟨wo, rfl⟩ : ∃ wo : World, wo = wr := ⟨_, rfl⟩
      by_cases hlt : c < cols.length
      · by_cases hnn : nn < most
        · have HST := Lib.hid (rosTo_succ m cols k A c hlt)
          have hcm : cols[c] ∈ cols := List.getElem_mem hlt
          obtain ⟨hin, hxl⟩ := HA.out.ext hD hcm
          have HIN := Lib.hid hin
          have HXL := Lib.hid hxl
          obtain ⟨hcs, hcw⟩ := HA.out.cc cols[c] hcm
          have HXG : Hid (∀ j (hj : j < A.length), (extW A cols[c])[j]? = some (A[j] ++ ⟨#[byteAt cols[c] j]⟩)) := by
            have : ∀ j (hj : j < A.length), (extW A cols[c])[j]? = some (A[j] ++ ⟨#[byteAt cols[c] j]⟩) := fun j hj => by
              rw [List.getElem?_eq_getElem (by rw [hxl]; exact hj), extW_get A cols[c] hcs j hj]
            exact Lib.hid this
          have HCS := Lib.hid hcs
          obtain ⟨gc, oc, rfl, hgc, hccl⟩ := HCV.out.at (by omega)
          have HCC := Lib.hid (fun W (hb : Below w.heap.size w W) => (hb.cell (p := ⟨gc, oc + c, none⟩) hgc).trans (hccl c hlt))
          have hcs3 : cols[c].size ≤ 3 := by omega
          clear hin hxl hcm hcs hcw hgc hccl
          generalize cols[c] = cc at *
          have O0 := Lib.hid ((Own.nil wo).lit 9 #[] 0 rfl (Nat.zero_le _))
          go_wp2_with fail
          go_loopw [15, 16, 17, 18, 19] (fun xv mv jv _ _ wq => ∃ (j : Nat) (mb : Bool) (ys : List ByteArray) (na : Option Addr) (nc : Nat), j ≤ A.length ∧ jv = .int .i64 (j : Int) ∧ mv = .bool mb ∧ xv = .slice na j nc ∧ Hid (NextAt m k (extW A cc) j mb ys) ∧ Hid (Own wo [rowT 9 1 (.slice na j nc) j (ys.map Value.string)] wq)) (fun _ _ jv _ _ _ => A.length - (intOf jv).toNat)
          case atStart => exact ⟨0, true, [], _, 0, Nat.zero_le _, rfl, rfl, rfl, Lib.hid ⟨rfl, fun _ => ⟨rfl, fun i _ h => absurd h (Nat.not_lt_zero _)⟩, fun e => by cases e⟩, O0⟩
          case round =>
            obtain ⟨j, mb, ys, na, nc, hj, rfl, rfl, rfl, HNX, HO⟩ := hrel
            clear O0
            have BW := Lib.hid (BB.out.trans (HO.out.keep.mono BB.out.size))
            have XW := Lib.hid (XX.out.below HO.out.keep)
            by_cases hjl : j < A.length
            · cases mb with
              | true =>
                have hjx : j < (extW A cc).length := by have := HXL.out; omega
                have HSTEP := Lib.hid (fun b hb => HNX.out.step hjx b hb)
                have hXg : (extW A cc)[j] = A[j] ++ ⟨#[byteAt cc j]⟩ := by
                  have := HXG.out j hjl
                  rw [List.getElem?_eq_getElem hjx] at this
                  exact Option.some.inj this
                obtain ⟨hws, hww⟩ := HIN.out.aw (extW A cc)[j] (List.getElem_mem hjx)
                have hjc : j < cc.size := by have := HCS.out; omega
                rw [← extract_one cc j hjc] at hXg
                have ck := HCC.out _ BW.out
                have aj := (BW.out.cell (p := ⟨g, off + j, none⟩) HG.out).trans (HC.out j hjl)
                have hcut := fun W => cut_one cc j hjc W
                have hwr : IntKind.i64.wrap ((j : Int) + 1) = (j : Int) + 1 := IntWalk.i64_in _ (by omega)
                have hjci : (j : Int) + 1 ≤ (cc.size : Int) := by omega
                have hsz1 : (cc.extract j (j + 1)).size = 1 := by rw [extract_one cc j hjc]; rfl
                have haj5 : A[j].size ≤ 5 := by have := (HA.out.aw A[j] (List.getElem_mem hjl)).1; omega
                have hadd : ∀ W, (Op.stringOp .add A[j] (cc.extract j (j + 1))).run Try.prog W = .ok (.string (A[j] ++ cc.extract j (j + 1))) W := fun W => run_string_add_sum (P := Try.prog) (w := W) A[j] (cc.extract j (j + 1)) (by omega)
                rw [hXg] at hws hww HSTEP
                clear hXg
                have hwd5 : (A[j] ++ cc.extract j (j + 1)).size ≤ 5 := by omega
                obtain ⟨wd, hwd⟩ : ∃ wd, A[j] ++ cc.extract j (j + 1) = wd := ⟨_, rfl⟩
                rw [hwd] at hadd hws hww HSTEP hwd5
                have hgo := M.goes_bd HK.out 0 wd.data.toList (by omega) (by omega) (by
                  have := hww
                  simp only [wordOk, Bool.and_eq_true] at this
                  exact this.1)
                have HFROM := Lib.hid (fun W (h : IsInts W (.slice a1 m.next.length c1) m.next) => specL2From_any m 0 wd (.slice a1 m.next.length c1) (.slice a2 m.ends.length c2) W h HK.out hww (by omega) (by omega))
                have hDk : (D : Int) - (wd.size : Int) = (k : Int) := by omega
                have hDw : IntKind.i64.wrap ((D : Int) - (wd.size : Int)) = (D : Int) - (wd.size : Int) := IntWalk.i64_in _ (by omega)
                have hwb := m.ways_bd k (m.goes 0 wd.data.toList) (by omega)
                have HLT := Lib.hid (m.ways_lt k (m.goes 0 wd.data.toList))
                have HMANY : Hid (0 ≤ m.goes 0 wd.data.toList → ∀ W, IsInts W (.slice a1 m.next.length c1) m.next → IsBools W (.slice a2 m.ends.length c2) m.ends → Calls Try.prog 100 #[.agg #[.int .i64 m.st, .slice a1 m.next.length c1, .slice a2 m.ends.length c2], .int .i64 (m.goes 0 wd.data.toList), .int .i64 ((D : Int) - (wd.size : Int))] W fun e w' => e = .returned (.int .i64 (m.ways k (m.goes 0 wd.data.toList))) ∧ Below W.heap.size W w') := by
                  have : 0 ≤ m.goes 0 wd.data.toList → ∀ W, IsInts W (.slice a1 m.next.length c1) m.next → IsBools W (.slice a2 m.ends.length c2) m.ends → Calls Try.prog 100 #[.agg #[.int .i64 m.st, .slice a1 m.next.length c1, .slice a2 m.ends.length c2], .int .i64 (m.goes 0 wd.data.toList), .int .i64 ((D : Int) - (wd.size : Int))] W fun e w' => e = .returned (.int .i64 (m.ways k (m.goes 0 wd.data.toList))) ∧ Below W.heap.size W w' := fun h0 W hi hb => by
                    rw [hDk]
                    exact l6Many_any m (m.goes 0 wd.data.toList) k (.slice a1 m.next.length c1) (.slice a2 m.ends.length c2) W hi hb (M.ok_good HK.out) h0 (by omega) (by omega)
                  exact Lib.hid this
                have HWD := Lib.hid hwd
                clear hwd hDk hws hww
                generalize A[j] = sj at *
                generalize cc.extract j (j + 1) = ex at *
                generalize m.ways k (m.goes 0 wd.data.toList) = wy at *
                generalize m.goes 0 wd.data.toList = gs at *
                have e1 := XW.out.c0
                have e2 := XW.out.c1
                have e3 := XW.out.c2
                have HWK : Hid (∀ q, Below wr.heap.size wr (wr.drewN q)) := Lib.hid (fun q => below_drewN (Below.refl _ _) q)
                go_wp2_with fail
                go_quiet (fail)
                go_wp2_with fail
                have BW2 := Lib.hid (BW.out.trans ((HWK.out nq).mono BW.out.size))
                refine (HFROM.out _ (H1.out.below BW2.out)).mono ?_
                rintro e w5 ⟨rfl, hb5⟩
                have W5 := Lib.hid (BW2.out.trans (hb5.mono BW2.out.size))
                have O5 := Lib.hid ((HO.out.drewN nq).below hb5)
                have X5 := Lib.hid (XX.out.below O5.out.keep)
                clear hb5 e1 e2 e3 ck aj hcut hadd
                have hgs1 := hgo.1
                have hgs2 := hgo.2
                have hwy1 := hwb.1
                have hwy2 := hwb.2
                clear hgo hwb
                by_cases hneg : gs < 0
                · have hw0 := HLT.out hneg
                  have hd0 : decide (0 ≤ gs) = false := decide_eq_false (by omega)
                  have HS9 := Lib.hid (HSTEP.out false (by rw [hw0]; simp))
                  go_wp2_with (at_builtin; refine wpList_append_lies _ rfl _ _ 23 rfl 0 9 u0 (.string ⟨#[]⟩) 1 16 Try.underlying23 HU.out.1 HU.out.2.1 HU.out.2.2.1 HU.out.2.2.2 rfl (by decide) (.slice na j nc) j (ys.map Value.string) rfl ((O5.out.row 0 (by simp) rfl).alloc _) ⟨w5.heap.size, 0, none⟩ 1 1 [.string wd] rfl rfl (cellRD _ _ _) (by simp [Value.oneCell']) (by omega) (by unfold maxLen; omega) (by omega) (Nat.zero_le _) _ rfl ?_; intro g9 cp w9 hown hgrow hat hlt3; have O9 := Lib.hid (O5.out.push (i := 0) (by simp) rfl hgrow hown hat); clear hown hgrow hat hlt3)
                  go_roundw
                  case rel => exact ⟨j + 1, false, ys ++ [wd], some ⟨g9, 0, none⟩, cp, by omega, by go_num, rfl, rfl, HS9, Lib.hid (by rw [List.map_append]; exact O9.out)⟩
                  case measure => simp [intOf]; omega
                · have hd0 : decide (0 ≤ gs) = true := decide_eq_true (by omega)
                  have e1 := X5.out.c0
                  have e2 := X5.out.c1
                  have e3 := X5.out.c2
                  go_wp2_with fail
                  refine (HMANY.out (by omega) _ (H1.out.below W5.out) (H2.out.below W5.out)).mono ?_
                  rintro e w7 ⟨rfl, hb7⟩
                  have O7 := Lib.hid (O5.out.below hb7)
                  clear hb7 e1 e2 e3
                  by_cases hpos : 0 < wy
                  · have hd1 : decide (0 < wy) = true := decide_eq_true hpos
                    have HS9 := Lib.hid (HSTEP.out true (by symm; exact decide_eq_true (by omega)))
                    go_wp2_with (at_builtin; refine wpList_append_lies _ rfl _ _ 23 rfl 0 9 u0 (.string ⟨#[]⟩) 1 16 Try.underlying23 HU.out.1 HU.out.2.1 HU.out.2.2.1 HU.out.2.2.2 rfl (by decide) (.slice na j nc) j (ys.map Value.string) rfl ((O7.out.row 0 (by simp) rfl).alloc _) ⟨w7.heap.size, 0, none⟩ 1 1 [.string wd] rfl rfl (cellRD _ _ _) (by simp [Value.oneCell']) (by omega) (by unfold maxLen; omega) (by omega) (Nat.zero_le _) _ rfl ?_; intro g9 cp w9 hown hgrow hat hlt3; have O9 := Lib.hid (O7.out.push (i := 0) (by simp) rfl hgrow hown hat); clear hown hgrow hat hlt3)
                    go_roundw
                    case rel => exact ⟨j + 1, true, ys ++ [wd], some ⟨g9, 0, none⟩, cp, by omega, by go_num, rfl, rfl, HS9, Lib.hid (by rw [List.map_append]; exact O9.out)⟩
                    case measure => simp [intOf]; omega
                  · have hd1 : decide (0 < wy) = false := decide_eq_false hpos
                    have HS9 := Lib.hid (HSTEP.out false (by symm; exact decide_eq_false (by omega)))
                    go_wp2_with (at_builtin; refine wpList_append_lies _ rfl _ _ 23 rfl 0 9 u0 (.string ⟨#[]⟩) 1 16 Try.underlying23 HU.out.1 HU.out.2.1 HU.out.2.2.1 HU.out.2.2.2 rfl (by decide) (.slice na j nc) j (ys.map Value.string) rfl ((O7.out.row 0 (by simp) rfl).alloc _) ⟨w7.heap.size, 0, none⟩ 1 1 [.string wd] rfl rfl (cellRD _ _ _) (by simp [Value.oneCell']) (by omega) (by unfold maxLen; omega) (by omega) (Nat.zero_le _) _ rfl ?_; intro g9 cp w9 hown hgrow hat hlt3; have O9 := Lib.hid (O7.out.push (i := 0) (by simp) rfl hgrow hown hat); clear hown hgrow hat hlt3)
                    go_roundw
                    case rel => exact ⟨j + 1, false, ys ++ [wd], some ⟨g9, 0, none⟩, cp, by omega, by go_num, rfl, rfl, HS9, Lib.hid (by rw [List.map_append]; exact O9.out)⟩
                    case measure => simp [intOf]; omega
              | false =>
                have HOKN := Lib.hid (HNX.out.no rfl)
                have HSAME : Hid (rosTo m cols k A (c + 1) = rosTo m cols k A c) := by
                  have : rosTo m cols k A (c + 1) = rosTo m cols k A c := by rw [HST.out, rosOne_no HOKN.out, List.append_nil]
                  exact Lib.hid this
                have HF2 := Lib.hid (owns_belowX HF.out HO.out.keep)
                go_wp2_with fail
                go_roundw
                case rel => exact ⟨c + 1, nn, fl, fa, fc, by omega, by go_num, rfl, hnm, Lib.hid (by rw [HSAME.out]; exact HN.out), rfl, Lib.hid (by rw [HSAME.out]; exact HFL.out), Lib.hid (by rw [HSAME.out]; exact HF2.out), BW, XW⟩
                case measure => simp [intOf]; omega
            · obtain rfl : j = A.length := by omega
              cases mb with
              | false =>
                have HOKN := Lib.hid (HNX.out.no rfl)
                have HSAME : Hid (rosTo m cols k A (c + 1) = rosTo m cols k A c) := by
                  have : rosTo m cols k A (c + 1) = rosTo m cols k A c := by rw [HST.out, rosOne_no HOKN.out, List.append_nil]
                  exact Lib.hid this
                have HF2 := Lib.hid (owns_belowX HF.out HO.out.keep)
                go_wp2_with fail
                go_roundw
                case rel => exact ⟨c + 1, nn, fl, fa, fc, by omega, by go_num, rfl, hnm, Lib.hid (by rw [HSAME.out]; exact HN.out), rfl, Lib.hid (by rw [HSAME.out]; exact HFL.out), Lib.hid (by rw [HSAME.out]; exact HF2.out), BW, XW⟩
                case measure => simp [intOf]; omega
              | true =>
                have hnx := HNX.out
                rw [← HXL.out] at hnx
                obtain ⟨hys, hok⟩ := hnx.done
                have HRS : Hid (rosTo m cols k A (c + 1) = rosTo m cols k A c ++ rosW m cols k (extW A cc)) := by
                  have : rosTo m cols k A (c + 1) = rosTo m cols k A c ++ rosW m cols k (extW A cc) := by rw [HST.out, rosOne_yes hok]
                  exact Lib.hid this
                have hrw := ownsRow_base (B := B) (HO.out.row 0 (by simp) rfl) (fun i e => Nat.le_trans (Nat.le_trans HBB.out BB.out.size) ((HO.out.ap.ltAt 0 (by simp)) i e).1)
                rw [hys] at hrw
                have hmost : ((most - nn : Nat) : Int) = (most : Int) - (nn : Int) := by omega
                have HREC : Hid (Calls Try.prog 101 #[.agg #[.int .i64 m.st, .slice a1 m.next.length c1, .slice a2 m.ends.length c2], .slice na A.length nc, .int .i64 (D : Int), .slice (some ⟨gc, oc, none⟩) cols.length cvc, .int .i64 ((most : Int) - (nn : Int))] wr fun e w' => ∃ (a : Option Addr) (c n q : Nat), e = .returned (.tuple #[.slice a n c, .int .i64 (q : Int)]) ∧ n = ((rosW m cols k (extW A cc)).headD []).length ∧ q = min (most - nn) (rosW m cols k (extW A cc)).length ∧ w'.ownsRow B 9 1 (.slice a n c) n (((rosW m cols k (extW A cc)).headD []).map Value.string) ∧ Below wr.heap.size wr w') := by
                  have := HIH.out (extW A cc) HIN.out (most - nn) (by omega) (by omega) na nc wr (Nat.le_trans HBB.out BW.out.size) (by rw [HXL.out]; exact hrw) (H1.out.below BW.out) (H2.out.below BW.out) (HCV.out.below BW.out)
                  rw [HXL.out, hmost] at this
                  exact Lib.hid this
                have HF2 := Lib.hid (owns_belowX HF.out HO.out.keep)
                have e1 := XW.out.c0
                have e2 := XW.out.c1
                have e3 := XW.out.c2
                clear hnx hys hok hrw hmost
                generalize rosW m cols k (extW A cc) = R1 at *
                go_wp2_with fail
                refine HREC.out.mono ?_
                rintro e w8 ⟨a8, c8, n8, q8, rfl, hn8, hq8, ho8, hb8⟩
                have W8 := Lib.hid (BW.out.trans (hb8.mono BW.out.size))
                have X8 := Lib.hid (XW.out.below hb8)
                have HF8 := Lib.hid (owns_belowX HF2.out hb8)
                have HO8 := Lib.hid ho8
                have HN8 := Lib.hid hn8
                have HQ8 := Lib.hid hq8
                have hq8m : q8 ≤ most - nn := by omega
                have HNN : Hid (nn + q8 = min most (rosTo m cols k A (c + 1)).length) := by
                  have : nn + q8 = min most (rosTo m cols k A (c + 1)).length := by rw [HRS.out, hq8]; exact srch_step HN.out hnn
                  exact Lib.hid this
                clear hb8 ho8 hn8 hq8 e1 e2 e3
                by_cases hn0 : nn = 0
                · have HHD : Hid ((rosTo m cols k A (c + 1)).headD [] = R1.headD []) := by
                    have : (rosTo m cols k A (c + 1)).headD [] = R1.headD [] := by rw [HRS.out]; exact srch_head0 HN.out hm1 hn0
                    exact Lib.hid this
                  subst hn0
                  by_cases hq0 : 0 < q8
                  · have hd1 : decide ((0 : Int) < (q8 : Int)) = true := decide_eq_true (by omega)
                    go_wp2_with fail
                    go_roundw
                    case rel => exact ⟨c + 1, 0 + q8, n8, a8, c8, by omega, by go_num, by go_num, by omega, HNN, rfl, Lib.hid (by rw [HHD.out]; exact HN8.out), Lib.hid (by rw [HHD.out]; exact HO8.out), W8, X8⟩
                    case measure => simp [intOf]; omega
                  · obtain rfl : q8 = 0 := by omega
                    have HR1 : Hid (R1 = []) := by
                      have : R1 = [] := srch_none (most := most) (n := 0) hnn (by rw [← HQ8.out])
                      exact Lib.hid this
                    have HSAME : Hid (rosTo m cols k A (c + 1) = rosTo m cols k A c) := by
                      have : rosTo m cols k A (c + 1) = rosTo m cols k A c := by rw [HRS.out, HR1.out, List.append_nil]
                      exact Lib.hid this
                    go_wp2_with fail
                    go_roundw
                    case rel => exact ⟨c + 1, 0, fl, fa, fc, by omega, by go_num, by go_num, by omega, Lib.hid (by rw [HSAME.out]; exact HN.out), rfl, Lib.hid (by rw [HSAME.out]; exact HFL.out), Lib.hid (by rw [HSAME.out]; exact HF8.out), W8, X8⟩
                    case measure => simp [intOf]; omega
                · have HHD : Hid ((rosTo m cols k A (c + 1)).headD [] = (rosTo m cols k A c).headD []) := by
                    have : (rosTo m cols k A (c + 1)).headD [] = (rosTo m cols k A c).headD [] := by rw [HRS.out]; exact srch_head1 HN.out (by omega)
                    exact Lib.hid this
                  have hd0 : ((nn : Int) == 0) = false := by rw [beq_eq_false_iff_ne]; omega
                  go_wp2_with fail
                  go_roundw
                  case rel => exact ⟨c + 1, nn + q8, fl, fa, fc, by omega, by go_num, by go_num, by omega, HNN, rfl, Lib.hid (by rw [HHD.out]; exact HFL.out), Lib.hid (by rw [HHD.out]; exact HF8.out), W8, X8⟩
                  case measure => simp [intOf]; omega
        · have hpre := srch_done (rosTo_pre m cols k A c) hm1 (by have := HN.out; omega)
          have HP := Lib.hid hpre
          have hcl : (c : Int) < (cols.length : Int) := by omega
          clear hpre
          go_wp2_with fail
          go_ret2
          exact ⟨_, _, fl, nn, rfl, by rw [HP.out.2]; exact HFL.out, by rw [HP.out.1]; exact HN.out, by rw [HP.out.2]; exact HF.out, BB.out⟩
      · obtain rfl : c = cols.length := by omega
        have HALL := Lib.hid (rosTo_all m cols k A)
        rw [HALL.out] at HN HFL HF
        go_wp2_with fail
        go_ret2
        exact ⟨_, _, fl, nn, rfl, HFL.out, HN.out, HF.out, BB.out⟩
end Go.Proofs.Ytlbblfbiiceofaa
