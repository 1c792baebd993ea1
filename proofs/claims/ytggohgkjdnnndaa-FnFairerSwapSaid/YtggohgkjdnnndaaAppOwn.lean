/- append of whatever reads as numbers behind a row of one's own, by its place in the list of what the call owns: nothing to append, too. No condition. -/
import Derived.Test.YtggohgkjdnnndaaLoadSortI
namespace Go.Proofs.Ytggohgkjdnnndaa
open Go.RowKit

theorem infoIntA : (Try.prog.info? 3).map (fun i => (i.zero, i.size, i.bytes)) = some (some (.int .i64 0), 1, 8) := by kernel_rfl
/-- what is appended: nothing, or cells that hold these numbers -/
def SrcI (w : World) (p : Option Addr) (zs : List Int) : Prop := zs = [] ∨ ∃ ad, p = some ad ∧ ∀ j u, (zs.map (Value.int .i64))[j]? = some u → w.cell? (ad.add j) = some u
/-- nothing is put behind a row of the call's own -/
theorem run_append_zero {P : Program} {w : World} (base : Nat) (t ty e : TypeId) (i : TypeInfo) (size : Nat) (ht : P.underlying t = some (.slice e)) (hi : P.info? e = some i)
    (v : Value) (n : Nat) (xs : List Value) (hown : w.ownsRow base e size v n xs) (p : Option Addr) (c : Nat) :
    (Builtin.append_ #[t, t] ty #[v, .slice p 0 c]).run P w = .ok v w := by
  rcases hown.2 with ⟨rfl, rfl⟩ | ⟨g, cap, cur, rfl, _, _, hnc, _⟩
  · cases p <;> simp [Builtin.append_, run_underlying ht, sizeOf, typeInfo, hi, Builtin.lenOf, Builtin.firstCells, loadCells, loadCellsFrom, Result.andThen]
  · cases p <;> simp [Builtin.append_, run_underlying ht, sizeOf, typeInfo, hi, Builtin.lenOf, Builtin.firstCells, hnc, storeCells, loadCells, loadCellsFrom, Result.andThen]
theorem wpList_append_zero {P : Program} {w : World} {ops : Array Oper} {rest : List Oper} {o : Oper} {a : Act} {Q : Exit → Act → World → Prop} (hgd : o.guard = none) (s x : Operand) (t : TypeId)
    (ho : o.op = .call { callee := .builtin .append, args := #[s, x], argTypes := #[t, t] })
    (base : Nat) (e : TypeId) (i : TypeInfo) (size : Nat) (ht : P.underlying t = some (.slice e)) (hi : P.info? e = some i)
    (v : Value) (n : Nat) (xs : List Value) (hs : a.eval s = v) (hown : w.ownsRow base e size v n xs) (p : Option Addr) (c : Nat) (hx : a.eval x = .slice p 0 c)
    (h : wpList P ops Q rest (a.put o.dst v) w) : wpList P ops Q (o :: rest) a w := by
  refine wpList_plain hgd fun K hK => ?_
  have hrun := run_append_zero (P := P) (w := w) base t o.type e i size ht hi v n xs hown p c
  unfold Oper.wp
  simp [execOp, ho, resolve, invoke, builtin, hs, hx, hrun, Result.andThen]
  exact hK _ _ h

theorem wpList_append_I {wB w : World} {ts : List Thing} {ops : Array Oper} {rest : List Oper} {o : Oper} {a : Act} {Q : Exit → Act → World → Prop} (hgd : o.guard = none) (s x : Operand)
    (ho : o.op = .call { callee := .builtin .append, args := #[s, x], argTypes := #[40, 40] })
    (O : Own wB ts w) (i : Nat) (hi : i < ts.length) (g n cp : Nat) (ys : List Int) (he : ts[i] = rowT 3 1 (.slice (some ⟨g, 0, none⟩) n cp) n (ys.map (Value.int .i64))) (hs : a.eval s = .slice (some ⟨g, 0, none⟩) n cp)
    (zs : List Int) (m : Nat) (hm : zs.length = m) (p : Option Addr) (c : Nat) (hx : a.eval x = .slice p m c) (src : SrcI w p zs) (hn : n ≤ 1000) (hm2 : m ≤ 1000) (q : Nat) (hq : n + m = q)
    (h : ∀ g' c' w', Own wB (ts.set i (rowT 3 1 (.slice (some ⟨g', 0, none⟩) q c') q ((ys ++ zs).map (Value.int .i64)))) w' → q ≤ c' → c' ≤ 9223372036854775807 → wpList Try.prog ops Q rest (a.put o.dst (.slice (some ⟨g', 0, none⟩) q c')) w') :
    wpList Try.prog ops Q (o :: rest) a w := by
  subst hq
  have hrow := O.row i hi he
  have hfin : ∀ {w' : World} {g' c' : Nat} {us : List Int}, w'.ownsRow 0 3 1 (.slice (some ⟨g', 0, none⟩) (n + m) c') (n + m) (us.map (Value.int .i64)) → n + m ≤ c' ∧ c' ≤ 9223372036854775807 := fun h => by
    rcases h.2 with ⟨h0, _⟩ | ⟨g'', cap'', cur, hv, _, _, h1, h2, _⟩
    · cases h0
    · cases hv; unfold maxLen at h2; exact ⟨h1, h2⟩
  obtain ⟨i0, hi0, hz0, hz1, hz2⟩ := info_parts infoIntA
  by_cases hz : zs = []
  · subst hz
    obtain rfl : m = 0 := hm.symm
    refine wpList_append_zero hgd s x 40 ho 0 3 i0 1 Try.underlying40 hi0 _ n _ hs hrow p c hx ?_
    have hset : ts.set i (rowT 3 1 (.slice (some ⟨g, 0, none⟩) (n + 0) cp) (n + 0) ((ys ++ []).map (Value.int .i64))) = ts := by
      rw [List.append_nil, Nat.add_zero, ← he, List.set_getElem_self]
    have hb := hfin (g' := g) (c' := cp) (us := ys) hrow
    exact h g cp w (by rw [hset]; exact O) hb.1 hb.2
  · obtain ⟨ad, rfl, hsrc⟩ := src.resolve_left hz
    have hm0 : 0 < m := by
      rw [← hm]
      exact List.length_pos_iff.2 hz
    refine wpList_append_lies w hgd s x 40 ho 0 3 i0 (.int .i64 0) 1 8 Try.underlying40 hi0 hz0 hz1 hz2 rfl (by decide) _ n _ hs hrow ad m c (zs.map (Value.int .i64)) hx (by rw [List.length_map, hm, Nat.mul_one]) hsrc
      (fun u hu => by obtain ⟨y, _, rfl⟩ := List.mem_map.1 hu; rfl) hm0 (by unfold maxLen; omega) (by omega) (Nat.zero_le _) w.heap.size rfl ?_
    intro g' c' w' hown hgrow hat hlt
    rw [← List.map_append] at hown
    have hb := hfin hown
    exact h g' c' w' (O.turnTo hi he hgrow hown hat) hb.1 hb.2
theorem SrcI.head {w : World} {base g n cap p : Nat} {ys : List Int} (h : w.ownsRow base 3 1 (.slice (some ⟨g, 0, none⟩) n cap) n (ys.map (Value.int .i64))) (hp : p ≤ ys.length) (hn : ys.length = n) : SrcI w (some ⟨g, 0, none⟩) (ys.take p) :=
  .inr ⟨_, rfl, fun j u hj => by
    have hjl : j < p ∧ j < ys.length := by
      have := (List.getElem?_eq_some_iff.1 hj).1
      simp at this; omega
    rw [Addr.add_lit, Nat.zero_add, h.cellAt j (by omega), ← hj]
    simp [hjl.1]⟩
theorem SrcI.tail {w : World} {base g n cap p : Nat} {ys : List Int} (h : w.ownsRow base 3 1 (.slice (some ⟨g, 0, none⟩) n cap) n (ys.map (Value.int .i64))) (hn : ys.length = n) (P : Option Addr) (hP : p < n → P = some ⟨g, p, none⟩) : SrcI w P (ys.drop p) := by
  by_cases hlt : p < n
  · rw [hP hlt]
    refine .inr ⟨_, rfl, fun j u hj => ?_⟩
    have hjl : p + j < ys.length := by
      have := (List.getElem?_eq_some_iff.1 hj).1
      simp at this; omega
    rw [Addr.add_lit, h.cellAt (p + j) (by omega), ← hj]
    simp
  · exact .inl (List.drop_of_length_le (by omega))
theorem SrcI.box {w : World} {B : Nat} {x : Int} {t : TypeId} (h : w.heap[B]? = some (.cells #[.int .i64 x] t (0, 0))) : SrcI w (some ⟨B, 0, none⟩) [x] := .inr ⟨_, rfl, World.news_of_block h⟩
theorem SrcI.below {w w' : World} {g off : Nat} {zs : List Int} (h : ∀ k (h : k < zs.length), w.cell? ⟨g, off + k, none⟩ = some (.int .i64 zs[k])) (hg : g < w.heap.size) (hb : Below w.heap.size w w') : SrcI w' (some ⟨g, off, none⟩) zs :=
  .inr ⟨_, rfl, fun j u hj => by
    have hjl : j < zs.length := by
      have := (List.getElem?_eq_some_iff.1 hj).1
      simpa using this
    rw [Addr.add_lit, (hb.cell (p := ⟨g, off + j, none⟩) hg).trans (h j hjl), ← hj]
    simp [hjl]⟩
end Go.Proofs.Ytggohgkjdnnndaa
