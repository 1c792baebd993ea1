/- impl.runsLongOk: whether each run of a letter is long enough. No condition. -/
import Derived.Test.YtlbblfbiiceofaaLongest
import Derived.Test.YtlbblfbiiceofaaRuleMath
namespace Go.Proofs.Ytlbblfbiiceofaa
open Go.RowKit Go.Shelf
attribute [local go_sem] Oper.semAt_some

set_option maxRecDepth 100000 in
set_option maxHeartbeats 2000000 in
theorem runsLongOk_any (s : ByteArray) (c : UInt8) (n : Int) (w : World) (hs : s.size ≤ 14) :
    Calls Try.prog 91 #[.string s, .int .u8 (c.toNat : Int), .int .i64 n] w fun e w' => e = .returned (.bool (longAll (runsL s.data.toList) c n)) ∧ Below w.heap.size w w' := by
  refine (callsIn_wide (n := 3)).1 ?_
  refine callsIn_of_wp_marks Try.func91 rfl trivial ?_ rfl
  simp only [Try.ntmps91, List.size_toArray, List.length_cons, List.length_nil, Nat.reduceAdd, Nat.reduceSub, Array.replicate_succ, Array.replicate_zero, List.push_toArray, List.append_toArray, List.nil_append, List.cons_append]
  gi_wp2_with (refine ⟨trivial, ?_⟩; gi_at_call 106; refine (callsIn_wide.2 (runsIn_any _ _)).mono ?_; rintro e w' ⟨rfl, rfl⟩)
  have c0 := new_cell w (.int .u8 (c.toNat : Int)) 5
  have c1 := new_cell (w.alloc (.cells #[.int .u8 (c.toNat : Int)] 5)) (.int .i64 n) 3
  have c2 := new_cell ((w.alloc (.cells #[.int .u8 (c.toNat : Int)] 5)).alloc (.cells #[.int .i64 n] 3)) (.bool false) 4
  have c3 := new_cell (((w.alloc (.cells #[.int .u8 (c.toNat : Int)] 5)).alloc (.cells #[.int .i64 n] 3)).alloc (.cells #[.bool false] 4)) (.string s) 9
  simp only [World.size_alloc] at c1 c2 c3
  have hB0 : Below w.heap.size w ((((w.alloc (.cells #[.int .u8 (c.toNat : Int)] 5)).alloc (.cells #[.int .i64 n] 3)).alloc (.cells #[.bool false] 4)).alloc (.cells #[.string s] 9)) := ((((Below.refl _ w).alloc (Nat.le_refl _) _).alloc (by simp) _).alloc (by simp; omega) _).alloc (by simp; omega) _
  refine wpIn_rangeFunc_ownF rfl (by omega) (gf := 113) (lb := #[.pointer (some ⟨w.heap.size + 1 + 1 + 1, 0, none⟩)]) rfl trivial (enters_of Try.func113 (by kernel_rfl) rfl)
    (runsIn_stops (3 - 1) (by omega) (w.heap.size + 1 + 1 + 1) s hs _ (by simp) c3.1) (fun h k => BoxKept.trans h k) (boxKept_b (by simp)) (Below.refl _ _) (fun _ => rfl)
    (fun pre W => (W.cell? ⟨w.heap.size, 0, none⟩ = some (.int .u8 (c.toNat : Int)) ∧ W.cell? ⟨w.heap.size + 1, 0, none⟩ = some (.int .i64 n) ∧ W.cell? ⟨w.heap.size + 1 + 1, 0, none⟩ = some (.bool false) ∧ W.frozen? ⟨w.heap.size + 1 + 1, 0, none⟩ = false) ∧ longAll pre c n = true ∧ Below w.heap.size w W)
    (fun cd pre W => (cd = Code.ret ∧ W.cell? ⟨w.heap.size + 1 + 1, 0, none⟩ = some (.bool false)) ∧ longAll pre c n = false ∧ Below w.heap.size w W)
    (OwnFrom.and (Own.from (fun z A B row hs hg hr => ⟨cell_kept hs.1 hg hr, cell_kept hs.2.1 hg hr, cell_kept hs.2.2.1 hg hr, (frozen_kept hs.2.2.1 hg hr).trans hs.2.2.2⟩) _) (OwnFrom.and (fun _ _ _ _ hs _ _ => hs) (ownFrom_below (Nat.le_refl _) (by simp; omega))))
    (fun cd => OwnFrom.and (Own.from (fun z A B row hs hg hr => ⟨hs.1, cell_kept hs.2 hg hr⟩) _) (OwnFrom.and (fun _ _ _ _ hs _ _ => hs) (ownFrom_below (Nat.le_refl _) (by simp; omega))))
    ⟨⟨kept_cell _ (kept_cell _ (kept_cell _ c0.1)), kept_cell _ (kept_cell _ c1.1), kept_cell _ c2.1, kept_frozen _ c2.1 c2.2⟩, rfl, hB0⟩
    (fun x => { tmps := #[.string s, .int .u8 (c.toNat : Int), .int .i64 n, undef, .pointer (some ⟨w.heap.size, 0, none⟩), .pointer (some ⟨w.heap.size + 1, 0, none⟩), .pointer (some ⟨w.heap.size + 1 + 1, 0, none⟩), .int .u8 (x.1.toNat : Int), .int .i64 (x.2 : Int), .string s, .func (.func 113) #[] #[.pointer (some ⟨w.heap.size + 1 + 1 + 1, 0, none⟩)], .int .u8 (x.1.toNat : Int), .int .i64 (x.2 : Int), undef, undef, undef, undef, undef, undef, undef, undef], defers := [] }) ?assign ?body ?done ?stop
  case assign =>
    intro l x W K hK
    gi_wp2
    exact hK
  case body =>
    rintro l pre x W ⟨⟨hc, hn, hr, hf⟩, hA, hB⟩ _
    have HS := Lib.hid (longAll_snoc pre x c n)
    have HA := Lib.hid hA
    clear hA
    by_cases heq : x.1 = c
    · by_cases hlt : (x.2 : Int) < n
      · have heq' : ((x.1.toNat : Int) == (c.toNat : Int)) = true := by rw [heq]; simp
        have HF : Hid (longAll (pre ++ [x]) c n = false) := by
          have : longAll (pre ++ [x]) c n = false := by rw [HS.out, HA.out, heq]; simp; omega
          exact Lib.hid this
        clear heq
        gi_wp2
        refine ⟨KeepsOthers.setCell _ _ _, ⟨rfl, World.cell?_setCell_same' _ _ _ (by rw [hr]; rfl)⟩, HF.out, hB.setCell (p := ⟨w.heap.size + 1 + 1, 0, none⟩) (by show _ ≤ w.heap.size + 1 + 1; omega) _⟩
      · have heq' : ((x.1.toNat : Int) == (c.toNat : Int)) = true := by rw [heq]; simp
        have HF : Hid (longAll (pre ++ [x]) c n = true) := by
          have : longAll (pre ++ [x]) c n = true := by rw [HS.out, HA.out, heq]; simp; omega
          exact Lib.hid this
        clear heq
        gi_wp2
        exact ⟨KeepsOthers.refl _, BoxKept.refl _ _, ⟨hc, hn, hr, hf⟩, HF.out, hB⟩
    · have heq' : ((x.1.toNat : Int) == (c.toNat : Int)) = false := by rw [u8_beq]; simpa using heq
      have HF : Hid (longAll (pre ++ [x]) c n = true) := by
        have : longAll (pre ++ [x]) c n = true := by rw [HS.out, HA.out]; simp [heq]
        exact Lib.hid this
      clear heq
      gi_wp2
      exact ⟨KeepsOthers.refl _, BoxKept.refl _ _, ⟨hc, hn, hr, hf⟩, HF.out, hB⟩
  case done =>
    rintro D ys W hD rfl ⟨⟨hc, hn, hr, hf⟩, hA, hB⟩ hK
    have HA := Lib.hid hA
    clear hA c0 c1 c2 c3 hB0
    simp only [World.size_alloc] at hD
    gi_wp2
    have hr2 : (W.setCell ⟨w.heap.size + 1 + 1, 0, none⟩ (.bool true)).cell? ⟨w.heap.size + 1 + 1, 0, none⟩ = some (.bool true) := World.cell?_setCell_same' _ _ _ (by rw [hr]; rfl)
    have hK2 : (W.setCell ⟨w.heap.size + 1 + 1, 0, none⟩ (.bool true)).heap[D]? = some (.deferred (some [])) := (Below.heap_setCell W ⟨w.heap.size + 1 + 1, 0, none⟩ (.bool true) D (by show D ≠ w.heap.size + 1 + 1; omega)).trans hK
    have hB2 := hB.setCell (p := ⟨w.heap.size + 1 + 1, 0, none⟩) (by show _ ≤ w.heap.size + 1 + 1; omega) (.bool true)
    generalize W.setCell ⟨w.heap.size + 1 + 1, 0, none⟩ (.bool true) = W2 at *
    refine ⟨by simp, .inl ⟨_, _, rfl, run_takeDeferred hK2, ?_⟩⟩
    have hr3 : (W2.putObj D (.deferred none)).cell? ⟨w.heap.size + 1 + 1, 0, none⟩ = some (.bool true) := (World.cell?_of_block (w := W2) (World.putObj_heap_other (by show w.heap.size + 1 + 1 ≠ D; omega))).trans hr2
    refine ⟨.bool true, ?_, by rw [HA.out], hB2.trans (belowK_b (w := w) (Nat.le_refl _) W2 D _ _ (by omega) hK2 rfl rfl)⟩
    simp [results, Try.results91, go_sem, hr3]
  case stop =>
    rintro D cd pre W hD hpre ⟨⟨rfl, hr⟩, hA, hB⟩ hK
    have HF : Hid (longAll (runsL s.data.toList) c n = false) := by
      obtain ⟨t, ht⟩ := hpre
      have : longAll (runsL s.data.toList) c n = false := by rw [← ht, longAll, List.all_append]; rw [longAll] at hA; rw [hA]; rfl
      exact Lib.hid this
    clear hA c0 c1 c2 c3 hB0
    simp only [World.size_alloc] at hD
    gi_wp2
    refine ⟨by simp, .inl ⟨_, _, rfl, run_takeDeferred hK, ?_⟩⟩
    have hr3 : (W.putObj D (.deferred none)).cell? ⟨w.heap.size + 1 + 1, 0, none⟩ = some (.bool false) := (World.cell?_of_block (w := W) (World.putObj_heap_other (by show w.heap.size + 1 + 1 ≠ D; omega))).trans hr
    refine ⟨.bool false, ?_, by rw [HF.out], hB.trans (belowK_b (w := w) (Nat.le_refl _) W D _ _ (by omega) hK rfl rfl)⟩
    simp [results, Try.results91, go_sem, hr3]
end Go.Proofs.Ytlbblfbiiceofaa
