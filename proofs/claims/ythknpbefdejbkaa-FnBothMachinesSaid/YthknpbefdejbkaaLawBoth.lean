/- The walk of FnBothMachines: true at every two codes; the drawing of two machines. No condition. -/
import Derived.Test.YthknpbefdejbkaaPairM
import Derived.Test.YthknpbefdejbkaaSpecJ
import Derived.Test.YthknpbefdejbkaaSameAll
import Derived.Test.YthknpbefdejbkaaTakes
import Derived.Test.YthknpbefdejbkaaImplSame
import Derived.Test.YthknpbefdejbkaaDrawAll
import Derived.Test.YthknpbefdejbkaaLeastAll
import Derived.Test.YthknpbefdejbkaaBoxed
import Derived.Deep.RegionWith
import Derived.Deep.RegionHeld3
namespace Go.Proofs.Ythknpbefdejbkaa
open Go.RowKit

theorem apart_joinK {C R : Nat} {ts us : List Thing} {w w' : World} (hA : Apart C ts w) (hK : KeepsBut R w w') (hR : R < C) (hU : Apart w.heap.size us w') (hC : C ≤ w.heap.size) : Apart C (us ++ ts) w' := by
  have h := hA.other hK.grownBy (fun k e => by cases e; exact hR)
  refine ⟨fun t ht => ?_, List.pairwise_append.2 ⟨hU.two, h.two, fun s hs t ht k e e' => ?_⟩⟩
  · rcases List.mem_append.1 ht with ht | ht
    · exact ⟨(hU.all t ht).1, fun k e => ⟨Nat.le_trans hC ((hU.all t ht).2 k e).1, ((hU.all t ht).2 k e).2⟩⟩
    · exact h.all t ht
  · have := ((hA.all t ht).2 k e').2
    have := ((hU.all s hs).2 k e).1
    omega
def zC (b : Nat) : Thing := cellsT b #[.int .i64 0, .slice none 0 0, .slice none 0 0] 27
/-- both results are laid down -/
theorem two_done {R b4 : Nat} {w w7 : World} {st st' : Int} {v1 v2 v3 v4 : Value} {xs xs' : List Int} {bs bs' : List Bool} (K : KeepsBut R w w7)
    (A : Apart w.heap.size [rI v3 xs', rB v4 bs', cM b4 st v1 v2, rI v1 xs, rB v2 bs, zC (w.heap.size + 1), zC w.heap.size] w7) :
    ∀ W, W = (((((w7.setCell ⟨w.heap.size, 0, none⟩ (.int .i64 st)).setCell ⟨w.heap.size, 1, none⟩ v1).setCell ⟨w.heap.size, 2, none⟩ v2).setCell ⟨w.heap.size + 1, 0, none⟩ (.int .i64 st')).setCell ⟨w.heap.size + 1, 1, none⟩ v3).setCell ⟨w.heap.size + 1, 2, none⟩ v4 →
      Apart w.heap.size [rI v3 xs', rB v4 bs', rI v1 xs, rB v2 bs] W ∧ KeepsBut R w W ∧ (W.cell? ⟨w.heap.size, 0, none⟩ = some (.int .i64 st) ∧ W.cell? ⟨w.heap.size, 1, none⟩ = some v1 ∧ W.cell? ⟨w.heap.size, 2, none⟩ = some v2) ∧ W.cell? ⟨w.heap.size + 1, 0, none⟩ = some (.int .i64 st') ∧ W.cell? ⟨w.heap.size + 1, 1, none⟩ = some v3 ∧ W.cell? ⟨w.heap.size + 1, 2, none⟩ = some v4 := by
  rintro W rfl
  have hs := K.size
  have a1 := A.setAt 6 (by simp) rfl hs 0 (.int .i64 st)
  have a2 := a1.setAt 6 (by simp) rfl (by simpa using hs) 1 v1
  have a3 := a2.setAt 6 (by simp) rfl (by simpa using hs) 2 v2
  have a4 := a3.setAt 5 (by simp) rfl (by simpa using hs) 0 (.int .i64 st')
  have a5 := a4.setAt 5 (by simp) rfl (by simpa using hs) 1 v3
  have a6 := a5.setAt 5 (by simp) rfl (by simpa using hs) 2 v4
  have c6 := a6.at 6 (by simp)
  have c5 := a6.at 5 (by simp)
  have g : ∀ {V : World} (b i : Nat) (u : Value), KeepsBut R w V → w.heap.size ≤ b → KeepsBut R w (V.setCell ⟨b, i, none⟩ u) := fun b i u h hb => h.grown (grown_setCell _ b i u) (fun k e => by cases e; exact hb)
  refine ⟨a6.sub (List.Sublist.cons_cons _ (List.Sublist.cons_cons _ (List.Sublist.cons _ (List.Sublist.cons_cons _ (List.Sublist.cons_cons _ (List.nil_sublist _)))))), ?_, ⟨cellsT_cell c6 0, cellsT_cell c6 1, cellsT_cell c6 2⟩, cellsT_cell c5 0, cellsT_cell c5 1, cellsT_cell c5 2⟩
  exact g _ _ _ (g _ _ _ (g _ _ _ (g _ _ _ (g _ _ _ (g _ _ _ K (Nat.le_refl _)) (Nat.le_refl _)) (Nat.le_refl _)) (Nat.le_succ _)) (Nat.le_succ _)) (Nat.le_succ _)
theorem least_exD {m : M} (hg : m.good) : ∃ K, IsLm (m.lang 0) K ∧ K.st ≤ m.st := by
  have hT := tm_good hg
  have h0 : 0 < (tm m).ends.length := by have := M.good_shape hT; omega
  obtain ⟨K, k1, k2, k3⟩ := lm_spec hT (tm_trim hg) (still_end (good_closed hT) h0) (repL_part (tm m) _ _)
  rw [tm_lang hg] at k3
  refine ⟨_, k3, ?_⟩
  show (K : Int) ≤ m.st
  have h1 : (tm m).st ≤ m.st := by
    have h5 := tm_len hg
    have h6 := trimN_le hg (lrounds m m.ends.length)
    have h7 := (M.good_shape hg).2.2.2
    have h8 := (M.good_shape hT).2.2.2
    omega
  have h2 := (M.good_shape hT).2.2.2
  omega
/-- within bounds -/
def Small5 (m : M) : Prop := 0 ≤ m.st ∧ m.st ≤ 5 ∧ m.next.length ≤ 15 ∧ m.ends.length ≤ 6
/-- two machines that were drawn -/
def Machs2 (R : Nat) (w : World) (e : Ending) (w' : World) : Prop :=
  ∃ (m k : M) (a1 a2 a3 a4 : Option Addr) (c1 c2 c3 c4 : Nat), e = .returned (.tuple #[.agg #[.int .i64 m.st, .slice a1 m.next.length c1, .slice a2 m.ends.length c2], .agg #[.int .i64 k.st, .slice a3 k.next.length c3, .slice a4 k.ends.length c4]]) ∧
    Small5 m ∧ Small5 k ∧ Apart w.heap.size [rI (.slice a3 k.next.length c3) k.next, rB (.slice a4 k.ends.length c4) k.ends, rI (.slice a1 m.next.length c1) m.next, rB (.slice a2 m.ends.length c2) m.ends] w' ∧ KeepsBut R w w'
/-- two machines that were drawn, to be read -/
def MachRes2 (w : World) (e : Ending) (w' : World) : Prop :=
  ∃ (m k : M) (a1 a2 a3 a4 : Option Addr) (c1 c2 c3 c4 : Nat), e = .returned (.tuple #[.agg #[.int .i64 m.st, .slice a1 m.next.length c1, .slice a2 m.ends.length c2], .agg #[.int .i64 k.st, .slice a3 k.next.length c3, .slice a4 k.ends.length c4]]) ∧
    Drawn2 m (.slice a1 m.next.length c1) (.slice a2 m.ends.length c2) w' ∧ Drawn2 k (.slice a3 k.next.length c3) (.slice a4 k.ends.length c4) w' ∧ Below w.heap.size w w'

set_option maxHeartbeats 2000000 in
set_option maxRecDepth 100000 in
theorem l20Machines_any (B R : Nat) (a : Option Addr) (len cap k : Nat) (w : World) (H : RdAt B R a len cap k w) (hk : k ≤ 800000) :
    Calls Try.prog 71 #[.pointer (some ⟨R, 0, none⟩)] w (Machs2 R w) := by
  have hRw := H.hR
  have A1 := (Apart.nil w.heap.size w).more (World.grownBy_alloc w _ none) (zC w.heap.size) (heap_alloc_new w _) (Nat.le_refl _) (fun j e => by cases e; simp)
  have A2 := A1.more (World.grownBy_alloc _ (.cells #[.int .i64 0, .slice none 0 0, .slice none 0 0] 27) none) (zC (w.heap.size + 1)) (by have := heap_alloc_new (w.alloc (.cells #[.int .i64 0, .slice none 0 0, .slice none 0 0] 27)) (.cells #[.int .i64 0, .slice none 0 0, .slice none 0 0] 27); rw [World.size_alloc] at this; exact this) (by simp) (fun j e => by cases e; simp)
  have K2 := ((KeepsBut.refl R w).alloc (.cells #[.int .i64 0, .slice none 0 0, .slice none 0 0] 27)).alloc (.cells #[.int .i64 0, .slice none 0 0, .slice none 0 0] 27)
  have H2 := (H.grown (World.grownBy_alloc w (.cells #[.int .i64 0, .slice none 0 0, .slice none 0 0] 27) none) (fun _ e => by cases e)).grown (World.grownBy_alloc _ (.cells #[.int .i64 0, .slice none 0 0, .slice none 0 0] 27) none) (fun _ e => by cases e)
  have HC := Lib.hid (l20Machine_any B R a len cap k 14 _ H2 (by omega) (by omega) (by omega))
  have HA2 := Lib.hid A2
  have HK2 := Lib.hid K2
  clear H A1 A2 K2 H2
  go_enter Try.func71, Try.ntmps71
  go_wp2_with fail
  refine HC.out.mono ?_
  clear HC
  generalize (w.alloc (.cells #[.int .i64 0, .slice none 0 0, .slice none 0 0] 27)).alloc (.cells #[.int .i64 0, .slice none 0 0, .slice none 0 0] 27) = w1 at *
  rintro e w2 ⟨st, xs, bs, nv, ev, rfl, h0, h1, h2, h3, ⟨k1, hk1, hk2, hR1⟩, hK1, hA⟩
  obtain ⟨a3, c3, rfl⟩ := ownsRow_sliceD hA.head
  obtain ⟨a4, c4, rfl⟩ := ownsRow_sliceD hA.tail.head
  have A3 : Apart w.heap.size [rI (.slice a3 xs.length c3) xs, rB (.slice a4 bs.length c4) bs, zC (w.heap.size + 1), zC w.heap.size] w2 := apart_joinK HA2.out hK1 hRw hA HK2.out.size
  have K3 := HK2.out.trans hK1
  have A4 := Lib.hid (boxed st (.slice a3 xs.length c3) (.slice a4 bs.length c4) A3 K3.size)
  have K4 := Lib.hid (K3.alloc (.cells #[.int .i64 st, .slice a3 xs.length c3, .slice a4 bs.length c4] 27))
  have R4 := Lib.hid (hR1.grown (World.grownBy_alloc w2 (.cells #[.int .i64 st, .slice a3 xs.length c3, .slice a4 bs.length c4] 27) none) (fun _ e => by cases e))
  have hwf : (Lit.int .i64 st).wf = true := WalkArith.wf_i64 (by omega)
  have HBW0 : w.heap.size + 1 < w2.heap.size := (A3.ltAt 2 (by simp) _ rfl).2
  clear A3 K3 hA hK1 hR1 HA2 HK2
  go_upto_region 2 with fail
  generalize hW4 : w2.alloc (.cells #[.int .i64 st, .slice a3 xs.length c3, .slice a4 bs.length c4] 27) = w4 at *
  generalize hB4 : w2.heap.size = b4 at *
  clear hW4 hB4
  obtain ⟨y0, y1, y2⟩ := cM_at A4.out.head
  go_cut [13] from 5 to 19 (fun t wx => ∃ (c : Bool) (kk : Nat), t = .bool c ∧ (c = true → M.ok ⟨st, xs, bs⟩ = true) ∧ kk ≤ 900000 ∧ Apart w.heap.size [cM b4 st (.slice a3 xs.length c3) (.slice a4 bs.length c4), rI (.slice a3 xs.length c3) xs, rB (.slice a4 bs.length c4) bs, zC (w.heap.size + 1), zC w.heap.size] wx ∧ KeepsBut R w wx ∧ RdAt B R a len cap kk wx)
  case first =>
    go_wp2_with fail
    clear y0 y1 y2
    refine (specMachineOk_any ⟨st, xs, bs⟩ _ _ _ (IsInts.of_owns A4.out.tail.head) (IsBools.of_owns A4.out.tail.tail.head) hwf).mono ?_
    rintro e w5 ⟨rfl, hb5⟩
    have A5 := Lib.hid (A4.out.below hb5)
    have K5 := Lib.hid (K4.out.trans (KeepsBut.of_below hb5))
    have R5 := Lib.hid (R4.out.keeps hb5)
    clear hb5 A4 K4 R4
    cases hok : M.ok ⟨st, xs, bs⟩ with
    | false =>
      go_wp2
      go_meet
      case rel => exact ⟨false, k1, rfl, (fun h => by cases h), by omega, A5.out, K5.out, R5.out⟩
    | true =>
      have HOK := Lib.hid hok
      clear hok
      go_wp2_with fail
      refine (pick_any B R a len cap k1 4 w5 R5.out (by omega) (by omega) (by omega)).mono ?_
      rintro e w6 ⟨v, rfl, v0, v1, hR6, hK6⟩
      have A6 := Lib.hid (A5.out.other hK6.grownBy (fun k e => by cases e; exact hRw))
      have K6 := Lib.hid (K5.out.trans hK6)
      have R6 := Lib.hid hR6
      clear hR6 hK6 v0 v1
      go_wp2
      go_meet
      case rel => exact ⟨v == 0, k1 + 1, (by first | rfl | simp), (fun _ => HOK.out), by omega, A6.out, K6.out, R6.out⟩
  case rest =>
    obtain ⟨c, kk, rfl, hcok, hkk, hA5, hK5, hR5⟩ := hcut
    have A5 := Lib.hid hA5
    have K5 := Lib.hid hK5
    have R5 := Lib.hid hR5
    clear hA5 hK5 hR5 A4 K4 R4 y0 y1 y2
    cases c with
    | true =>
      have hok := hcok rfl
      have HG := M.ok_good hok
      obtain ⟨K0, g1, g2⟩ := least_exD HG
      have HL5 : Hid (∀ L, IsLmZ ⟨st, xs, bs⟩ L → 0 ≤ L.st ∧ L.st ≤ 5 ∧ L.next.length ≤ 15 ∧ L.ends.length ≤ 6) := Lib.hid (fun L hL => by
        obtain ⟨l1, l2⟩ := hL.1 hok
        obtain rfl := l1.one g1
        have hs := M.good_shape (g1.good (by omega))
        have g3 : L.st ≤ st := g2
        omega)
      clear hcok hok HG g1 g2
      go_upto_region 3 with fail
      obtain ⟨y0, y1, y2⟩ := cM_at A5.out.head
      have Ad := Lib.hid (A5.out.same (grown_drew wc none))
      go_region_with (first | (go_at_call 42; refine (specLeastZ ⟨st, xs, bs⟩ _ _ wc.drew (IsInts.of_owns Ad.out.tail.head) (IsBools.of_owns Ad.out.tail.tail.head) hwf).mono ?_; rintro e w7 ⟨L, hL, a5, a6, c5, c6, rfl, hA7, hb7⟩; have A7 : Apart w.heap.size [rI (.slice a5 L.next.length c5) L.next, rB (.slice a6 L.ends.length c6) L.ends, cM b4 st (.slice a3 xs.length c3) (.slice a4 bs.length c4), rI (.slice a3 xs.length c3) xs, rB (.slice a4 bs.length c4) bs, zC (w.heap.size + 1), zC w.heap.size] w7 := apart_join Ad.out hb7 hA7 K5.out.size; have K7 := K5.out.trans ((KeepsBut.refl R wc).trans (KeepsBut.of_below (w := wc) (w' := w7) ((Below.refl _ _).drew.trans hb7))); have TD := Lib.hid (two_done (st' := L.st) K7 A7); obtain ⟨z0, z1, z2⟩ := cM_at (A7.of (cM b4 st (.slice a3 xs.length c3) (.slice a4 bs.length c4)) (by simp)); have HA7 := Lib.hid A7; have u0 : w7.cell? ⟨w.heap.size, 0, none⟩ = some (.int .i64 0) := cellsT_cell (A7.at 6 (by simp)) 0; have u1 : w7.cell? ⟨w.heap.size, 1, none⟩ = some (.slice none 0 0) := cellsT_cell (A7.at 6 (by simp)) 1; have u2 : w7.cell? ⟨w.heap.size, 2, none⟩ = some (.slice none 0 0) := cellsT_cell (A7.at 6 (by simp)) 2; have t0 : w7.cell? ⟨w.heap.size + 1, 0, none⟩ = some (.int .i64 0) := cellsT_cell (A7.at 5 (by simp)) 0; have t1 : w7.cell? ⟨w.heap.size + 1, 1, none⟩ = some (.slice none 0 0) := cellsT_cell (A7.at 5 (by simp)) 1; have t2 : w7.cell? ⟨w.heap.size + 1, 2, none⟩ = some (.slice none 0 0) := cellsT_cell (A7.at 5 (by simp)) 2; have uf := fun i => cellsT_frozen (A7.at 6 (by simp)) i; have tf := fun i => cellsT_frozen (A7.at 5 (by simp)) i; have uf0 := uf 0; have uf1 := uf 1; have uf2 := uf 2; have tf0 := tf 0; have tf1 := tf 1; have tf2 := tf 2; have hbw : w.heap.size + 1 < b4 := HBW0; have hn1 : ¬ (b4 = w.heap.size) := (by omega); have hn2 : ¬ (w.heap.size = b4) := (by omega); have hn3 : ¬ (b4 = w.heap.size + 1) := (by omega); have hn4 : ¬ (w.heap.size + 1 = b4) := (by omega); have HLB := Lib.hid (HL5.out L hL); clear hA7 hb7 hL A7 K7 uf tf))
      all_goals
        obtain ⟨i1, kw, ⟨r1, r2, r3⟩, r4, r5, r6⟩ := TD.out _ rfl
        have HD := Lib.hid (And.intro i1 kw)
        clear i1 kw u0 u1 u2 t0 t1 t2 uf0 uf1 uf2 tf0 tf1 tf2 z0 z1 z2
        go_wp2
        refine bodyPost_ret (v := .tuple #[.agg #[.int .i64 st, .slice a3 xs.length c3, .slice a4 bs.length c4], .agg #[.int .i64 L.st, .slice a5 L.next.length c5, .slice a6 L.ends.length c6]]) ?_ rfl ⟨⟨st, xs, bs⟩, L, a3, a4, a5, a6, c3, c4, c5, c6, rfl, ⟨h0, h1, h2, h3⟩, HLB.out, HD.out.1, HD.out.2⟩
        simp [results, Try.results71, go_sem, r1, r2, r3, r4, r5, r6]
    | false =>
      clear hcok
      go_upto_region 4 with fail
      obtain ⟨y0, y1, y2⟩ := cM_at A5.out.head
      have Ad := Lib.hid (A5.out.same (grown_drew wc none))
      have Rd := Lib.hid (R5.out.drewN 1)
      go_region_with (first | (go_at_call 64; refine (l20Machine_any B R a len cap kk 14 wc.drew (R5.out.keeps (Below.refl _ _).drew) (by omega) (by omega) (by omega)).mono ?_; rintro e w7 ⟨st', xs', bs', nv', ev', rfl, h0', h1', h2', h3', ⟨k3, hk3, hk4, hR7⟩, hK7, hA7⟩; obtain ⟨a5, c5, rfl⟩ := ownsRow_sliceD hA7.head; obtain ⟨a6, c6, rfl⟩ := ownsRow_sliceD hA7.tail.head; have A7 : Apart w.heap.size [rI (.slice a5 xs'.length c5) xs', rB (.slice a6 bs'.length c6) bs', cM b4 st (.slice a3 xs.length c3) (.slice a4 bs.length c4), rI (.slice a3 xs.length c3) xs, rB (.slice a4 bs.length c4) bs, zC (w.heap.size + 1), zC w.heap.size] w7 := apart_joinK Ad.out hK7 hRw hA7 K5.out.size; have K7 := (K5.out.drewN 1).trans hK7; have TD := Lib.hid (two_done (st' := st') K7 A7); obtain ⟨z0, z1, z2⟩ := cM_at (A7.of (cM b4 st (.slice a3 xs.length c3) (.slice a4 bs.length c4)) (by simp)); have HA7 := Lib.hid A7; have u0 : w7.cell? ⟨w.heap.size, 0, none⟩ = some (.int .i64 0) := cellsT_cell (A7.at 6 (by simp)) 0; have u1 : w7.cell? ⟨w.heap.size, 1, none⟩ = some (.slice none 0 0) := cellsT_cell (A7.at 6 (by simp)) 1; have u2 : w7.cell? ⟨w.heap.size, 2, none⟩ = some (.slice none 0 0) := cellsT_cell (A7.at 6 (by simp)) 2; have t0 : w7.cell? ⟨w.heap.size + 1, 0, none⟩ = some (.int .i64 0) := cellsT_cell (A7.at 5 (by simp)) 0; have t1 : w7.cell? ⟨w.heap.size + 1, 1, none⟩ = some (.slice none 0 0) := cellsT_cell (A7.at 5 (by simp)) 1; have t2 : w7.cell? ⟨w.heap.size + 1, 2, none⟩ = some (.slice none 0 0) := cellsT_cell (A7.at 5 (by simp)) 2; have uf := fun i => cellsT_frozen (A7.at 6 (by simp)) i; have tf := fun i => cellsT_frozen (A7.at 5 (by simp)) i; have uf0 := uf 0; have uf1 := uf 1; have uf2 := uf 2; have tf0 := tf 0; have tf1 := tf 1; have tf2 := tf 2; have hbw : w.heap.size + 1 < b4 := HBW0; have hn1 : ¬ (b4 = w.heap.size) := (by omega); have hn2 : ¬ (w.heap.size = b4) := (by omega); have hn3 : ¬ (b4 = w.heap.size + 1) := (by omega); have hn4 : ¬ (w.heap.size + 1 = b4) := (by omega);  clear hA7 hK7 hR7 A7 K7 uf tf))
      all_goals
        obtain ⟨i1, kw, ⟨r1, r2, r3⟩, r4, r5, r6⟩ := TD.out _ rfl
        have HD := Lib.hid (And.intro i1 kw)
        clear i1 kw u0 u1 u2 t0 t1 t2 uf0 uf1 uf2 tf0 tf1 tf2 z0 z1 z2
        go_wp2
        refine bodyPost_ret (v := .tuple #[.agg #[.int .i64 st, .slice a3 xs.length c3, .slice a4 bs.length c4], .agg #[.int .i64 st', .slice a5 xs'.length c5, .slice a6 bs'.length c6]]) ?_ rfl ⟨⟨st, xs, bs⟩, ⟨st', xs', bs'⟩, a3, a4, a5, a6, c3, c4, c5, c6, rfl, ⟨h0, h1, h2, h3⟩, ⟨h0', h1', h2', h3'⟩, HD.out.1, HD.out.2⟩
        simp [results, Try.results71, go_sem, r1, r2, r3, r4, r5, r6]

set_option maxHeartbeats 1600000 in
set_option maxRecDepth 100000 in
theorem drawBothMachines_any (a : Option Addr) (len cap : Nat) (zs : List Int) (w : World) (h : IsRow .u8 w a len cap zs) :
    Calls Try.prog 30 #[.slice a len cap] w (MachRes2 w) := by
  have A1 := (Apart.nil w.heap.size w).more (World.grownBy_alloc w _ none) (zC w.heap.size) (heap_alloc_new w _) (Nat.le_refl _) (fun j e => by cases e; simp)
  have A2 := A1.more (World.grownBy_alloc _ (.cells #[.int .i64 0, .slice none 0 0, .slice none 0 0] 27) none) (zC (w.heap.size + 1)) (by have := heap_alloc_new (w.alloc (.cells #[.int .i64 0, .slice none 0 0, .slice none 0 0] 27)) (.cells #[.int .i64 0, .slice none 0 0, .slice none 0 0] 27); rw [World.size_alloc] at this; exact this) (by simp) (fun j e => by cases e; simp)
  have B2 := ((Below.refl w.heap.size w).alloc (Nat.le_refl _) (.cells #[.int .i64 0, .slice none 0 0, .slice none 0 0] 27)).alloc (by simp) (.cells #[.int .i64 0, .slice none 0 0, .slice none 0 0] 27)
  have H0 := h.below B2
  have HO := Lib.hid (l20Open_any a len cap zs _ H0)
  have HA2 := Lib.hid A2
  have HB2 := Lib.hid B2
  have hs2 : ((w.alloc (.cells #[.int .i64 0, .slice none 0 0, .slice none 0 0] 27)).alloc (.cells #[.int .i64 0, .slice none 0 0, .slice none 0 0] 27)).heap.size = w.heap.size + 1 + 1 := by simp
  have HS2 := Lib.hid hs2
  clear H0 h A1 A2 B2 hs2
  go_enter Try.func30, Try.ntmps30
  go_wp2_with fail
  refine HO.out.mono ?_
  clear HO
  generalize (w.alloc (.cells #[.int .i64 0, .slice none 0 0, .slice none 0 0] 27)).alloc (.cells #[.int .i64 0, .slice none 0 0, .slice none 0 0] 27) = w2 at *
  rintro e w3 ⟨a1, len1, cap1, rfl, hR, hb3⟩
  have hRR := hR.hR
  have A3 := Lib.hid (HA2.out.below hb3)
  have B3 := Lib.hid (HB2.out.trans (hb3.mono HB2.out.size))
  clear hb3 HA2 HB2
  go_wp2_with fail
  refine (l20Machines_any _ _ a1 len1 cap1 0 w3 hR (by omega)).mono ?_
  rintro e w4 ⟨m, k, b1, b2, b3, b4, d1, d2, d3, d4, rfl, hm, hk, hA, hK⟩
  have A4 : Apart w.heap.size [rI (.slice b3 k.next.length d3) k.next, rB (.slice b4 k.ends.length d4) k.ends, rI (.slice b1 m.next.length d1) m.next, rB (.slice b2 m.ends.length d2) m.ends, zC (w.heap.size + 1), zC w.heap.size] w4 := by
    have h3 : Apart w.heap.size [zC (w.heap.size + 1), zC w.heap.size] w4 := ⟨fun t ht => ⟨t.st w3 w4 (fun b hb => hK.block b ((A3.out.all t ht).2 b hb).2 (by
      have := HS2.out
      simp only [List.mem_cons, List.not_mem_nil, or_false] at ht
      rcases ht with rfl | rfl <;> (have e := Option.some.inj hb; omega))) hK.size (A3.out.all t ht).1, fun b hb => ⟨((A3.out.all t ht).2 b hb).1, Nat.lt_of_lt_of_le ((A3.out.all t ht).2 b hb).2 hK.size⟩⟩, A3.out.two⟩
    refine ⟨fun t ht => ?_, List.pairwise_append.2 ⟨hA.two, h3.two, fun s hs t ht b e e' => ?_⟩⟩
    · rcases List.mem_append.1 (show t ∈ [rI (.slice b3 k.next.length d3) k.next, rB (.slice b4 k.ends.length d4) k.ends, rI (.slice b1 m.next.length d1) m.next, rB (.slice b2 m.ends.length d2) m.ends] ++ [zC (w.heap.size + 1), zC w.heap.size] from ht) with ht | ht
      · exact ⟨(hA.all t ht).1, fun b e => ⟨Nat.le_trans B3.out.size ((hA.all t ht).2 b e).1, ((hA.all t ht).2 b e).2⟩⟩
      · exact h3.all t ht
    · have := ((A3.out.all t ht).2 b e').2
      have := ((hA.all s hs).2 b e).1
      omega
  have hBW : Below w.heap.size w w4 := B3.out.trans (hK.below (by have := HS2.out; omega) B3.out.size)
  have a5 := A4.at 4 (by simp)
  have a6 := A4.at 5 (by simp)
  have TD : ∀ W, W = (((((w4.setCell ⟨w.heap.size, 0, none⟩ (.int .i64 m.st)).setCell ⟨w.heap.size, 1, none⟩ (.slice b1 m.next.length d1)).setCell ⟨w.heap.size, 2, none⟩ (.slice b2 m.ends.length d2)).setCell ⟨w.heap.size + 1, 0, none⟩ (.int .i64 k.st)).setCell ⟨w.heap.size + 1, 1, none⟩ (.slice b3 k.next.length d3)).setCell ⟨w.heap.size + 1, 2, none⟩ (.slice b4 k.ends.length d4) →
      (Drawn2 m (.slice b1 m.next.length d1) (.slice b2 m.ends.length d2) W ∧ Drawn2 k (.slice b3 k.next.length d3) (.slice b4 k.ends.length d4) W ∧ Below w.heap.size w W) ∧ (W.cell? ⟨w.heap.size, 0, none⟩ = some (.int .i64 m.st) ∧ W.cell? ⟨w.heap.size, 1, none⟩ = some (.slice b1 m.next.length d1) ∧ W.cell? ⟨w.heap.size, 2, none⟩ = some (.slice b2 m.ends.length d2)) ∧ W.cell? ⟨w.heap.size + 1, 0, none⟩ = some (.int .i64 k.st) ∧ W.cell? ⟨w.heap.size + 1, 1, none⟩ = some (.slice b3 k.next.length d3) ∧ W.cell? ⟨w.heap.size + 1, 2, none⟩ = some (.slice b4 k.ends.length d4) := by
    rintro W rfl
    have hs := hBW.size
    have g1 := A4.setAt 5 (by simp) rfl hs 0 (.int .i64 m.st)
    have g2 := g1.setAt 5 (by simp) rfl (by simpa using hs) 1 (.slice b1 m.next.length d1)
    have g3 := g2.setAt 5 (by simp) rfl (by simpa using hs) 2 (.slice b2 m.ends.length d2)
    have g4 := g3.setAt 4 (by simp) rfl (by simpa using hs) 0 (.int .i64 k.st)
    have g5 := g4.setAt 4 (by simp) rfl (by simpa using hs) 1 (.slice b3 k.next.length d3)
    have g6 := g5.setAt 4 (by simp) rfl (by simpa using hs) 2 (.slice b4 k.ends.length d4)
    have e5 := g6.at 5 (by simp)
    have e4 := g6.at 4 (by simp)
    refine ⟨⟨⟨hm.1, hm.2.1, hm.2.2.1, hm.2.2.2, IsInts.of_owns (g6.at 2 (by simp)), IsBools.of_owns (g6.at 3 (by simp))⟩, ⟨hk.1, hk.2.1, hk.2.2.1, hk.2.2.2, IsInts.of_owns (g6.at 0 (by simp)), IsBools.of_owns (g6.at 1 (by simp))⟩, ?_⟩, ⟨cellsT_cell e5 0, cellsT_cell e5 1, cellsT_cell e5 2⟩, cellsT_cell e4 0, cellsT_cell e4 1, cellsT_cell e4 2⟩
    exact (((((hBW.setCell (p := ⟨w.heap.size, 0, none⟩) (Nat.le_refl _) _).setCell (p := ⟨w.heap.size, 1, none⟩) (Nat.le_refl _) _).setCell (p := ⟨w.heap.size, 2, none⟩) (Nat.le_refl _) _).setCell (p := ⟨w.heap.size + 1, 0, none⟩) (Nat.le_succ _) _).setCell (p := ⟨w.heap.size + 1, 1, none⟩) (Nat.le_succ _) _).setCell (p := ⟨w.heap.size + 1, 2, none⟩) (Nat.le_succ _) _
  have HTD := Lib.hid TD
  have u0 : w4.cell? ⟨w.heap.size, 0, none⟩ = some (.int .i64 0) := cellsT_cell a6 0
  have u1 : w4.cell? ⟨w.heap.size, 1, none⟩ = some (.slice none 0 0) := cellsT_cell a6 1
  have u2 : w4.cell? ⟨w.heap.size, 2, none⟩ = some (.slice none 0 0) := cellsT_cell a6 2
  have t0 : w4.cell? ⟨w.heap.size + 1, 0, none⟩ = some (.int .i64 0) := cellsT_cell a5 0
  have t1 : w4.cell? ⟨w.heap.size + 1, 1, none⟩ = some (.slice none 0 0) := cellsT_cell a5 1
  have t2 : w4.cell? ⟨w.heap.size + 1, 2, none⟩ = some (.slice none 0 0) := cellsT_cell a5 2
  have uf0 := cellsT_frozen a6 0
  have uf1 := cellsT_frozen a6 1
  have uf2 := cellsT_frozen a6 2
  have tf0 := cellsT_frozen a5 0
  have tf1 := cellsT_frozen a5 1
  have tf2 := cellsT_frozen a5 2
  clear TD A4 a5 a6 hBW hA hK hR hRR
  go_wp2
  obtain ⟨hD, ⟨r1, r2, r3⟩, r4, r5, r6⟩ := HTD.out _ rfl
  have HD := Lib.hid hD
  clear hD u0 u1 u2 t0 t1 t2 uf0 uf1 uf2 tf0 tf1 tf2
  refine bodyPost_ret (v := .tuple #[.agg #[.int .i64 m.st, .slice b1 m.next.length d1, .slice b2 m.ends.length d2], .agg #[.int .i64 k.st, .slice b3 k.next.length d3, .slice b4 k.ends.length d4]]) ?_ rfl ⟨m, k, b1, b2, b3, b4, d1, d2, d3, d4, rfl, HD.out.1, HD.out.2.1, HD.out.2.2⟩
  simp [results, Try.results30, go_sem, r1, r2, r3, r4, r5, r6]

set_option maxHeartbeats 1600000 in
set_option maxRecDepth 100000 in
theorem drawEitherMachine_any (a : Option Addr) (len cap : Nat) (zs : List Int) (w : World) (h : IsRow .u8 w a len cap zs) :
    Calls Try.prog 31 #[.slice a len cap] w (MachRes2 w) := by
  have A1 := (Apart.nil w.heap.size w).more (World.grownBy_alloc w _ none) (zC w.heap.size) (heap_alloc_new w _) (Nat.le_refl _) (fun j e => by cases e; simp)
  have A2 := A1.more (World.grownBy_alloc _ (.cells #[.int .i64 0, .slice none 0 0, .slice none 0 0] 27) none) (zC (w.heap.size + 1)) (by have := heap_alloc_new (w.alloc (.cells #[.int .i64 0, .slice none 0 0, .slice none 0 0] 27)) (.cells #[.int .i64 0, .slice none 0 0, .slice none 0 0] 27); rw [World.size_alloc] at this; exact this) (by simp) (fun j e => by cases e; simp)
  have B2 := ((Below.refl w.heap.size w).alloc (Nat.le_refl _) (.cells #[.int .i64 0, .slice none 0 0, .slice none 0 0] 27)).alloc (by simp) (.cells #[.int .i64 0, .slice none 0 0, .slice none 0 0] 27)
  have H0 := h.below B2
  have HO := Lib.hid (l20Open_any a len cap zs _ H0)
  have HA2 := Lib.hid A2
  have HB2 := Lib.hid B2
  have hs2 : ((w.alloc (.cells #[.int .i64 0, .slice none 0 0, .slice none 0 0] 27)).alloc (.cells #[.int .i64 0, .slice none 0 0, .slice none 0 0] 27)).heap.size = w.heap.size + 1 + 1 := by simp
  have HS2 := Lib.hid hs2
  clear H0 h A1 A2 B2 hs2
  go_enter Try.func31, Try.ntmps31
  go_wp2_with fail
  refine HO.out.mono ?_
  clear HO
  generalize (w.alloc (.cells #[.int .i64 0, .slice none 0 0, .slice none 0 0] 27)).alloc (.cells #[.int .i64 0, .slice none 0 0, .slice none 0 0] 27) = w2 at *
  rintro e w3 ⟨a1, len1, cap1, rfl, hR, hb3⟩
  have hRR := hR.hR
  have A3 := Lib.hid (HA2.out.below hb3)
  have B3 := Lib.hid (HB2.out.trans (hb3.mono HB2.out.size))
  clear hb3 HA2 HB2
  go_wp2_with fail
  refine (l20Machines_any _ _ a1 len1 cap1 0 w3 hR (by omega)).mono ?_
  rintro e w4 ⟨m, k, b1, b2, b3, b4, d1, d2, d3, d4, rfl, hm, hk, hA, hK⟩
  have A4 : Apart w.heap.size [rI (.slice b3 k.next.length d3) k.next, rB (.slice b4 k.ends.length d4) k.ends, rI (.slice b1 m.next.length d1) m.next, rB (.slice b2 m.ends.length d2) m.ends, zC (w.heap.size + 1), zC w.heap.size] w4 := by
    have h3 : Apart w.heap.size [zC (w.heap.size + 1), zC w.heap.size] w4 := ⟨fun t ht => ⟨t.st w3 w4 (fun b hb => hK.block b ((A3.out.all t ht).2 b hb).2 (by
      have := HS2.out
      simp only [List.mem_cons, List.not_mem_nil, or_false] at ht
      rcases ht with rfl | rfl <;> (have e := Option.some.inj hb; omega))) hK.size (A3.out.all t ht).1, fun b hb => ⟨((A3.out.all t ht).2 b hb).1, Nat.lt_of_lt_of_le ((A3.out.all t ht).2 b hb).2 hK.size⟩⟩, A3.out.two⟩
    refine ⟨fun t ht => ?_, List.pairwise_append.2 ⟨hA.two, h3.two, fun s hs t ht b e e' => ?_⟩⟩
    · rcases List.mem_append.1 (show t ∈ [rI (.slice b3 k.next.length d3) k.next, rB (.slice b4 k.ends.length d4) k.ends, rI (.slice b1 m.next.length d1) m.next, rB (.slice b2 m.ends.length d2) m.ends] ++ [zC (w.heap.size + 1), zC w.heap.size] from ht) with ht | ht
      · exact ⟨(hA.all t ht).1, fun b e => ⟨Nat.le_trans B3.out.size ((hA.all t ht).2 b e).1, ((hA.all t ht).2 b e).2⟩⟩
      · exact h3.all t ht
    · have := ((A3.out.all t ht).2 b e').2
      have := ((hA.all s hs).2 b e).1
      omega
  have hBW : Below w.heap.size w w4 := B3.out.trans (hK.below (by have := HS2.out; omega) B3.out.size)
  have a5 := A4.at 4 (by simp)
  have a6 := A4.at 5 (by simp)
  have TD : ∀ W, W = (((((w4.setCell ⟨w.heap.size, 0, none⟩ (.int .i64 m.st)).setCell ⟨w.heap.size, 1, none⟩ (.slice b1 m.next.length d1)).setCell ⟨w.heap.size, 2, none⟩ (.slice b2 m.ends.length d2)).setCell ⟨w.heap.size + 1, 0, none⟩ (.int .i64 k.st)).setCell ⟨w.heap.size + 1, 1, none⟩ (.slice b3 k.next.length d3)).setCell ⟨w.heap.size + 1, 2, none⟩ (.slice b4 k.ends.length d4) →
      (Drawn2 m (.slice b1 m.next.length d1) (.slice b2 m.ends.length d2) W ∧ Drawn2 k (.slice b3 k.next.length d3) (.slice b4 k.ends.length d4) W ∧ Below w.heap.size w W) ∧ (W.cell? ⟨w.heap.size, 0, none⟩ = some (.int .i64 m.st) ∧ W.cell? ⟨w.heap.size, 1, none⟩ = some (.slice b1 m.next.length d1) ∧ W.cell? ⟨w.heap.size, 2, none⟩ = some (.slice b2 m.ends.length d2)) ∧ W.cell? ⟨w.heap.size + 1, 0, none⟩ = some (.int .i64 k.st) ∧ W.cell? ⟨w.heap.size + 1, 1, none⟩ = some (.slice b3 k.next.length d3) ∧ W.cell? ⟨w.heap.size + 1, 2, none⟩ = some (.slice b4 k.ends.length d4) := by
    rintro W rfl
    have hs := hBW.size
    have g1 := A4.setAt 5 (by simp) rfl hs 0 (.int .i64 m.st)
    have g2 := g1.setAt 5 (by simp) rfl (by simpa using hs) 1 (.slice b1 m.next.length d1)
    have g3 := g2.setAt 5 (by simp) rfl (by simpa using hs) 2 (.slice b2 m.ends.length d2)
    have g4 := g3.setAt 4 (by simp) rfl (by simpa using hs) 0 (.int .i64 k.st)
    have g5 := g4.setAt 4 (by simp) rfl (by simpa using hs) 1 (.slice b3 k.next.length d3)
    have g6 := g5.setAt 4 (by simp) rfl (by simpa using hs) 2 (.slice b4 k.ends.length d4)
    have e5 := g6.at 5 (by simp)
    have e4 := g6.at 4 (by simp)
    refine ⟨⟨⟨hm.1, hm.2.1, hm.2.2.1, hm.2.2.2, IsInts.of_owns (g6.at 2 (by simp)), IsBools.of_owns (g6.at 3 (by simp))⟩, ⟨hk.1, hk.2.1, hk.2.2.1, hk.2.2.2, IsInts.of_owns (g6.at 0 (by simp)), IsBools.of_owns (g6.at 1 (by simp))⟩, ?_⟩, ⟨cellsT_cell e5 0, cellsT_cell e5 1, cellsT_cell e5 2⟩, cellsT_cell e4 0, cellsT_cell e4 1, cellsT_cell e4 2⟩
    exact (((((hBW.setCell (p := ⟨w.heap.size, 0, none⟩) (Nat.le_refl _) _).setCell (p := ⟨w.heap.size, 1, none⟩) (Nat.le_refl _) _).setCell (p := ⟨w.heap.size, 2, none⟩) (Nat.le_refl _) _).setCell (p := ⟨w.heap.size + 1, 0, none⟩) (Nat.le_succ _) _).setCell (p := ⟨w.heap.size + 1, 1, none⟩) (Nat.le_succ _) _).setCell (p := ⟨w.heap.size + 1, 2, none⟩) (Nat.le_succ _) _
  have HTD := Lib.hid TD
  have u0 : w4.cell? ⟨w.heap.size, 0, none⟩ = some (.int .i64 0) := cellsT_cell a6 0
  have u1 : w4.cell? ⟨w.heap.size, 1, none⟩ = some (.slice none 0 0) := cellsT_cell a6 1
  have u2 : w4.cell? ⟨w.heap.size, 2, none⟩ = some (.slice none 0 0) := cellsT_cell a6 2
  have t0 : w4.cell? ⟨w.heap.size + 1, 0, none⟩ = some (.int .i64 0) := cellsT_cell a5 0
  have t1 : w4.cell? ⟨w.heap.size + 1, 1, none⟩ = some (.slice none 0 0) := cellsT_cell a5 1
  have t2 : w4.cell? ⟨w.heap.size + 1, 2, none⟩ = some (.slice none 0 0) := cellsT_cell a5 2
  have uf0 := cellsT_frozen a6 0
  have uf1 := cellsT_frozen a6 1
  have uf2 := cellsT_frozen a6 2
  have tf0 := cellsT_frozen a5 0
  have tf1 := cellsT_frozen a5 1
  have tf2 := cellsT_frozen a5 2
  clear TD A4 a5 a6 hBW hA hK hR hRR
  go_wp2
  obtain ⟨hD, ⟨r1, r2, r3⟩, r4, r5, r6⟩ := HTD.out _ rfl
  have HD := Lib.hid hD
  clear hD u0 u1 u2 t0 t1 t2 uf0 uf1 uf2 tf0 tf1 tf2
  refine bodyPost_ret (v := .tuple #[.agg #[.int .i64 m.st, .slice b1 m.next.length d1, .slice b2 m.ends.length d2], .agg #[.int .i64 k.st, .slice b3 k.next.length d3, .slice b4 k.ends.length d4]]) ?_ rfl ⟨m, k, b1, b2, b3, b4, d1, d2, d3, d4, rfl, HD.out.1, HD.out.2.1, HD.out.2.2⟩
  simp [results, Try.results31, go_sem, r1, r2, r3, r4, r5, r6]

set_option maxHeartbeats 1600000 in
set_option maxRecDepth 100000 in
theorem drawSameOk_any (a : Option Addr) (len cap : Nat) (zs : List Int) (w : World) (h : IsRow .u8 w a len cap zs) :
    Calls Try.prog 32 #[.slice a len cap] w (MachRes2 w) := by
  have A1 := (Apart.nil w.heap.size w).more (World.grownBy_alloc w _ none) (zC w.heap.size) (heap_alloc_new w _) (Nat.le_refl _) (fun j e => by cases e; simp)
  have A2 := A1.more (World.grownBy_alloc _ (.cells #[.int .i64 0, .slice none 0 0, .slice none 0 0] 27) none) (zC (w.heap.size + 1)) (by have := heap_alloc_new (w.alloc (.cells #[.int .i64 0, .slice none 0 0, .slice none 0 0] 27)) (.cells #[.int .i64 0, .slice none 0 0, .slice none 0 0] 27); rw [World.size_alloc] at this; exact this) (by simp) (fun j e => by cases e; simp)
  have B2 := ((Below.refl w.heap.size w).alloc (Nat.le_refl _) (.cells #[.int .i64 0, .slice none 0 0, .slice none 0 0] 27)).alloc (by simp) (.cells #[.int .i64 0, .slice none 0 0, .slice none 0 0] 27)
  have H0 := h.below B2
  have HO := Lib.hid (l20Open_any a len cap zs _ H0)
  have HA2 := Lib.hid A2
  have HB2 := Lib.hid B2
  have hs2 : ((w.alloc (.cells #[.int .i64 0, .slice none 0 0, .slice none 0 0] 27)).alloc (.cells #[.int .i64 0, .slice none 0 0, .slice none 0 0] 27)).heap.size = w.heap.size + 1 + 1 := by simp
  have HS2 := Lib.hid hs2
  clear H0 h A1 A2 B2 hs2
  go_enter Try.func32, Try.ntmps32
  go_wp2_with fail
  refine HO.out.mono ?_
  clear HO
  generalize (w.alloc (.cells #[.int .i64 0, .slice none 0 0, .slice none 0 0] 27)).alloc (.cells #[.int .i64 0, .slice none 0 0, .slice none 0 0] 27) = w2 at *
  rintro e w3 ⟨a1, len1, cap1, rfl, hR, hb3⟩
  have hRR := hR.hR
  have A3 := Lib.hid (HA2.out.below hb3)
  have B3 := Lib.hid (HB2.out.trans (hb3.mono HB2.out.size))
  clear hb3 HA2 HB2
  go_wp2_with fail
  refine (l20Machines_any _ _ a1 len1 cap1 0 w3 hR (by omega)).mono ?_
  rintro e w4 ⟨m, k, b1, b2, b3, b4, d1, d2, d3, d4, rfl, hm, hk, hA, hK⟩
  have A4 : Apart w.heap.size [rI (.slice b3 k.next.length d3) k.next, rB (.slice b4 k.ends.length d4) k.ends, rI (.slice b1 m.next.length d1) m.next, rB (.slice b2 m.ends.length d2) m.ends, zC (w.heap.size + 1), zC w.heap.size] w4 := by
    have h3 : Apart w.heap.size [zC (w.heap.size + 1), zC w.heap.size] w4 := ⟨fun t ht => ⟨t.st w3 w4 (fun b hb => hK.block b ((A3.out.all t ht).2 b hb).2 (by
      have := HS2.out
      simp only [List.mem_cons, List.not_mem_nil, or_false] at ht
      rcases ht with rfl | rfl <;> (have e := Option.some.inj hb; omega))) hK.size (A3.out.all t ht).1, fun b hb => ⟨((A3.out.all t ht).2 b hb).1, Nat.lt_of_lt_of_le ((A3.out.all t ht).2 b hb).2 hK.size⟩⟩, A3.out.two⟩
    refine ⟨fun t ht => ?_, List.pairwise_append.2 ⟨hA.two, h3.two, fun s hs t ht b e e' => ?_⟩⟩
    · rcases List.mem_append.1 (show t ∈ [rI (.slice b3 k.next.length d3) k.next, rB (.slice b4 k.ends.length d4) k.ends, rI (.slice b1 m.next.length d1) m.next, rB (.slice b2 m.ends.length d2) m.ends] ++ [zC (w.heap.size + 1), zC w.heap.size] from ht) with ht | ht
      · exact ⟨(hA.all t ht).1, fun b e => ⟨Nat.le_trans B3.out.size ((hA.all t ht).2 b e).1, ((hA.all t ht).2 b e).2⟩⟩
      · exact h3.all t ht
    · have := ((A3.out.all t ht).2 b e').2
      have := ((hA.all s hs).2 b e).1
      omega
  have hBW : Below w.heap.size w w4 := B3.out.trans (hK.below (by have := HS2.out; omega) B3.out.size)
  have a5 := A4.at 4 (by simp)
  have a6 := A4.at 5 (by simp)
  have TD : ∀ W, W = (((((w4.setCell ⟨w.heap.size, 0, none⟩ (.int .i64 m.st)).setCell ⟨w.heap.size, 1, none⟩ (.slice b1 m.next.length d1)).setCell ⟨w.heap.size, 2, none⟩ (.slice b2 m.ends.length d2)).setCell ⟨w.heap.size + 1, 0, none⟩ (.int .i64 k.st)).setCell ⟨w.heap.size + 1, 1, none⟩ (.slice b3 k.next.length d3)).setCell ⟨w.heap.size + 1, 2, none⟩ (.slice b4 k.ends.length d4) →
      (Drawn2 m (.slice b1 m.next.length d1) (.slice b2 m.ends.length d2) W ∧ Drawn2 k (.slice b3 k.next.length d3) (.slice b4 k.ends.length d4) W ∧ Below w.heap.size w W) ∧ (W.cell? ⟨w.heap.size, 0, none⟩ = some (.int .i64 m.st) ∧ W.cell? ⟨w.heap.size, 1, none⟩ = some (.slice b1 m.next.length d1) ∧ W.cell? ⟨w.heap.size, 2, none⟩ = some (.slice b2 m.ends.length d2)) ∧ W.cell? ⟨w.heap.size + 1, 0, none⟩ = some (.int .i64 k.st) ∧ W.cell? ⟨w.heap.size + 1, 1, none⟩ = some (.slice b3 k.next.length d3) ∧ W.cell? ⟨w.heap.size + 1, 2, none⟩ = some (.slice b4 k.ends.length d4) := by
    rintro W rfl
    have hs := hBW.size
    have g1 := A4.setAt 5 (by simp) rfl hs 0 (.int .i64 m.st)
    have g2 := g1.setAt 5 (by simp) rfl (by simpa using hs) 1 (.slice b1 m.next.length d1)
    have g3 := g2.setAt 5 (by simp) rfl (by simpa using hs) 2 (.slice b2 m.ends.length d2)
    have g4 := g3.setAt 4 (by simp) rfl (by simpa using hs) 0 (.int .i64 k.st)
    have g5 := g4.setAt 4 (by simp) rfl (by simpa using hs) 1 (.slice b3 k.next.length d3)
    have g6 := g5.setAt 4 (by simp) rfl (by simpa using hs) 2 (.slice b4 k.ends.length d4)
    have e5 := g6.at 5 (by simp)
    have e4 := g6.at 4 (by simp)
    refine ⟨⟨⟨hm.1, hm.2.1, hm.2.2.1, hm.2.2.2, IsInts.of_owns (g6.at 2 (by simp)), IsBools.of_owns (g6.at 3 (by simp))⟩, ⟨hk.1, hk.2.1, hk.2.2.1, hk.2.2.2, IsInts.of_owns (g6.at 0 (by simp)), IsBools.of_owns (g6.at 1 (by simp))⟩, ?_⟩, ⟨cellsT_cell e5 0, cellsT_cell e5 1, cellsT_cell e5 2⟩, cellsT_cell e4 0, cellsT_cell e4 1, cellsT_cell e4 2⟩
    exact (((((hBW.setCell (p := ⟨w.heap.size, 0, none⟩) (Nat.le_refl _) _).setCell (p := ⟨w.heap.size, 1, none⟩) (Nat.le_refl _) _).setCell (p := ⟨w.heap.size, 2, none⟩) (Nat.le_refl _) _).setCell (p := ⟨w.heap.size + 1, 0, none⟩) (Nat.le_succ _) _).setCell (p := ⟨w.heap.size + 1, 1, none⟩) (Nat.le_succ _) _).setCell (p := ⟨w.heap.size + 1, 2, none⟩) (Nat.le_succ _) _
  have HTD := Lib.hid TD
  have u0 : w4.cell? ⟨w.heap.size, 0, none⟩ = some (.int .i64 0) := cellsT_cell a6 0
  have u1 : w4.cell? ⟨w.heap.size, 1, none⟩ = some (.slice none 0 0) := cellsT_cell a6 1
  have u2 : w4.cell? ⟨w.heap.size, 2, none⟩ = some (.slice none 0 0) := cellsT_cell a6 2
  have t0 : w4.cell? ⟨w.heap.size + 1, 0, none⟩ = some (.int .i64 0) := cellsT_cell a5 0
  have t1 : w4.cell? ⟨w.heap.size + 1, 1, none⟩ = some (.slice none 0 0) := cellsT_cell a5 1
  have t2 : w4.cell? ⟨w.heap.size + 1, 2, none⟩ = some (.slice none 0 0) := cellsT_cell a5 2
  have uf0 := cellsT_frozen a6 0
  have uf1 := cellsT_frozen a6 1
  have uf2 := cellsT_frozen a6 2
  have tf0 := cellsT_frozen a5 0
  have tf1 := cellsT_frozen a5 1
  have tf2 := cellsT_frozen a5 2
  clear TD A4 a5 a6 hBW hA hK hR hRR
  go_wp2
  obtain ⟨hD, ⟨r1, r2, r3⟩, r4, r5, r6⟩ := HTD.out _ rfl
  have HD := Lib.hid hD
  clear hD u0 u1 u2 t0 t1 t2 uf0 uf1 uf2 tf0 tf1 tf2
  refine bodyPost_ret (v := .tuple #[.agg #[.int .i64 m.st, .slice b1 m.next.length d1, .slice b2 m.ends.length d2], .agg #[.int .i64 k.st, .slice b3 k.next.length d3, .slice b4 k.ends.length d4]]) ?_ rfl ⟨m, k, b1, b2, b3, b4, d1, d2, d3, d4, rfl, HD.out.1, HD.out.2.1, HD.out.2.2⟩
  simp [results, Try.results32, go_sem, r1, r2, r3, r4, r5, r6]

theorem IsLm.mok2 {f : List (Fin 3) → Bool} {k : M} (h : IsLm f k) (h48 : k.st ≤ 48) : k.ok = true := M.good_ok (h.good (by omega)) h48
theorem IsJoin.wfT2 {ok b : Bool} {f : List (Fin 3) → Bool} {k : M} (h : IsJoin ok f k b) : (Lit.int .i64 k.st).wf = true := by
  rcases h with ⟨-, -, h1, h2⟩ | ⟨-, rfl, -⟩
  · exact WalkArith.wf_i64 (by have h3 := M.ok_shape (h1.mok2 h2); show _ ∧ _; omega)
  · rfl
theorem LeastNew.readsB {m : M} {w w' : World} {e : Ending} (h : LeastNew m w e w') : ∃ k nv ev, IsLmZ m k ∧ e = .returned (.agg #[.int .i64 k.st, nv, ev]) ∧ IsInts w' nv k.next ∧ IsBools w' ev k.ends ∧ Below w.heap.size w w' := by
  obtain ⟨k, hk, h⟩ := h
  obtain ⟨nv, ev, h1, h2, h3, h4⟩ := h.reads
  exact ⟨k, nv, ev, hk, h1, h2, h3, h4⟩
theorem leastZ_exB {m : M} (hm : m.ok = true) : ∃ l, IsLmZ m l := by
  obtain ⟨K, h1, h2⟩ := least_exD (M.ok_good hm)
  exact ⟨K, fun _ => ⟨h1, by have := (M.ok_shape hm).2.1; omega⟩, fun h => by rw [hm] at h; cases h⟩
theorem IsJoin.both_takes {m k x : M} (hx : IsJoin (m.ok && k.ok) (fun u => m.lang 0 u && k.lang 0 u) x true) (s : ByteArray) : x.takes s = (m.takes s && k.takes s) := by
  rcases hx with ⟨-, hmk, h1, h2⟩ | ⟨h, -, -⟩
  · rw [Bool.and_eq_true] at hmk
    cases hs : wordOk s with
    | false => rw [M.takes_not (.inr hs), M.takes_not (.inr hs)]; rfl
    | true => rw [M.takes_lang (h1.mok2 h2) hs, M.takes_lang hmk.1 hs, M.takes_lang hmk.2 hs, h1.lang]
  · cases h
theorem IsJoin.both_comm {m k x z : M} {r : Bool} (hx : IsJoin (m.ok && k.ok) (fun u => m.lang 0 u && k.lang 0 u) x true) (hz : IsJoin (k.ok && m.ok) (fun u => k.lang 0 u && m.lang 0 u) z r) : r = true ∧ x = z := by
  have e1 : (k.ok && m.ok) = (m.ok && k.ok) := Bool.and_comm _ _
  have e2 : (fun u => k.lang 0 u && m.lang 0 u) = fun u => m.lang 0 u && k.lang 0 u := funext fun u => Bool.and_comm _ _
  rw [e1, e2] at hz
  have := hx.one hz
  exact ⟨this.2.symm, this.1⟩
theorem IsJoin.both_self {m o l : M} {r : Bool} (hm : m.ok = true) (ho : IsJoin (m.ok && m.ok) (fun u => m.lang 0 u && m.lang 0 u) o r) (hl : IsLmZ m l) : r = true ∧ o = l := by
  have e2 : (fun u => m.lang 0 u && m.lang 0 u) = m.lang 0 := funext fun u => Bool.and_self _
  rw [e2] at ho
  obtain ⟨l1, l2⟩ := hl.1 hm
  rcases ho with ⟨rfl, -, h1, h2⟩ | ⟨rfl, rfl, h1⟩
  · exact ⟨rfl, h1.one l1⟩
  · have := h1 (by rw [hm]; rfl) l l1; omega

set_option maxHeartbeats 4000000 in
set_option maxRecDepth 100000 in
theorem lawBothMachines_walk {w : World} (a : Option Addr) (len cap : Nat) (zs : List Int) (h : IsRow .u8 w a len cap zs) (b : Option Addr) (len2 cap2 : Nat) (zs2 : List Int) (h2 : IsRow .u8 w b len2 cap2 zs2) :
    Calls Try.prog 7 #[.slice a len cap, .slice b len2 cap2] w fun e w' => e = .returned (.bool true) ∧ Below w.heap.size w w' := by
  have HD := Lib.hid (drawBothMachines_any a len cap zs w h)
  have H2 := Lib.hid h2
  have hl := h.len_le
  have hl2 := h2.len_le
  unfold maxLen at hl hl2
  clear h h2
  by_cases hbig : 1048576 < len
  · go_enter Try.func7, Try.ntmps7
    go_wp2_with fail
    go_ret
    exact ⟨rfl, Below.refl _ _⟩
  by_cases hbig2 : 1048576 < len2
  · go_enter Try.func7, Try.ntmps7
    go_wp2_with fail
    go_ret
    exact ⟨rfl, Below.refl _ _⟩
  go_enter Try.func7, Try.ntmps7
  go_wp2_with fail
  refine HD.out.mono ?_
  clear HD
  rintro e w1 ⟨m, k, a1, a2, a3, a4, c1, c2, c3, c4, rfl, hdm, hdk, hb1⟩
  have hwf := hdm.wf
  have hwk := hdk.wf
  obtain ⟨T0, q0⟩ := Two.new 27 hdm.ints hdm.bools hdk.ints hdk.bools
  have T1 := Lib.hid T0
  have q1 := Lib.hid (hb1.trans (q0.mono hb1.size))
  clear hb1 hdm hdk T0 q0
  have y0 := T1.out.a.c0
  have y1 := T1.out.a.c1
  have y2 := T1.out.a.c2
  have y3 := T1.out.b.c0
  have y4 := T1.out.b.c1
  have y5 := T1.out.b.c2
  go_wp2_with fail
  clear y0 y1 y2 y3 y4 y5
  generalize hW2 : (w1.alloc (.cells #[.int .i64 m.st, .slice a1 m.next.length c1, .slice a2 m.ends.length c2] 27)).alloc (.cells #[.int .i64 k.st, .slice a3 k.next.length c3, .slice a4 k.ends.length c4] 27) = w2 at *
  generalize hB6 : w1.heap.size + 1 = b6 at *
  generalize hB5 : w1.heap.size = b5 at *
  clear hW2 hB6 hB5
  refine (implBoth_any m k _ _ _ _ w2 T1.out.a.ints T1.out.a.bools T1.out.b.ints T1.out.b.bools hwf hwk).mono ?_
  rintro e w3 h3
  obtain ⟨x, ok, nv3, ev3, hJ3, rfl, hn3, he3, hb3⟩ := h3.reads
  obtain ⟨d1, n1, e1, rfl⟩ := hn3.slice
  obtain ⟨d2, n2, e2, rfl⟩ := he3.slice
  have HJ := Lib.hid hJ3
  have hwx := hJ3.wfT2
  have hal := hb3.trans (((Below.refl w3.heap.size w3).alloc (Nat.le_refl _) (.cells #[.int .i64 x.st, .slice d1 n1 e1, .slice d2 n2 e2] 27)).mono hb3.size)
  have X4 := Lib.hid (MachBox.new (st := x.st) 27 hn3 he3)
  have T4 := Lib.hid (T1.out.below hal)
  have q4 := Lib.hid (q1.out.trans (hal.mono q1.out.size))
  clear hb3 hal h3 hn3 he3 T1 q1 hJ3
  have y0 := T4.out.a.c0
  have y1 := T4.out.a.c1
  have y2 := T4.out.a.c2
  have y3 := T4.out.b.c0
  have y4 := T4.out.b.c1
  have y5 := T4.out.b.c2
  go_wp2_with fail
  clear y0 y1 y2 y3 y4 y5
  generalize hW4 : w3.alloc (.cells #[.int .i64 x.st, .slice d1 n1 e1, .slice d2 n2 e2] 27) = w4 at *
  generalize hB7 : w3.heap.size = b7 at *
  clear hW4 hB7
  refine (specBoth_any m k _ _ _ _ w4 T4.out.a.ints T4.out.a.bools T4.out.b.ints T4.out.b.bools hwf hwk).mono ?_
  rintro e w5 h5
  obtain ⟨y, ok5, nv5, ev5, hJ5, rfl, hn5, he5, hb5⟩ := h5.reads
  obtain ⟨rfl, rfl⟩ := hJ5.one HJ.out
  obtain ⟨d3, n3, e3, rfl⟩ := hn5.slice
  obtain ⟨d4, n4, e4, rfl⟩ := he5.slice
  have hal := hb5.trans (((Below.refl w5.heap.size w5).alloc (Nat.le_refl _) (.cells #[.int .i64 y.st, .slice d3 n3 e3, .slice d4 n4 e4] 27)).mono hb5.size)
  have Y6 := Lib.hid (MachBox.new (st := y.st) 27 hn5 he5)
  have X6 := Lib.hid (X4.out.below hal)
  have T6 := Lib.hid (T4.out.below hal)
  have q6 := Lib.hid (q4.out.trans (hal.mono q4.out.size))
  have hbb : (ok5 != ok5) = false := by simp
  clear hb5 hal h5 hn5 he5 hJ5 T4 X4 q4
  have y0 := X6.out.c0
  have y1 := X6.out.c1
  have y2 := X6.out.c2
  have y3 := Y6.out.c0
  have y4 := Y6.out.c1
  have y5 := Y6.out.c2
  go_wp2_with fail
  clear y0 y1 y2 y3 y4 y5
  generalize hW6 : w5.alloc (.cells #[.int .i64 y.st, .slice d3 n3 e3, .slice d4 n4 e4] 27) = w6 at *
  generalize hB9 : w5.heap.size = b9 at *
  clear hW6 hB9
  refine (sameMachine_same y _ _ _ _ _ X6.out.ints X6.out.bools Y6.out.ints Y6.out.bools).mono ?_
  rintro e w7 ⟨rfl, hb7⟩
  have X7 := Lib.hid (X6.out.below hb7)
  have T7 := Lib.hid (T6.out.below hb7)
  have q7 := Lib.hid (q6.out.trans (hb7.mono q6.out.size))
  clear hb7 X6 T6 Y6 q6
  cases hok : ok5 with
  | false =>
    subst hok
    have hyz : y = ⟨0, [], []⟩ := by
      rcases HJ.out with ⟨h, -⟩ | ⟨-, h, -⟩
      · cases h
      · exact h
    clear HJ
    subst hyz
    have y0 := X7.out.c0
    have y1 := X7.out.c1
    have y2 := X7.out.c2
    have HI := Lib.hid X7.out.ints
    have HB := Lib.hid X7.out.bools
    simp only at y0 HI HB
    go_wp2_with fail
    clear y0 y1 y2
    refine (sameMachine_same ⟨0, [], []⟩ _ _ _ _ _ HI.out HB.out (isInts_nil _) (isBools_nil _)).mono ?_
    rintro e w9 ⟨rfl, hb9⟩
    go_wp2_with fail
    refine (alive_any _).mono ?_
    rintro e w10 ⟨rfl, rfl⟩
    go_wp2_with fail
    go_ret
    exact ⟨rfl, q7.out.trans (hb9.mono q7.out.size)⟩
  | true =>
    subst hok
    have H7 := H2.out.below q7.out
    go_wp2_with fail
    refine (drawTakesOk_any b len2 cap2 zs2 w7 H7).mono ?_
    clear H7
    rintro e w8 ⟨mm, nv8, ev8, s, rfl, hss, hd8, hb8⟩
    obtain ⟨f1, i1, g1, rfl⟩ := hd8.ints.slice
    obtain ⟨f2, i2, g2, rfl⟩ := hd8.bools.slice
    have hsm : s.size ≤ maxLen := by unfold maxLen; omega
    have hal := hb8.trans (((Below.refl w8.heap.size w8).alloc (Nat.le_refl _) (.cells #[.int .i64 mm.st, .slice f1 i1 g1, .slice f2 i2 g2] 27)).mono hb8.size)
    have X9 := Lib.hid (X7.out.below hal)
    have T9 := Lib.hid (T7.out.below hal)
    have q9 := Lib.hid (q7.out.trans (hal.mono q7.out.size))
    clear hal hb8 hd8 X7 T7 q7
    have y0 := T9.out.a.c0
    have y1 := T9.out.a.c1
    have y2 := T9.out.a.c2
    have y3 := T9.out.b.c0
    have y4 := T9.out.b.c1
    have y5 := T9.out.b.c2
    go_wp2_with fail
    clear y0 y1 y2 y3 y4 y5
    generalize hW9 : w8.alloc (.cells #[.int .i64 mm.st, .slice f1 i1 g1, .slice f2 i2 g2] 27) = w9 at *
    clear hW9
    refine (implBoth_any k m _ _ _ _ w9 T9.out.b.ints T9.out.b.bools T9.out.a.ints T9.out.a.bools hwk hwf).mono ?_
    rintro e w10 h10
    obtain ⟨z, rz, nv10, ev10, hJz, rfl, hn10, he10, hb10⟩ := h10.reads
    obtain ⟨hrz, hzl⟩ := IsJoin.both_comm HJ.out hJz
    subst hrz
    rw [← hzl] at hn10 he10 ⊢
    clear hzl hJz
    obtain ⟨d5, n5, e5, rfl⟩ := hn10.slice
    obtain ⟨d6, n6, e6, rfl⟩ := he10.slice
    have hal := hb10.trans (((Below.refl w10.heap.size w10).alloc (Nat.le_refl _) (.cells #[.int .i64 y.st, .slice d5 n5 e5, .slice d6 n6 e6] 27)).mono hb10.size)
    have Z11 := Lib.hid (MachBox.new (st := y.st) 27 hn10 he10)
    have X11 := Lib.hid (X9.out.below hal)
    have T11 := Lib.hid (T9.out.below hal)
    have q11 := Lib.hid (q9.out.trans (hal.mono q9.out.size))
    clear hal hb10 h10 hn10 he10 X9 T9 q9
    have y0 := T11.out.a.c0
    have y1 := T11.out.a.c1
    have y2 := T11.out.a.c2
    go_wp2_with fail
    clear y0 y1 y2
    generalize hW11 : w10.alloc (.cells #[.int .i64 y.st, .slice d5 n5 e5, .slice d6 n6 e6] 27) = w11 at *
    generalize hB13 : w10.heap.size = b13 at *
    clear hW11 hB13
    refine (implBoth_any m m _ _ _ _ w11 T11.out.a.ints T11.out.a.bools T11.out.a.ints T11.out.a.bools hwf hwf).mono ?_
    rintro e w12 h12
    obtain ⟨o, ro, nv12, ev12, hJo, rfl, hn12, he12, hb12⟩ := h12.reads
    have hmk : m.ok = true := by
      rcases HJ.out with ⟨-, h, -⟩ | ⟨h, -⟩
      · rw [Bool.and_eq_true] at h; exact h.1
      · cases h
    obtain ⟨l0, hl0⟩ := leastZ_exB hmk
    obtain ⟨hro, hol⟩ := IsJoin.both_self hmk hJo hl0
    subst hro
    rw [← hol] at hl0
    clear hol hJo
    have HZL : Hid (∀ L, IsLmZ m L → o = L) := Lib.hid (fun L hL => hl0.one hL)
    obtain ⟨d7, n7, e7, rfl⟩ := hn12.slice
    obtain ⟨d8, n8, e8, rfl⟩ := he12.slice
    have hal := hb12.trans (((Below.refl w12.heap.size w12).alloc (Nat.le_refl _) (.cells #[.int .i64 o.st, .slice d7 n7 e7, .slice d8 n8 e8] 27)).mono hb12.size)
    have O13 := Lib.hid (MachBox.new (st := o.st) 27 hn12 he12)
    have Z13 := Lib.hid (Z11.out.below hal)
    have X13 := Lib.hid (X11.out.below hal)
    have T13 := Lib.hid (T11.out.below hal)
    have q13 := Lib.hid (q11.out.trans (hal.mono q11.out.size))
    clear hal hb12 h12 hn12 he12 X11 T11 Z11 q11 hl0 hmk
    go_upto_region 13 with fail
    generalize hW13 : w12.alloc (.cells #[.int .i64 o.st, .slice d7 n7 e7, .slice d8 n8 e8] 27) = w13 at *
    generalize hB15 : w12.heap.size = b15 at *
    clear hW13 hB15
    have HM : Hid (∀ W, Below w13.heap.size w13 W → Tri b5 m.st (.slice a1 m.next.length c1) (.slice a2 m.ends.length c2) W) := Lib.hid (fun W h => (T13.out.below h).a.tri)
    have HK : Hid (∀ W, Below w13.heap.size w13 W → Tri b6 k.st (.slice a3 k.next.length c3) (.slice a4 k.ends.length c4) W) := Lib.hid (fun W h => (T13.out.below h).b.tri)
    have HX : Hid (∀ W, Below w13.heap.size w13 W → Tri b7 y.st (.slice d1 n1 e1) (.slice d2 n2 e2) W) := Lib.hid (fun W h => (X13.out.below h).tri)
    have HZ : Hid (∀ W, Below w13.heap.size w13 W → Tri b13 y.st (.slice d5 n5 e5) (.slice d6 n6 e6) W) := Lib.hid (fun W h => (Z13.out.below h).tri)
    have HO : Hid (∀ W, Below w13.heap.size w13 W → Tri b15 o.st (.slice d7 n7 e7) (.slice d8 n8 e8) W) := Lib.hid (fun W h => (O13.out.below h).tri)
    have BD := Lib.hid ((Below.refl w13.heap.size w13).drew)
    have hty := HJ.out.both_takes s
    clear HJ
    cases htm : m.takes s with
    | false =>
      have HTM := Lib.hid htm
      have HTY : Hid (y.takes s = false) := Lib.hid (by rw [hty, htm]; rfl)
      clear htm hty
      obtain ⟨rx0, rx1, rx2⟩ := (HX.out _ (Below.refl _ _)).cells
      obtain ⟨rm0, rm1, rm2⟩ := (HM.out _ (Below.refl _ _)).cells
      obtain ⟨rk0, rk1, rk2⟩ := (HK.out _ (Below.refl _ _)).cells
      obtain ⟨rz0, rz1, rz2⟩ := (HZ.out _ (Below.refl _ _)).cells
      obtain ⟨ro0, ro1, ro2⟩ := (HO.out _ (Below.refl _ _)).cells
      go_region_with (first | (go_at_call 28; with_reducible refine (implTakesOk_any y s _ _ w13.drew (X13.out.below BD.out).ints (X13.out.below BD.out).bools hwx hsm).mono ?_; rintro e w14 ⟨rfl, hb14⟩; rw [HTY.out]; have B14 := Lib.hid (Below.then' BD.out hb14); clear hb14; obtain ⟨rx0, rx1, rx2⟩ := (HX.out _ B14.out).cells; obtain ⟨rm0, rm1, rm2⟩ := (HM.out _ B14.out).cells; obtain ⟨rk0, rk1, rk2⟩ := (HK.out _ B14.out).cells; obtain ⟨rz0, rz1, rz2⟩ := (HZ.out _ B14.out).cells; obtain ⟨ro0, ro1, ro2⟩ := (HO.out _ B14.out).cells) | (go_at_call 28; with_reducible refine (implTakesOk_any m s _ _ w14 (T13.out.below B14.out).a.ints (T13.out.below B14.out).a.bools hwf hsm).mono ?_; rintro e w15 ⟨rfl, hb15⟩; rw [HTM.out]; have B15 := Lib.hid (Below.then' B14.out hb15); clear hb15; have hsweep : True := trivial; obtain ⟨rx0, rx1, rx2⟩ := (HX.out _ B15.out).cells; obtain ⟨rm0, rm1, rm2⟩ := (HM.out _ B15.out).cells; obtain ⟨rk0, rk1, rk2⟩ := (HK.out _ B15.out).cells; obtain ⟨rz0, rz1, rz2⟩ := (HZ.out _ B15.out).cells; obtain ⟨ro0, ro1, ro2⟩ := (HO.out _ B15.out).cells) | (clear hsweep; guard_target = wpAny _ _ _ _ _ _ _ _; refine wpAny_take (i := 6) (oi := ⟨some 82, _, _, _, _, _⟩) (v := .bool false) rfl (by kernel_rfl) (by kernel_rfl) (by kernel_rfl) (fun _ _ _ h => h) (Or.inl ⟨by rfl, by intro w; go_simp⟩) ?_; simp only [Act.put, List.setIfInBounds_toArray, List.set_cons_zero, List.set_cons_succ]; refine wpAny_take (i := 7) (oi := ⟨some 83, _, _, _, _, _⟩) (v := undef) rfl (by kernel_rfl) (by kernel_rfl) (by kernel_rfl) (fun _ _ _ h => h) (Or.inr ⟨by rfl, rfl⟩) ?_; simp only [Act.put, List.setIfInBounds_toArray, List.set_cons_zero, List.set_cons_succ]; refine wpAny_take (i := 8) (oi := ⟨some 84, _, _, _, _, _⟩) (v := undef) rfl (by kernel_rfl) (by kernel_rfl) (by kernel_rfl) (fun _ _ _ h => h) (Or.inr ⟨by rfl, rfl⟩) ?_; simp only [Act.put, List.setIfInBounds_toArray, List.set_cons_zero, List.set_cons_succ]; refine wpAny_take (i := 9) (oi := ⟨some 85, _, _, _, _, _⟩) (v := undef) rfl (by kernel_rfl) (by kernel_rfl) (by kernel_rfl) (fun _ _ _ h => h) (Or.inr ⟨by rfl, rfl⟩) ?_; simp only [Act.put, List.setIfInBounds_toArray, List.set_cons_zero, List.set_cons_succ]) | (go_at_call 24; with_reducible refine (sameMachine_same y _ _ _ _ w15 (Z13.out.below B15.out).ints (Z13.out.below B15.out).bools (X13.out.below B15.out).ints (X13.out.below B15.out).bools).mono ?_; rintro e w16 ⟨rfl, hb16⟩; have B16 := Lib.hid (Below.then' B15.out hb16); clear hb16; obtain ⟨rx0, rx1, rx2⟩ := (HX.out _ B16.out).cells; obtain ⟨rm0, rm1, rm2⟩ := (HM.out _ B16.out).cells; obtain ⟨rk0, rk1, rk2⟩ := (HK.out _ B16.out).cells; obtain ⟨rz0, rz1, rz2⟩ := (HZ.out _ B16.out).cells; obtain ⟨ro0, ro1, ro2⟩ := (HO.out _ B16.out).cells) | (go_at_call 29; refine (implLeastZ m _ _ w16 (T13.out.below B16.out).a.ints (T13.out.below B16.out).a.bools hwf).mono ?_; rintro e w17 h17; obtain ⟨L, nv17, ev17, hL, rfl, hn17, he17, hb17⟩ := h17.readsB; obtain rfl := HZL.out L hL; have B17 := Lib.hid (Below.then' B16.out hb17); clear hb17 h17; obtain ⟨rx0, rx1, rx2⟩ := (HX.out _ B17.out).cells; obtain ⟨rm0, rm1, rm2⟩ := (HM.out _ B17.out).cells; obtain ⟨rk0, rk1, rk2⟩ := (HK.out _ B17.out).cells; obtain ⟨rz0, rz1, rz2⟩ := (HZ.out _ B17.out).cells; obtain ⟨ro0, ro1, ro2⟩ := (HO.out _ B17.out).cells) | (go_at_call 24; refine (sameMachine_same o _ _ nv17 ev17 w17 (O13.out.below B17.out).ints (O13.out.below B17.out).bools hn17 he17).mono ?_; rintro e w18 ⟨rfl, hb18⟩; have B18 := Lib.hid (Below.then' B17.out hb18); clear hb18; obtain ⟨rx0, rx1, rx2⟩ := (HX.out _ B18.out).cells; obtain ⟨rm0, rm1, rm2⟩ := (HM.out _ B18.out).cells; obtain ⟨rk0, rk1, rk2⟩ := (HK.out _ B18.out).cells; obtain ⟨rz0, rz1, rz2⟩ := (HZ.out _ B18.out).cells; obtain ⟨ro0, ro1, ro2⟩ := (HO.out _ B18.out).cells))
      all_goals
        go_simp
        go_wp2_with fail
        go_ret
        exact ⟨rfl, q13.out.trans (B18.out.mono q13.out.size)⟩
    | true =>
      have HTM := Lib.hid htm
      cases htk : k.takes s with
      | false =>
        have HTK := Lib.hid htk
        have HTY : Hid (y.takes s = false) := Lib.hid (by rw [hty, htm, htk]; rfl)
        clear htm htk hty
        go_region_held3 (fun w' => (w'.cell? ⟨b7, 0, none⟩ = some (.int .i64 y.st) ∧ w'.cell? ⟨b7, 1, none⟩ = some (.slice d1 n1 e1) ∧ w'.cell? ⟨b7, 2, none⟩ = some (.slice d2 n2 e2)) ∧ (w'.cell? ⟨b5, 0, none⟩ = some (.int .i64 m.st) ∧ w'.cell? ⟨b5, 1, none⟩ = some (.slice a1 m.next.length c1) ∧ w'.cell? ⟨b5, 2, none⟩ = some (.slice a2 m.ends.length c2)) ∧ (w'.cell? ⟨b6, 0, none⟩ = some (.int .i64 k.st) ∧ w'.cell? ⟨b6, 1, none⟩ = some (.slice a3 k.next.length c3) ∧ w'.cell? ⟨b6, 2, none⟩ = some (.slice a4 k.ends.length c4)) ∧ (w'.cell? ⟨b13, 0, none⟩ = some (.int .i64 y.st) ∧ w'.cell? ⟨b13, 1, none⟩ = some (.slice d5 n5 e5) ∧ w'.cell? ⟨b13, 2, none⟩ = some (.slice d6 n6 e6)) ∧ (w'.cell? ⟨b15, 0, none⟩ = some (.int .i64 o.st) ∧ w'.cell? ⟨b15, 1, none⟩ = some (.slice d7 n7 e7) ∧ w'.cell? ⟨b15, 2, none⟩ = some (.slice d8 n8 e8)))
          (first | (with_reducible exact ⟨(HX.out _ BD.out).cells, (HM.out _ BD.out).cells, (HK.out _ BD.out).cells, (HZ.out _ BD.out).cells, (HO.out _ BD.out).cells⟩) | (with_reducible exact ⟨(HX.out _ B14.out).cells, (HM.out _ B14.out).cells, (HK.out _ B14.out).cells, (HZ.out _ B14.out).cells, (HO.out _ B14.out).cells⟩) | (with_reducible exact ⟨(HX.out _ B15.out).cells, (HM.out _ B15.out).cells, (HK.out _ B15.out).cells, (HZ.out _ B15.out).cells, (HO.out _ B15.out).cells⟩) | (with_reducible exact ⟨(HX.out _ B16.out).cells, (HM.out _ B16.out).cells, (HK.out _ B16.out).cells, (HZ.out _ B16.out).cells, (HO.out _ B16.out).cells⟩) | (with_reducible exact ⟨(HX.out _ B17.out).cells, (HM.out _ B17.out).cells, (HK.out _ B17.out).cells, (HZ.out _ B17.out).cells, (HO.out _ B17.out).cells⟩) | (with_reducible exact ⟨(HX.out _ B18.out).cells, (HM.out _ B18.out).cells, (HK.out _ B18.out).cells, (HZ.out _ B18.out).cells, (HO.out _ B18.out).cells⟩) | (with_reducible exact ⟨(HX.out _ B19.out).cells, (HM.out _ B19.out).cells, (HK.out _ B19.out).cells, (HZ.out _ B19.out).cells, (HO.out _ B19.out).cells⟩))
          (first | (go_at_call 28; with_reducible refine (implTakesOk_any y s _ _ w13.drew (X13.out.below BD.out).ints (X13.out.below BD.out).bools hwx hsm).mono ?_; rintro e w14 ⟨rfl, hb14⟩; rw [HTY.out]; have B14 := Lib.hid (Below.then' BD.out hb14); clear hb14) | (go_at_call 28; with_reducible refine (implTakesOk_any m s _ _ w14 (T13.out.below B14.out).a.ints (T13.out.below B14.out).a.bools hwf hsm).mono ?_; rintro e w15 ⟨rfl, hb15⟩; rw [HTM.out]; have B15 := Lib.hid (Below.then' B14.out hb15); clear hb15) | (go_at_call 28; with_reducible refine (implTakesOk_any k s _ _ w15 (T13.out.below B15.out).b.ints (T13.out.below B15.out).b.bools hwk hsm).mono ?_; rintro e w16 ⟨rfl, hb16⟩; rw [HTK.out]; have B16 := Lib.hid (Below.then' B15.out hb16); clear hb16) | (go_at_call 24; with_reducible refine (sameMachine_same y _ _ _ _ w16 (Z13.out.below B16.out).ints (Z13.out.below B16.out).bools (X13.out.below B16.out).ints (X13.out.below B16.out).bools).mono ?_; rintro e w17 ⟨rfl, hb17⟩; have B17 := Lib.hid (Below.then' B16.out hb17); clear hb17) | (go_at_call 29; refine (implLeastZ m _ _ w17 (T13.out.below B17.out).a.ints (T13.out.below B17.out).a.bools hwf).mono ?_; rintro e w18 h18; obtain ⟨L, nv18, ev18, hL, rfl, hn18, he18, hb18⟩ := h18.readsB; obtain rfl := HZL.out L hL; have B18 := Lib.hid (Below.then' B17.out hb18); clear hb18 h18) | (go_at_call 24; refine (sameMachine_same o _ _ nv18 ev18 w18 (O13.out.below B18.out).ints (O13.out.below B18.out).bools hn18 he18).mono ?_; rintro e w19 ⟨rfl, hb19⟩; have B19 := Lib.hid (Below.then' B18.out hb19); clear hb19))
        all_goals
          go_wp2_with fail
          go_ret
          exact ⟨rfl, q13.out.trans (B19.out.mono q13.out.size)⟩
      | true =>
        have HTK := Lib.hid htk
        have HTY : Hid (y.takes s = true) := Lib.hid (by rw [hty, htm, htk]; rfl)
        clear htm htk hty
        go_region_held3 (fun w' => (w'.cell? ⟨b7, 0, none⟩ = some (.int .i64 y.st) ∧ w'.cell? ⟨b7, 1, none⟩ = some (.slice d1 n1 e1) ∧ w'.cell? ⟨b7, 2, none⟩ = some (.slice d2 n2 e2)) ∧ (w'.cell? ⟨b5, 0, none⟩ = some (.int .i64 m.st) ∧ w'.cell? ⟨b5, 1, none⟩ = some (.slice a1 m.next.length c1) ∧ w'.cell? ⟨b5, 2, none⟩ = some (.slice a2 m.ends.length c2)) ∧ (w'.cell? ⟨b6, 0, none⟩ = some (.int .i64 k.st) ∧ w'.cell? ⟨b6, 1, none⟩ = some (.slice a3 k.next.length c3) ∧ w'.cell? ⟨b6, 2, none⟩ = some (.slice a4 k.ends.length c4)) ∧ (w'.cell? ⟨b13, 0, none⟩ = some (.int .i64 y.st) ∧ w'.cell? ⟨b13, 1, none⟩ = some (.slice d5 n5 e5) ∧ w'.cell? ⟨b13, 2, none⟩ = some (.slice d6 n6 e6)) ∧ (w'.cell? ⟨b15, 0, none⟩ = some (.int .i64 o.st) ∧ w'.cell? ⟨b15, 1, none⟩ = some (.slice d7 n7 e7) ∧ w'.cell? ⟨b15, 2, none⟩ = some (.slice d8 n8 e8)))
          (first | (with_reducible exact ⟨(HX.out _ BD.out).cells, (HM.out _ BD.out).cells, (HK.out _ BD.out).cells, (HZ.out _ BD.out).cells, (HO.out _ BD.out).cells⟩) | (with_reducible exact ⟨(HX.out _ B14.out).cells, (HM.out _ B14.out).cells, (HK.out _ B14.out).cells, (HZ.out _ B14.out).cells, (HO.out _ B14.out).cells⟩) | (with_reducible exact ⟨(HX.out _ B15.out).cells, (HM.out _ B15.out).cells, (HK.out _ B15.out).cells, (HZ.out _ B15.out).cells, (HO.out _ B15.out).cells⟩) | (with_reducible exact ⟨(HX.out _ B16.out).cells, (HM.out _ B16.out).cells, (HK.out _ B16.out).cells, (HZ.out _ B16.out).cells, (HO.out _ B16.out).cells⟩) | (with_reducible exact ⟨(HX.out _ B17.out).cells, (HM.out _ B17.out).cells, (HK.out _ B17.out).cells, (HZ.out _ B17.out).cells, (HO.out _ B17.out).cells⟩) | (with_reducible exact ⟨(HX.out _ B18.out).cells, (HM.out _ B18.out).cells, (HK.out _ B18.out).cells, (HZ.out _ B18.out).cells, (HO.out _ B18.out).cells⟩) | (with_reducible exact ⟨(HX.out _ B19.out).cells, (HM.out _ B19.out).cells, (HK.out _ B19.out).cells, (HZ.out _ B19.out).cells, (HO.out _ B19.out).cells⟩))
          (first | (go_at_call 28; with_reducible refine (implTakesOk_any y s _ _ w13.drew (X13.out.below BD.out).ints (X13.out.below BD.out).bools hwx hsm).mono ?_; rintro e w14 ⟨rfl, hb14⟩; rw [HTY.out]; have B14 := Lib.hid (Below.then' BD.out hb14); clear hb14) | (go_at_call 28; with_reducible refine (implTakesOk_any m s _ _ w14 (T13.out.below B14.out).a.ints (T13.out.below B14.out).a.bools hwf hsm).mono ?_; rintro e w15 ⟨rfl, hb15⟩; rw [HTM.out]; have B15 := Lib.hid (Below.then' B14.out hb15); clear hb15) | (go_at_call 28; with_reducible refine (implTakesOk_any k s _ _ w15 (T13.out.below B15.out).b.ints (T13.out.below B15.out).b.bools hwk hsm).mono ?_; rintro e w16 ⟨rfl, hb16⟩; rw [HTK.out]; have B16 := Lib.hid (Below.then' B15.out hb16); clear hb16) | (go_at_call 24; with_reducible refine (sameMachine_same y _ _ _ _ w16 (Z13.out.below B16.out).ints (Z13.out.below B16.out).bools (X13.out.below B16.out).ints (X13.out.below B16.out).bools).mono ?_; rintro e w17 ⟨rfl, hb17⟩; have B17 := Lib.hid (Below.then' B16.out hb17); clear hb17) | (go_at_call 29; refine (implLeastZ m _ _ w17 (T13.out.below B17.out).a.ints (T13.out.below B17.out).a.bools hwf).mono ?_; rintro e w18 h18; obtain ⟨L, nv18, ev18, hL, rfl, hn18, he18, hb18⟩ := h18.readsB; obtain rfl := HZL.out L hL; have B18 := Lib.hid (Below.then' B17.out hb18); clear hb18 h18) | (go_at_call 24; refine (sameMachine_same o _ _ nv18 ev18 w18 (O13.out.below B18.out).ints (O13.out.below B18.out).bools hn18 he18).mono ?_; rintro e w19 ⟨rfl, hb19⟩; have B19 := Lib.hid (Below.then' B18.out hb19); clear hb19))
        all_goals
          go_wp2_with fail
          go_ret
          exact ⟨rfl, q13.out.trans (B19.out.mono q13.out.size)⟩
end Go.Proofs.Ythknpbefdejbkaa
