/- The walk of FnEitherMachine: true at every two codes; the drawing of two machines. No condition. -/
import Derived.Test.YthknpbefdejbkaaJoinM
import Derived.Test.YthknpbefdejbkaaSpecJ
import Derived.Test.YthknpbefdejbkaaSameAll
import Derived.Test.YthknpbefdejbkaaTakes
import Derived.Test.YthknpbefdejbkaaImplSame
import Derived.Test.YthknpbefdejbkaaDrawAll
import Derived.Test.YthknpbefdejbkaaLeastAll
import Derived.Test.YthknpbefdejbkaaBoxed
import Derived.Deep.RegionWith
import Derived.Deep.RegionHeld3
namespace Go.Proofs.Ythknpbefdejbkaa
open Go.RowKit

theorem apart_joinK {C R : Nat} {ts us : List Thing} {w w' : World} (hA : Apart C ts w) (hK : KeepsBut R w w') (hR : R < C) (hU : Apart w.heap.size us w') (hC : C ≤ w.heap.size) : Apart C (us ++ ts) w' := by
  have h := hA.other hK.grownBy (fun k e => by cases e; exact hR)
  refine ⟨fun t ht => ?_, List.pairwise_append.2 ⟨hU.two, h.two, fun s hs t ht k e e' => ?_⟩⟩
  · rcases List.mem_append.1 ht with ht | ht
    · exact ⟨(hU.all t ht).1, fun k e => ⟨Nat.le_trans hC ((hU.all t ht).2 k e).1, ((hU.all t ht).2 k e).2⟩⟩
    · exact h.all t ht
  · have := ((hA.all t ht).2 k e').2
    have := ((hU.all s hs).2 k e).1
    omega
def zC (b : Nat) : Thing := cellsT b #[.int .i64 0, .slice none 0 0, .slice none 0 0] 27
/-- both results are laid down -/
theorem two_done {R b4 : Nat} {w w7 : World} {st st' : Int} {v1 v2 v3 v4 : Value} {xs xs' : List Int} {bs bs' : List Bool} (K : KeepsBut R w w7)
    (A : Apart w.heap.size [rI v3 xs', rB v4 bs', cM b4 st v1 v2, rI v1 xs, rB v2 bs, zC (w.heap.size + 1), zC w.heap.size] w7) :
    ∀ W, W = (((((w7.setCell ⟨w.heap.size, 0, none⟩ (.int .i64 st)).setCell ⟨w.heap.size, 1, none⟩ v1).setCell ⟨w.heap.size, 2, none⟩ v2).setCell ⟨w.heap.size + 1, 0, none⟩ (.int .i64 st')).setCell ⟨w.heap.size + 1, 1, none⟩ v3).setCell ⟨w.heap.size + 1, 2, none⟩ v4 →
      Apart w.heap.size [rI v3 xs', rB v4 bs', rI v1 xs, rB v2 bs] W ∧ KeepsBut R w W ∧ (W.cell? ⟨w.heap.size, 0, none⟩ = some (.int .i64 st) ∧ W.cell? ⟨w.heap.size, 1, none⟩ = some v1 ∧ W.cell? ⟨w.heap.size, 2, none⟩ = some v2) ∧ W.cell? ⟨w.heap.size + 1, 0, none⟩ = some (.int .i64 st') ∧ W.cell? ⟨w.heap.size + 1, 1, none⟩ = some v3 ∧ W.cell? ⟨w.heap.size + 1, 2, none⟩ = some v4 := by
  rintro W rfl
  have hs := K.size
  have a1 := A.setAt 6 (by simp) rfl hs 0 (.int .i64 st)
  have a2 := a1.setAt 6 (by simp) rfl (by simpa using hs) 1 v1
  have a3 := a2.setAt 6 (by simp) rfl (by simpa using hs) 2 v2
  have a4 := a3.setAt 5 (by simp) rfl (by simpa using hs) 0 (.int .i64 st')
  have a5 := a4.setAt 5 (by simp) rfl (by simpa using hs) 1 v3
  have a6 := a5.setAt 5 (by simp) rfl (by simpa using hs) 2 v4
  have c6 := a6.at 6 (by simp)
  have c5 := a6.at 5 (by simp)
  have g : ∀ {V : World} (b i : Nat) (u : Value), KeepsBut R w V → w.heap.size ≤ b → KeepsBut R w (V.setCell ⟨b, i, none⟩ u) := fun b i u h hb => h.grown (grown_setCell _ b i u) (fun k e => by cases e; exact hb)
  refine ⟨a6.sub (List.Sublist.cons_cons _ (List.Sublist.cons_cons _ (List.Sublist.cons _ (List.Sublist.cons_cons _ (List.Sublist.cons_cons _ (List.nil_sublist _)))))), ?_, ⟨cellsT_cell c6 0, cellsT_cell c6 1, cellsT_cell c6 2⟩, cellsT_cell c5 0, cellsT_cell c5 1, cellsT_cell c5 2⟩
  exact g _ _ _ (g _ _ _ (g _ _ _ (g _ _ _ (g _ _ _ (g _ _ _ K (Nat.le_refl _)) (Nat.le_refl _)) (Nat.le_refl _)) (Nat.le_succ _)) (Nat.le_succ _)) (Nat.le_succ _)
theorem least_exD {m : M} (hg : m.good) : ∃ K, IsLm (m.lang 0) K ∧ K.st ≤ m.st := by
  have hT := tm_good hg
  have h0 : 0 < (tm m).ends.length := by have := M.good_shape hT; omega
  obtain ⟨K, k1, k2, k3⟩ := lm_spec hT (tm_trim hg) (still_end (good_closed hT) h0) (repL_part (tm m) _ _)
  rw [tm_lang hg] at k3
  refine ⟨_, k3, ?_⟩
  show (K : Int) ≤ m.st
  have h1 : (tm m).st ≤ m.st := by
    have h5 := tm_len hg
    have h6 := trimN_le hg (lrounds m m.ends.length)
    have h7 := (M.good_shape hg).2.2.2
    have h8 := (M.good_shape hT).2.2.2
    omega
  have h2 := (M.good_shape hT).2.2.2
  omega
/-- within bounds -/
def Small5 (m : M) : Prop := 0 ≤ m.st ∧ m.st ≤ 5 ∧ m.next.length ≤ 15 ∧ m.ends.length ≤ 6
/-- two machines that were drawn -/
def Machs2 (R : Nat) (w : World) (e : Ending) (w' : World) : Prop :=
  ∃ (m k : M) (a1 a2 a3 a4 : Option Addr) (c1 c2 c3 c4 : Nat), e = .returned (.tuple #[.agg #[.int .i64 m.st, .slice a1 m.next.length c1, .slice a2 m.ends.length c2], .agg #[.int .i64 k.st, .slice a3 k.next.length c3, .slice a4 k.ends.length c4]]) ∧
    Small5 m ∧ Small5 k ∧ Apart w.heap.size [rI (.slice a3 k.next.length c3) k.next, rB (.slice a4 k.ends.length c4) k.ends, rI (.slice a1 m.next.length c1) m.next, rB (.slice a2 m.ends.length c2) m.ends] w' ∧ KeepsBut R w w'
/-- two machines that were drawn, to be read -/
def MachRes2 (w : World) (e : Ending) (w' : World) : Prop :=
  ∃ (m k : M) (a1 a2 a3 a4 : Option Addr) (c1 c2 c3 c4 : Nat), e = .returned (.tuple #[.agg #[.int .i64 m.st, .slice a1 m.next.length c1, .slice a2 m.ends.length c2], .agg #[.int .i64 k.st, .slice a3 k.next.length c3, .slice a4 k.ends.length c4]]) ∧
    Drawn2 m (.slice a1 m.next.length c1) (.slice a2 m.ends.length c2) w' ∧ Drawn2 k (.slice a3 k.next.length c3) (.slice a4 k.ends.length c4) w' ∧ Below w.heap.size w w'

set_option maxHeartbeats 2000000 in
set_option maxRecDepth 100000 in
theorem l20Machines_any (B R : Nat) (a : Option Addr) (len cap k : Nat) (w : World) (H : RdAt B R a len cap k w) (hk : k ≤ 800000) :
    Calls Try.prog 71 #[.pointer (some ⟨R, 0, none⟩)] w (Machs2 R w) := by
  have hRw := H.hR
  have A1 := (Apart.nil w.heap.size w).more (World.grownBy_alloc w _ none) (zC w.heap.size) (heap_alloc_new w _) (Nat.le_refl _) (fun j e => by cases e; simp)
  have A2 := A1.more (World.grownBy_alloc _ (.cells #[.int .i64 0, .slice none 0 0, .slice none 0 0] 27) none) (zC (w.heap.size + 1)) (by have := heap_alloc_new (w.alloc (.cells #[.int .i64 0, .slice none 0 0, .slice none 0 0] 27)) (.cells #[.int .i64 0, .slice none 0 0, .slice none 0 0] 27); rw [World.size_alloc] at this; exact this) (by simp) (fun j e => by cases e; simp)
  have K2 := ((KeepsBut.refl R w).alloc (.cells #[.int .i64 0, .slice none 0 0, .slice none 0 0] 27)).alloc (.cells #[.int .i64 0, .slice none 0 0, .slice none 0 0] 27)
  have H2 := (H.grown (World.grownBy_alloc w (.cells #[.int .i64 0, .slice none 0 0, .slice none 0 0] 27) none) (fun _ e => by cases e)).grown (World.grownBy_alloc _ (.cells #[.int .i64 0, .slice none 0 0, .slice none 0 0] 27) none) (fun _ e => by cases e)
  have HC := Lib.hid (l20Machine_any B R a len cap k 14 _ H2 (by omega) (by omega) (by omega))
  have HA2 := Lib.hid A2
  have HK2 := Lib.hid K2
  clear H A1 A2 K2 H2
  go_enter Try.func71, Try.ntmps71
  go_wp2_with fail
  refine HC.out.mono ?_
  clear HC
  generalize (w.alloc (.cells #[.int .i64 0, .slice none 0 0, .slice none 0 0] 27)).alloc (.cells #[.int .i64 0, .slice none 0 0, .slice none 0 0] 27) = w1 at *
  rintro e w2 ⟨st, xs, bs, nv, ev, rfl, h0, h1, h2, h3, ⟨k1, hk1, hk2, hR1⟩, hK1, hA⟩
  obtain ⟨a3, c3, rfl⟩ := ownsRow_sliceD hA.head
  obtain ⟨a4, c4, rfl⟩ := ownsRow_sliceD hA.tail.head
  have A3 : Apart w.heap.size [rI (.slice a3 xs.length c3) xs, rB (.slice a4 bs.length c4) bs, zC (w.heap.size + 1), zC w.heap.size] w2 := apart_joinK HA2.out hK1 hRw hA HK2.out.size
  have K3 := HK2.out.trans hK1
  have A4 := Lib.hid (boxed st (.slice a3 xs.length c3) (.slice a4 bs.length c4) A3 K3.size)
  have K4 := Lib.hid (K3.alloc (.cells #[.int .i64 st, .slice a3 xs.length c3, .slice a4 bs.length c4] 27))
  have R4 := Lib.hid (hR1.grown (World.grownBy_alloc w2 (.cells #[.int .i64 st, .slice a3 xs.length c3, .slice a4 bs.length c4] 27) none) (fun _ e => by cases e))
  have hwf : (Lit.int .i64 st).wf = true := WalkArith.wf_i64 (by omega)
  have HBW0 : w.heap.size + 1 < w2.heap.size := (A3.ltAt 2 (by simp) _ rfl).2
  clear A3 K3 hA hK1 hR1 HA2 HK2
  go_upto_region 2 with fail
  generalize hW4 : w2.alloc (.cells #[.int .i64 st, .slice a3 xs.length c3, .slice a4 bs.length c4] 27) = w4 at *
  generalize hB4 : w2.heap.size = b4 at *
  clear hW4 hB4
  obtain ⟨y0, y1, y2⟩ := cM_at A4.out.head
  go_cut [13] from 5 to 19 (fun t wx => ∃ (c : Bool) (kk : Nat), t = .bool c ∧ (c = true → M.ok ⟨st, xs, bs⟩ = true) ∧ kk ≤ 900000 ∧ Apart w.heap.size [cM b4 st (.slice a3 xs.length c3) (.slice a4 bs.length c4), rI (.slice a3 xs.length c3) xs, rB (.slice a4 bs.length c4) bs, zC (w.heap.size + 1), zC w.heap.size] wx ∧ KeepsBut R w wx ∧ RdAt B R a len cap kk wx)
  case first =>
    go_wp2_with fail
    clear y0 y1 y2
    refine (specMachineOk_any ⟨st, xs, bs⟩ _ _ _ (IsInts.of_owns A4.out.tail.head) (IsBools.of_owns A4.out.tail.tail.head) hwf).mono ?_
    rintro e w5 ⟨rfl, hb5⟩
    have A5 := Lib.hid (A4.out.below hb5)
    have K5 := Lib.hid (K4.out.trans (KeepsBut.of_below hb5))
    have R5 := Lib.hid (R4.out.keeps hb5)
    clear hb5 A4 K4 R4
    cases hok : M.ok ⟨st, xs, bs⟩ with
    | false =>
      go_wp2
      go_meet
      case rel => exact ⟨false, k1, rfl, (fun h => by cases h), by omega, A5.out, K5.out, R5.out⟩
    | true =>
      have HOK := Lib.hid hok
      clear hok
      go_wp2_with fail
      refine (pick_any B R a len cap k1 4 w5 R5.out (by omega) (by omega) (by omega)).mono ?_
      rintro e w6 ⟨v, rfl, v0, v1, hR6, hK6⟩
      have A6 := Lib.hid (A5.out.other hK6.grownBy (fun k e => by cases e; exact hRw))
      have K6 := Lib.hid (K5.out.trans hK6)
      have R6 := Lib.hid hR6
      clear hR6 hK6 v0 v1
      go_wp2
      go_meet
      case rel => exact ⟨v == 0, k1 + 1, (by first | rfl | simp), (fun _ => HOK.out), by omega, A6.out, K6.out, R6.out⟩
  case rest =>
    obtain ⟨c, kk, rfl, hcok, hkk, hA5, hK5, hR5⟩ := hcut
    have A5 := Lib.hid hA5
    have K5 := Lib.hid hK5
    have R5 := Lib.hid hR5
    clear hA5 hK5 hR5 A4 K4 R4 y0 y1 y2
    cases c with
    | true =>
      have hok := hcok rfl
      have HG := M.ok_good hok
      obtain ⟨K0, g1, g2⟩ := least_exD HG
      have HL5 : Hid (∀ L, IsLmZ ⟨st, xs, bs⟩ L → 0 ≤ L.st ∧ L.st ≤ 5 ∧ L.next.length ≤ 15 ∧ L.ends.length ≤ 6) := Lib.hid (fun L hL => by
        obtain ⟨l1, l2⟩ := hL.1 hok
        obtain rfl := l1.one g1
        have hs := M.good_shape (g1.good (by omega))
        have g3 : L.st ≤ st := g2
        omega)
      clear hcok hok HG g1 g2
      go_upto_region 3 with fail
      obtain ⟨y0, y1, y2⟩ := cM_at A5.out.head
      have Ad := Lib.hid (A5.out.same (grown_drew wc none))
      go_region_with (first | (go_at_call 42; refine (specLeastZ ⟨st, xs, bs⟩ _ _ wc.drew (IsInts.of_owns Ad.out.tail.head) (IsBools.of_owns Ad.out.tail.tail.head) hwf).mono ?_; rintro e w7 ⟨L, hL, a5, a6, c5, c6, rfl, hA7, hb7⟩; have A7 : Apart w.heap.size [rI (.slice a5 L.next.length c5) L.next, rB (.slice a6 L.ends.length c6) L.ends, cM b4 st (.slice a3 xs.length c3) (.slice a4 bs.length c4), rI (.slice a3 xs.length c3) xs, rB (.slice a4 bs.length c4) bs, zC (w.heap.size + 1), zC w.heap.size] w7 := apart_join Ad.out hb7 hA7 K5.out.size; have K7 := K5.out.trans ((KeepsBut.refl R wc).trans (KeepsBut.of_below (w := wc) (w' := w7) ((Below.refl _ _).drew.trans hb7))); have TD := Lib.hid (two_done (st' := L.st) K7 A7); obtain ⟨z0, z1, z2⟩ := cM_at (A7.of (cM b4 st (.slice a3 xs.length c3) (.slice a4 bs.length c4)) (by simp)); have HA7 := Lib.hid A7; have u0 : w7.cell? ⟨w.heap.size, 0, none⟩ = some (.int .i64 0) := cellsT_cell (A7.at 6 (by simp)) 0; have u1 : w7.cell? ⟨w.heap.size, 1, none⟩ = some (.slice none 0 0) := cellsT_cell (A7.at 6 (by simp)) 1; have u2 : w7.cell? ⟨w.heap.size, 2, none⟩ = some (.slice none 0 0) := cellsT_cell (A7.at 6 (by simp)) 2; have t0 : w7.cell? ⟨w.heap.size + 1, 0, none⟩ = some (.int .i64 0) := cellsT_cell (A7.at 5 (by simp)) 0; have t1 : w7.cell? ⟨w.heap.size + 1, 1, none⟩ = some (.slice none 0 0) := cellsT_cell (A7.at 5 (by simp)) 1; have t2 : w7.cell? ⟨w.heap.size + 1, 2, none⟩ = some (.slice none 0 0) := cellsT_cell (A7.at 5 (by simp)) 2; have uf := fun i => cellsT_frozen (A7.at 6 (by simp)) i; have tf := fun i => cellsT_frozen (A7.at 5 (by simp)) i; have uf0 := uf 0; have uf1 := uf 1; have uf2 := uf 2; have tf0 := tf 0; have tf1 := tf 1; have tf2 := tf 2; have hbw : w.heap.size + 1 < b4 := HBW0; have hn1 : ¬ (b4 = w.heap.size) := (by omega); have hn2 : ¬ (w.heap.size = b4) := (by omega); have hn3 : ¬ (b4 = w.heap.size + 1) := (by omega); have hn4 : ¬ (w.heap.size + 1 = b4) := (by omega); have HLB := Lib.hid (HL5.out L hL); clear hA7 hb7 hL A7 K7 uf tf))
      all_goals
        obtain ⟨i1, kw, ⟨r1, r2, r3⟩, r4, r5, r6⟩ := TD.out _ rfl
        have HD := Lib.hid (And.intro i1 kw)
        clear i1 kw u0 u1 u2 t0 t1 t2 uf0 uf1 uf2 tf0 tf1 tf2 z0 z1 z2
        go_wp2
        refine bodyPost_ret (v := .tuple #[.agg #[.int .i64 st, .slice a3 xs.length c3, .slice a4 bs.length c4], .agg #[.int .i64 L.st, .slice a5 L.next.length c5, .slice a6 L.ends.length c6]]) ?_ rfl ⟨⟨st, xs, bs⟩, L, a3, a4, a5, a6, c3, c4, c5, c6, rfl, ⟨h0, h1, h2, h3⟩, HLB.out, HD.out.1, HD.out.2⟩
        simp [results, Try.results71, go_sem, r1, r2, r3, r4, r5, r6]
    | false =>
      clear hcok
      go_upto_region 4 with fail
      obtain ⟨y0, y1, y2⟩ := cM_at A5.out.head
      have Ad := Lib.hid (A5.out.same (grown_drew wc none))
      have Rd := Lib.hid (R5.out.drewN 1)
      go_region_with (first | (go_at_call 64; refine (l20Machine_any B R a len cap kk 14 wc.drew (R5.out.keeps (Below.refl _ _).drew) (by omega) (by omega) (by omega)).mono ?_; rintro e w7 ⟨st', xs', bs', nv', ev', rfl, h0', h1', h2', h3', ⟨k3, hk3, hk4, hR7⟩, hK7, hA7⟩; obtain ⟨a5, c5, rfl⟩ := ownsRow_sliceD hA7.head; obtain ⟨a6, c6, rfl⟩ := ownsRow_sliceD hA7.tail.head; have A7 : Apart w.heap.size [rI (.slice a5 xs'.length c5) xs', rB (.slice a6 bs'.length c6) bs', cM b4 st (.slice a3 xs.length c3) (.slice a4 bs.length c4), rI (.slice a3 xs.length c3) xs, rB (.slice a4 bs.length c4) bs, zC (w.heap.size + 1), zC w.heap.size] w7 := apart_joinK Ad.out hK7 hRw hA7 K5.out.size; have K7 := (K5.out.drewN 1).trans hK7; have TD := Lib.hid (two_done (st' := st') K7 A7); obtain ⟨z0, z1, z2⟩ := cM_at (A7.of (cM b4 st (.slice a3 xs.length c3) (.slice a4 bs.length c4)) (by simp)); have HA7 := Lib.hid A7; have u0 : w7.cell? ⟨w.heap.size, 0, none⟩ = some (.int .i64 0) := cellsT_cell (A7.at 6 (by simp)) 0; have u1 : w7.cell? ⟨w.heap.size, 1, none⟩ = some (.slice none 0 0) := cellsT_cell (A7.at 6 (by simp)) 1; have u2 : w7.cell? ⟨w.heap.size, 2, none⟩ = some (.slice none 0 0) := cellsT_cell (A7.at 6 (by simp)) 2; have t0 : w7.cell? ⟨w.heap.size + 1, 0, none⟩ = some (.int .i64 0) := cellsT_cell (A7.at 5 (by simp)) 0; have t1 : w7.cell? ⟨w.heap.size + 1, 1, none⟩ = some (.slice none 0 0) := cellsT_cell (A7.at 5 (by simp)) 1; have t2 : w7.cell? ⟨w.heap.size + 1, 2, none⟩ = some (.slice none 0 0) := cellsT_cell (A7.at 5 (by simp)) 2; have uf := fun i => cellsT_frozen (A7.at 6 (by simp)) i; have tf := fun i => cellsT_frozen (A7.at 5 (by simp)) i; have uf0 := uf 0; have uf1 := uf 1; have uf2 := uf 2; have tf0 := tf 0; have tf1 := tf 1; have tf2 := tf 2; have hbw : w.heap.size + 1 < b4 := HBW0; have hn1 : ¬ (b4 = w.heap.size) := (by omega); have hn2 : ¬ (w.heap.size = b4) := (by omega); have hn3 : ¬ (b4 = w.heap.size + 1) := (by omega); have hn4 : ¬ (w.heap.size + 1 = b4) := (by omega);  clear hA7 hK7 hR7 A7 K7 uf tf))
      all_goals
        obtain ⟨i1, kw, ⟨r1, r2, r3⟩, r4, r5, r6⟩ := TD.out _ rfl
        have HD := Lib.hid (And.intro i1 kw)
        clear i1 kw u0 u1 u2 t0 t1 t2 uf0 uf1 uf2 tf0 tf1 tf2 z0 z1 z2
        go_wp2
        refine bodyPost_ret (v := .tuple #[.agg #[.int .i64 st, .slice a3 xs.length c3, .slice a4 bs.length c4], .agg #[.int .i64 st', .slice a5 xs'.length c5, .slice a6 bs'.length c6]]) ?_ rfl ⟨⟨st, xs, bs⟩, ⟨st', xs', bs'⟩, a3, a4, a5, a6, c3, c4, c5, c6, rfl, ⟨h0, h1, h2, h3⟩, ⟨h0', h1', h2', h3'⟩, HD.out.1, HD.out.2⟩
        simp [results, Try.results71, go_sem, r1, r2, r3, r4, r5, r6]

set_option maxHeartbeats 1600000 in
set_option maxRecDepth 100000 in
theorem drawBothMachines_any (a : Option Addr) (len cap : Nat) (zs : List Int) (w : World) (h : IsRow .u8 w a len cap zs) :
    Calls Try.prog 30 #[.slice a len cap] w (MachRes2 w) := by
  have A1 := (Apart.nil w.heap.size w).more (World.grownBy_alloc w _ none) (zC w.heap.size) (heap_alloc_new w _) (Nat.le_refl _) (fun j e => by cases e; simp)
  have A2 := A1.more (World.grownBy_alloc _ (.cells #[.int .i64 0, .slice none 0 0, .slice none 0 0] 27) none) (zC (w.heap.size + 1)) (by have := heap_alloc_new (w.alloc (.cells #[.int .i64 0, .slice none 0 0, .slice none 0 0] 27)) (.cells #[.int .i64 0, .slice none 0 0, .slice none 0 0] 27); rw [World.size_alloc] at this; exact this) (by simp) (fun j e => by cases e; simp)
  have B2 := ((Below.refl w.heap.size w).alloc (Nat.le_refl _) (.cells #[.int .i64 0, .slice none 0 0, .slice none 0 0] 27)).alloc (by simp) (.cells #[.int .i64 0, .slice none 0 0, .slice none 0 0] 27)
  have H0 := h.below B2
  have HO := Lib.hid (l20Open_any a len cap zs _ H0)
  have HA2 := Lib.hid A2
  have HB2 := Lib.hid B2
  have hs2 : ((w.alloc (.cells #[.int .i64 0, .slice none 0 0, .slice none 0 0] 27)).alloc (.cells #[.int .i64 0, .slice none 0 0, .slice none 0 0] 27)).heap.size = w.heap.size + 1 + 1 := by simp
  have HS2 := Lib.hid hs2
  clear H0 h A1 A2 B2 hs2
  go_enter Try.func30, Try.ntmps30
  go_wp2_with fail
  refine HO.out.mono ?_
  clear HO
  generalize (w.alloc (.cells #[.int .i64 0, .slice none 0 0, .slice none 0 0] 27)).alloc (.cells #[.int .i64 0, .slice none 0 0, .slice none 0 0] 27) = w2 at *
  rintro e w3 ⟨a1, len1, cap1, rfl, hR, hb3⟩
  have hRR := hR.hR
  have A3 := Lib.hid (HA2.out.below hb3)
  have B3 := Lib.hid (HB2.out.trans (hb3.mono HB2.out.size))
  clear hb3 HA2 HB2
  go_wp2_with fail
  refine (l20Machines_any _ _ a1 len1 cap1 0 w3 hR (by omega)).mono ?_
  rintro e w4 ⟨m, k, b1, b2, b3, b4, d1, d2, d3, d4, rfl, hm, hk, hA, hK⟩
  have A4 : Apart w.heap.size [rI (.slice b3 k.next.length d3) k.next, rB (.slice b4 k.ends.length d4) k.ends, rI (.slice b1 m.next.length d1) m.next, rB (.slice b2 m.ends.length d2) m.ends, zC (w.heap.size + 1), zC w.heap.size] w4 := by
    have h3 : Apart w.heap.size [zC (w.heap.size + 1), zC w.heap.size] w4 := ⟨fun t ht => ⟨t.st w3 w4 (fun b hb => hK.block b ((A3.out.all t ht).2 b hb).2 (by
      have := HS2.out
      simp only [List.mem_cons, List.not_mem_nil, or_false] at ht
      rcases ht with rfl | rfl <;> (have e := Option.some.inj hb; omega))) hK.size (A3.out.all t ht).1, fun b hb => ⟨((A3.out.all t ht).2 b hb).1, Nat.lt_of_lt_of_le ((A3.out.all t ht).2 b hb).2 hK.size⟩⟩, A3.out.two⟩
    refine ⟨fun t ht => ?_, List.pairwise_append.2 ⟨hA.two, h3.two, fun s hs t ht b e e' => ?_⟩⟩
    · rcases List.mem_append.1 (show t ∈ [rI (.slice b3 k.next.length d3) k.next, rB (.slice b4 k.ends.length d4) k.ends, rI (.slice b1 m.next.length d1) m.next, rB (.slice b2 m.ends.length d2) m.ends] ++ [zC (w.heap.size + 1), zC w.heap.size] from ht) with ht | ht
      · exact ⟨(hA.all t ht).1, fun b e => ⟨Nat.le_trans B3.out.size ((hA.all t ht).2 b e).1, ((hA.all t ht).2 b e).2⟩⟩
      · exact h3.all t ht
    · have := ((A3.out.all t ht).2 b e').2
      have := ((hA.all s hs).2 b e).1
      omega
  have hBW : Below w.heap.size w w4 := B3.out.trans (hK.below (by have := HS2.out; omega) B3.out.size)
  have a5 := A4.at 4 (by simp)
  have a6 := A4.at 5 (by simp)
  have TD : ∀ W, W = (((((w4.setCell ⟨w.heap.size, 0, none⟩ (.int .i64 m.st)).setCell ⟨w.heap.size, 1, none⟩ (.slice b1 m.next.length d1)).setCell ⟨w.heap.size, 2, none⟩ (.slice b2 m.ends.length d2)).setCell ⟨w.heap.size + 1, 0, none⟩ (.int .i64 k.st)).setCell ⟨w.heap.size + 1, 1, none⟩ (.slice b3 k.next.length d3)).setCell ⟨w.heap.size + 1, 2, none⟩ (.slice b4 k.ends.length d4) →
      (Drawn2 m (.slice b1 m.next.length d1) (.slice b2 m.ends.length d2) W ∧ Drawn2 k (.slice b3 k.next.length d3) (.slice b4 k.ends.length d4) W ∧ Below w.heap.size w W) ∧ (W.cell? ⟨w.heap.size, 0, none⟩ = some (.int .i64 m.st) ∧ W.cell? ⟨w.heap.size, 1, none⟩ = some (.slice b1 m.next.length d1) ∧ W.cell? ⟨w.heap.size, 2, none⟩ = some (.slice b2 m.ends.length d2)) ∧ W.cell? ⟨w.heap.size + 1, 0, none⟩ = some (.int .i64 k.st) ∧ W.cell? ⟨w.heap.size + 1, 1, none⟩ = some (.slice b3 k.next.length d3) ∧ W.cell? ⟨w.heap.size + 1, 2, none⟩ = some (.slice b4 k.ends.length d4) := by
    rintro W rfl
    have hs := hBW.size
    have g1 := A4.setAt 5 (by simp) rfl hs 0 (.int .i64 m.st)
    have g2 := g1.setAt 5 (by simp) rfl (by simpa using hs) 1 (.slice b1 m.next.length d1)
    have g3 := g2.setAt 5 (by simp) rfl (by simpa using hs) 2 (.slice b2 m.ends.length d2)
    have g4 := g3.setAt 4 (by simp) rfl (by simpa using hs) 0 (.int .i64 k.st)
    have g5 := g4.setAt 4 (by simp) rfl (by simpa using hs) 1 (.slice b3 k.next.length d3)
    have g6 := g5.setAt 4 (by simp) rfl (by simpa using hs) 2 (.slice b4 k.ends.length d4)
    have e5 := g6.at 5 (by simp)
    have e4 := g6.at 4 (by simp)
    refine ⟨⟨⟨hm.1, hm.2.1, hm.2.2.1, hm.2.2.2, IsInts.of_owns (g6.at 2 (by simp)), IsBools.of_owns (g6.at 3 (by simp))⟩, ⟨hk.1, hk.2.1, hk.2.2.1, hk.2.2.2, IsInts.of_owns (g6.at 0 (by simp)), IsBools.of_owns (g6.at 1 (by simp))⟩, ?_⟩, ⟨cellsT_cell e5 0, cellsT_cell e5 1, cellsT_cell e5 2⟩, cellsT_cell e4 0, cellsT_cell e4 1, cellsT_cell e4 2⟩
    exact (((((hBW.setCell (p := ⟨w.heap.size, 0, none⟩) (Nat.le_refl _) _).setCell (p := ⟨w.heap.size, 1, none⟩) (Nat.le_refl _) _).setCell (p := ⟨w.heap.size, 2, none⟩) (Nat.le_refl _) _).setCell (p := ⟨w.heap.size + 1, 0, none⟩) (Nat.le_succ _) _).setCell (p := ⟨w.heap.size + 1, 1, none⟩) (Nat.le_succ _) _).setCell (p := ⟨w.heap.size + 1, 2, none⟩) (Nat.le_succ _) _
  have HTD := Lib.hid TD
  have u0 : w4.cell? ⟨w.heap.size, 0, none⟩ = some (.int .i64 0) := cellsT_cell a6 0
  have u1 : w4.cell? ⟨w.heap.size, 1, none⟩ = some (.slice none 0 0) := cellsT_cell a6 1
  have u2 : w4.cell? ⟨w.heap.size, 2, none⟩ = some (.slice none 0 0) := cellsT_cell a6 2
  have t0 : w4.cell? ⟨w.heap.size + 1, 0, none⟩ = some (.int .i64 0) := cellsT_cell a5 0
  have t1 : w4.cell? ⟨w.heap.size + 1, 1, none⟩ = some (.slice none 0 0) := cellsT_cell a5 1
  have t2 : w4.cell? ⟨w.heap.size + 1, 2, none⟩ = some (.slice none 0 0) := cellsT_cell a5 2
  have uf0 := cellsT_frozen a6 0
  have uf1 := cellsT_frozen a6 1
  have uf2 := cellsT_frozen a6 2
  have tf0 := cellsT_frozen a5 0
  have tf1 := cellsT_frozen a5 1
  have tf2 := cellsT_frozen a5 2
  clear TD A4 a5 a6 hBW hA hK hR hRR
  go_wp2
  obtain ⟨hD, ⟨r1, r2, r3⟩, r4, r5, r6⟩ := HTD.out _ rfl
  have HD := Lib.hid hD
  clear hD u0 u1 u2 t0 t1 t2 uf0 uf1 uf2 tf0 tf1 tf2
  refine bodyPost_ret (v := .tuple #[.agg #[.int .i64 m.st, .slice b1 m.next.length d1, .slice b2 m.ends.length d2], .agg #[.int .i64 k.st, .slice b3 k.next.length d3, .slice b4 k.ends.length d4]]) ?_ rfl ⟨m, k, b1, b2, b3, b4, d1, d2, d3, d4, rfl, HD.out.1, HD.out.2.1, HD.out.2.2⟩
  simp [results, Try.results30, go_sem, r1, r2, r3, r4, r5, r6]

set_option maxHeartbeats 1600000 in
set_option maxRecDepth 100000 in
theorem drawEitherMachine_any (a : Option Addr) (len cap : Nat) (zs : List Int) (w : World) (h : IsRow .u8 w a len cap zs) :
    Calls Try.prog 31 #[.slice a len cap] w (MachRes2 w) := by
  have A1 := (Apart.nil w.heap.size w).more (World.grownBy_alloc w _ none) (zC w.heap.size) (heap_alloc_new w _) (Nat.le_refl _) (fun j e => by cases e; simp)
  have A2 := A1.more (World.grownBy_alloc _ (.cells #[.int .i64 0, .slice none 0 0, .slice none 0 0] 27) none) (zC (w.heap.size + 1)) (by have := heap_alloc_new (w.alloc (.cells #[.int .i64 0, .slice none 0 0, .slice none 0 0] 27)) (.cells #[.int .i64 0, .slice none 0 0, .slice none 0 0] 27); rw [World.size_alloc] at this; exact this) (by simp) (fun j e => by cases e; simp)
  have B2 := ((Below.refl w.heap.size w).alloc (Nat.le_refl _) (.cells #[.int .i64 0, .slice none 0 0, .slice none 0 0] 27)).alloc (by simp) (.cells #[.int .i64 0, .slice none 0 0, .slice none 0 0] 27)
  have H0 := h.below B2
  have HO := Lib.hid (l20Open_any a len cap zs _ H0)
  have HA2 := Lib.hid A2
  have HB2 := Lib.hid B2
  have hs2 : ((w.alloc (.cells #[.int .i64 0, .slice none 0 0, .slice none 0 0] 27)).alloc (.cells #[.int .i64 0, .slice none 0 0, .slice none 0 0] 27)).heap.size = w.heap.size + 1 + 1 := by simp
  have HS2 := Lib.hid hs2
  clear H0 h A1 A2 B2 hs2
  go_enter Try.func31, Try.ntmps31
  go_wp2_with fail
  refine HO.out.mono ?_
  clear HO
  generalize (w.alloc (.cells #[.int .i64 0, .slice none 0 0, .slice none 0 0] 27)).alloc (.cells #[.int .i64 0, .slice none 0 0, .slice none 0 0] 27) = w2 at *
  rintro e w3 ⟨a1, len1, cap1, rfl, hR, hb3⟩
  have hRR := hR.hR
  have A3 := Lib.hid (HA2.out.below hb3)
  have B3 := Lib.hid (HB2.out.trans (hb3.mono HB2.out.size))
  clear hb3 HA2 HB2
  go_wp2_with fail
  refine (l20Machines_any _ _ a1 len1 cap1 0 w3 hR (by omega)).mono ?_
  rintro e w4 ⟨m, k, b1, b2, b3, b4, d1, d2, d3, d4, rfl, hm, hk, hA, hK⟩
  have A4 : Apart w.heap.size [rI (.slice b3 k.next.length d3) k.next, rB (.slice b4 k.ends.length d4) k.ends, rI (.slice b1 m.next.length d1) m.next, rB (.slice b2 m.ends.length d2) m.ends, zC (w.heap.size + 1), zC w.heap.size] w4 := by
    have h3 : Apart w.heap.size [zC (w.heap.size + 1), zC w.heap.size] w4 := ⟨fun t ht => ⟨t.st w3 w4 (fun b hb => hK.block b ((A3.out.all t ht).2 b hb).2 (by
      have := HS2.out
      simp only [List.mem_cons, List.not_mem_nil, or_false] at ht
      rcases ht with rfl | rfl <;> (have e := Option.some.inj hb; omega))) hK.size (A3.out.all t ht).1, fun b hb => ⟨((A3.out.all t ht).2 b hb).1, Nat.lt_of_lt_of_le ((A3.out.all t ht).2 b hb).2 hK.size⟩⟩, A3.out.two⟩
    refine ⟨fun t ht => ?_, List.pairwise_append.2 ⟨hA.two, h3.two, fun s hs t ht b e e' => ?_⟩⟩
    · rcases List.mem_append.1 (show t ∈ [rI (.slice b3 k.next.length d3) k.next, rB (.slice b4 k.ends.length d4) k.ends, rI (.slice b1 m.next.length d1) m.next, rB (.slice b2 m.ends.length d2) m.ends] ++ [zC (w.heap.size + 1), zC w.heap.size] from ht) with ht | ht
      · exact ⟨(hA.all t ht).1, fun b e => ⟨Nat.le_trans B3.out.size ((hA.all t ht).2 b e).1, ((hA.all t ht).2 b e).2⟩⟩
      · exact h3.all t ht
    · have := ((A3.out.all t ht).2 b e').2
      have := ((hA.all s hs).2 b e).1
      omega
  have hBW : Below w.heap.size w w4 := B3.out.trans (hK.below (by have := HS2.out; omega) B3.out.size)
  have a5 := A4.at 4 (by simp)
  have a6 := A4.at 5 (by simp)
  have TD : ∀ W, W = (((((w4.setCell ⟨w.heap.size, 0, none⟩ (.int .i64 m.st)).setCell ⟨w.heap.size, 1, none⟩ (.slice b1 m.next.length d1)).setCell ⟨w.heap.size, 2, none⟩ (.slice b2 m.ends.length d2)).setCell ⟨w.heap.size + 1, 0, none⟩ (.int .i64 k.st)).setCell ⟨w.heap.size + 1, 1, none⟩ (.slice b3 k.next.length d3)).setCell ⟨w.heap.size + 1, 2, none⟩ (.slice b4 k.ends.length d4) →
      (Drawn2 m (.slice b1 m.next.length d1) (.slice b2 m.ends.length d2) W ∧ Drawn2 k (.slice b3 k.next.length d3) (.slice b4 k.ends.length d4) W ∧ Below w.heap.size w W) ∧ (W.cell? ⟨w.heap.size, 0, none⟩ = some (.int .i64 m.st) ∧ W.cell? ⟨w.heap.size, 1, none⟩ = some (.slice b1 m.next.length d1) ∧ W.cell? ⟨w.heap.size, 2, none⟩ = some (.slice b2 m.ends.length d2)) ∧ W.cell? ⟨w.heap.size + 1, 0, none⟩ = some (.int .i64 k.st) ∧ W.cell? ⟨w.heap.size + 1, 1, none⟩ = some (.slice b3 k.next.length d3) ∧ W.cell? ⟨w.heap.size + 1, 2, none⟩ = some (.slice b4 k.ends.length d4) := by
    rintro W rfl
    have hs := hBW.size
    have g1 := A4.setAt 5 (by simp) rfl hs 0 (.int .i64 m.st)
    have g2 := g1.setAt 5 (by simp) rfl (by simpa using hs) 1 (.slice b1 m.next.length d1)
    have g3 := g2.setAt 5 (by simp) rfl (by simpa using hs) 2 (.slice b2 m.ends.length d2)
    have g4 := g3.setAt 4 (by simp) rfl (by simpa using hs) 0 (.int .i64 k.st)
    have g5 := g4.setAt 4 (by simp) rfl (by simpa using hs) 1 (.slice b3 k.next.length d3)
    have g6 := g5.setAt 4 (by simp) rfl (by simpa using hs) 2 (.slice b4 k.ends.length d4)
    have e5 := g6.at 5 (by simp)
    have e4 := g6.at 4 (by simp)
    refine ⟨⟨⟨hm.1, hm.2.1, hm.2.2.1, hm.2.2.2, IsInts.of_owns (g6.at 2 (by simp)), IsBools.of_owns (g6.at 3 (by simp))⟩, ⟨hk.1, hk.2.1, hk.2.2.1, hk.2.2.2, IsInts.of_owns (g6.at 0 (by simp)), IsBools.of_owns (g6.at 1 (by simp))⟩, ?_⟩, ⟨cellsT_cell e5 0, cellsT_cell e5 1, cellsT_cell e5 2⟩, cellsT_cell e4 0, cellsT_cell e4 1, cellsT_cell e4 2⟩
    exact (((((hBW.setCell (p := ⟨w.heap.size, 0, none⟩) (Nat.le_refl _) _).setCell (p := ⟨w.heap.size, 1, none⟩) (Nat.le_refl _) _).setCell (p := ⟨w.heap.size, 2, none⟩) (Nat.le_refl _) _).setCell (p := ⟨w.heap.size + 1, 0, none⟩) (Nat.le_succ _) _).setCell (p := ⟨w.heap.size + 1, 1, none⟩) (Nat.le_succ _) _).setCell (p := ⟨w.heap.size + 1, 2, none⟩) (Nat.le_succ _) _
  have HTD := Lib.hid TD
  have u0 : w4.cell? ⟨w.heap.size, 0, none⟩ = some (.int .i64 0) := cellsT_cell a6 0
  have u1 : w4.cell? ⟨w.heap.size, 1, none⟩ = some (.slice none 0 0) := cellsT_cell a6 1
  have u2 : w4.cell? ⟨w.heap.size, 2, none⟩ = some (.slice none 0 0) := cellsT_cell a6 2
  have t0 : w4.cell? ⟨w.heap.size + 1, 0, none⟩ = some (.int .i64 0) := cellsT_cell a5 0
  have t1 : w4.cell? ⟨w.heap.size + 1, 1, none⟩ = some (.slice none 0 0) := cellsT_cell a5 1
  have t2 : w4.cell? ⟨w.heap.size + 1, 2, none⟩ = some (.slice none 0 0) := cellsT_cell a5 2
  have uf0 := cellsT_frozen a6 0
  have uf1 := cellsT_frozen a6 1
  have uf2 := cellsT_frozen a6 2
  have tf0 := cellsT_frozen a5 0
  have tf1 := cellsT_frozen a5 1
  have tf2 := cellsT_frozen a5 2
  clear TD A4 a5 a6 hBW hA hK hR hRR
  go_wp2
  obtain ⟨hD, ⟨r1, r2, r3⟩, r4, r5, r6⟩ := HTD.out _ rfl
  have HD := Lib.hid hD
  clear hD u0 u1 u2 t0 t1 t2 uf0 uf1 uf2 tf0 tf1 tf2
  refine bodyPost_ret (v := .tuple #[.agg #[.int .i64 m.st, .slice b1 m.next.length d1, .slice b2 m.ends.length d2], .agg #[.int .i64 k.st, .slice b3 k.next.length d3, .slice b4 k.ends.length d4]]) ?_ rfl ⟨m, k, b1, b2, b3, b4, d1, d2, d3, d4, rfl, HD.out.1, HD.out.2.1, HD.out.2.2⟩
  simp [results, Try.results31, go_sem, r1, r2, r3, r4, r5, r6]

set_option maxHeartbeats 1600000 in
set_option maxRecDepth 100000 in
theorem drawSameOk_any (a : Option Addr) (len cap : Nat) (zs : List Int) (w : World) (h : IsRow .u8 w a len cap zs) :
    Calls Try.prog 32 #[.slice a len cap] w (MachRes2 w) := by
  have A1 := (Apart.nil w.heap.size w).more (World.grownBy_alloc w _ none) (zC w.heap.size) (heap_alloc_new w _) (Nat.le_refl _) (fun j e => by cases e; simp)
  have A2 := A1.more (World.grownBy_alloc _ (.cells #[.int .i64 0, .slice none 0 0, .slice none 0 0] 27) none) (zC (w.heap.size + 1)) (by have := heap_alloc_new (w.alloc (.cells #[.int .i64 0, .slice none 0 0, .slice none 0 0] 27)) (.cells #[.int .i64 0, .slice none 0 0, .slice none 0 0] 27); rw [World.size_alloc] at this; exact this) (by simp) (fun j e => by cases e; simp)
  have B2 := ((Below.refl w.heap.size w).alloc (Nat.le_refl _) (.cells #[.int .i64 0, .slice none 0 0, .slice none 0 0] 27)).alloc (by simp) (.cells #[.int .i64 0, .slice none 0 0, .slice none 0 0] 27)
  have H0 := h.below B2
  have HO := Lib.hid (l20Open_any a len cap zs _ H0)
  have HA2 := Lib.hid A2
  have HB2 := Lib.hid B2
  have hs2 : ((w.alloc (.cells #[.int .i64 0, .slice none 0 0, .slice none 0 0] 27)).alloc (.cells #[.int .i64 0, .slice none 0 0, .slice none 0 0] 27)).heap.size = w.heap.size + 1 + 1 := by simp
  have HS2 := Lib.hid hs2
  clear H0 h A1 A2 B2 hs2
  go_enter Try.func32, Try.ntmps32
  go_wp2_with fail
  refine HO.out.mono ?_
  clear HO
  generalize (w.alloc (.cells #[.int .i64 0, .slice none 0 0, .slice none 0 0] 27)).alloc (.cells #[.int .i64 0, .slice none 0 0, .slice none 0 0] 27) = w2 at *
  rintro e w3 ⟨a1, len1, cap1, rfl, hR, hb3⟩
  have hRR := hR.hR
  have A3 := Lib.hid (HA2.out.below hb3)
  have B3 := Lib.hid (HB2.out.trans (hb3.mono HB2.out.size))
  clear hb3 HA2 HB2
  go_wp2_with fail
  refine (l20Machines_any _ _ a1 len1 cap1 0 w3 hR (by omega)).mono ?_
  rintro e w4 ⟨m, k, b1, b2, b3, b4, d1, d2, d3, d4, rfl, hm, hk, hA, hK⟩
  have A4 : Apart w.heap.size [rI (.slice b3 k.next.length d3) k.next, rB (.slice b4 k.ends.length d4) k.ends, rI (.slice b1 m.next.length d1) m.next, rB (.slice b2 m.ends.length d2) m.ends, zC (w.heap.size + 1), zC w.heap.size] w4 := by
    have h3 : Apart w.heap.size [zC (w.heap.size + 1), zC w.heap.size] w4 := ⟨fun t ht => ⟨t.st w3 w4 (fun b hb => hK.block b ((A3.out.all t ht).2 b hb).2 (by
      have := HS2.out
      simp only [List.mem_cons, List.not_mem_nil, or_false] at ht
      rcases ht with rfl | rfl <;> (have e := Option.some.inj hb; omega))) hK.size (A3.out.all t ht).1, fun b hb => ⟨((A3.out.all t ht).2 b hb).1, Nat.lt_of_lt_of_le ((A3.out.all t ht).2 b hb).2 hK.size⟩⟩, A3.out.two⟩
    refine ⟨fun t ht => ?_, List.pairwise_append.2 ⟨hA.two, h3.two, fun s hs t ht b e e' => ?_⟩⟩
    · rcases List.mem_append.1 (show t ∈ [rI (.slice b3 k.next.length d3) k.next, rB (.slice b4 k.ends.length d4) k.ends, rI (.slice b1 m.next.length d1) m.next, rB (.slice b2 m.ends.length d2) m.ends] ++ [zC (w.heap.size + 1), zC w.heap.size] from ht) with ht | ht
      · exact ⟨(hA.all t ht).1, fun b e => ⟨Nat.le_trans B3.out.size ((hA.all t ht).2 b e).1, ((hA.all t ht).2 b e).2⟩⟩
      · exact h3.all t ht
    · have := ((A3.out.all t ht).2 b e').2
      have := ((hA.all s hs).2 b e).1
      omega
  have hBW : Below w.heap.size w w4 := B3.out.trans (hK.below (by have := HS2.out; omega) B3.out.size)
  have a5 := A4.at 4 (by simp)
  have a6 := A4.at 5 (by simp)
  have TD : ∀ W, W = (((((w4.setCell ⟨w.heap.size, 0, none⟩ (.int .i64 m.st)).setCell ⟨w.heap.size, 1, none⟩ (.slice b1 m.next.length d1)).setCell ⟨w.heap.size, 2, none⟩ (.slice b2 m.ends.length d2)).setCell ⟨w.heap.size + 1, 0, none⟩ (.int .i64 k.st)).setCell ⟨w.heap.size + 1, 1, none⟩ (.slice b3 k.next.length d3)).setCell ⟨w.heap.size + 1, 2, none⟩ (.slice b4 k.ends.length d4) →
      (Drawn2 m (.slice b1 m.next.length d1) (.slice b2 m.ends.length d2) W ∧ Drawn2 k (.slice b3 k.next.length d3) (.slice b4 k.ends.length d4) W ∧ Below w.heap.size w W) ∧ (W.cell? ⟨w.heap.size, 0, none⟩ = some (.int .i64 m.st) ∧ W.cell? ⟨w.heap.size, 1, none⟩ = some (.slice b1 m.next.length d1) ∧ W.cell? ⟨w.heap.size, 2, none⟩ = some (.slice b2 m.ends.length d2)) ∧ W.cell? ⟨w.heap.size + 1, 0, none⟩ = some (.int .i64 k.st) ∧ W.cell? ⟨w.heap.size + 1, 1, none⟩ = some (.slice b3 k.next.length d3) ∧ W.cell? ⟨w.heap.size + 1, 2, none⟩ = some (.slice b4 k.ends.length d4) := by
    rintro W rfl
    have hs := hBW.size
    have g1 := A4.setAt 5 (by simp) rfl hs 0 (.int .i64 m.st)
    have g2 := g1.setAt 5 (by simp) rfl (by simpa using hs) 1 (.slice b1 m.next.length d1)
    have g3 := g2.setAt 5 (by simp) rfl (by simpa using hs) 2 (.slice b2 m.ends.length d2)
    have g4 := g3.setAt 4 (by simp) rfl (by simpa using hs) 0 (.int .i64 k.st)
    have g5 := g4.setAt 4 (by simp) rfl (by simpa using hs) 1 (.slice b3 k.next.length d3)
    have g6 := g5.setAt 4 (by simp) rfl (by simpa using hs) 2 (.slice b4 k.ends.length d4)
    have e5 := g6.at 5 (by simp)
    have e4 := g6.at 4 (by simp)
    refine ⟨⟨⟨hm.1, hm.2.1, hm.2.2.1, hm.2.2.2, IsInts.of_owns (g6.at 2 (by simp)), IsBools.of_owns (g6.at 3 (by simp))⟩, ⟨hk.1, hk.2.1, hk.2.2.1, hk.2.2.2, IsInts.of_owns (g6.at 0 (by simp)), IsBools.of_owns (g6.at 1 (by simp))⟩, ?_⟩, ⟨cellsT_cell e5 0, cellsT_cell e5 1, cellsT_cell e5 2⟩, cellsT_cell e4 0, cellsT_cell e4 1, cellsT_cell e4 2⟩
    exact (((((hBW.setCell (p := ⟨w.heap.size, 0, none⟩) (Nat.le_refl _) _).setCell (p := ⟨w.heap.size, 1, none⟩) (Nat.le_refl _) _).setCell (p := ⟨w.heap.size, 2, none⟩) (Nat.le_refl _) _).setCell (p := ⟨w.heap.size + 1, 0, none⟩) (Nat.le_succ _) _).setCell (p := ⟨w.heap.size + 1, 1, none⟩) (Nat.le_succ _) _).setCell (p := ⟨w.heap.size + 1, 2, none⟩) (Nat.le_succ _) _
  have HTD := Lib.hid TD
  have u0 : w4.cell? ⟨w.heap.size, 0, none⟩ = some (.int .i64 0) := cellsT_cell a6 0
  have u1 : w4.cell? ⟨w.heap.size, 1, none⟩ = some (.slice none 0 0) := cellsT_cell a6 1
  have u2 : w4.cell? ⟨w.heap.size, 2, none⟩ = some (.slice none 0 0) := cellsT_cell a6 2
  have t0 : w4.cell? ⟨w.heap.size + 1, 0, none⟩ = some (.int .i64 0) := cellsT_cell a5 0
  have t1 : w4.cell? ⟨w.heap.size + 1, 1, none⟩ = some (.slice none 0 0) := cellsT_cell a5 1
  have t2 : w4.cell? ⟨w.heap.size + 1, 2, none⟩ = some (.slice none 0 0) := cellsT_cell a5 2
  have uf0 := cellsT_frozen a6 0
  have uf1 := cellsT_frozen a6 1
  have uf2 := cellsT_frozen a6 2
  have tf0 := cellsT_frozen a5 0
  have tf1 := cellsT_frozen a5 1
  have tf2 := cellsT_frozen a5 2
  clear TD A4 a5 a6 hBW hA hK hR hRR
  go_wp2
  obtain ⟨hD, ⟨r1, r2, r3⟩, r4, r5, r6⟩ := HTD.out _ rfl
  have HD := Lib.hid hD
  clear hD u0 u1 u2 t0 t1 t2 uf0 uf1 uf2 tf0 tf1 tf2
  refine bodyPost_ret (v := .tuple #[.agg #[.int .i64 m.st, .slice b1 m.next.length d1, .slice b2 m.ends.length d2], .agg #[.int .i64 k.st, .slice b3 k.next.length d3, .slice b4 k.ends.length d4]]) ?_ rfl ⟨m, k, b1, b2, b3, b4, d1, d2, d3, d4, rfl, HD.out.1, HD.out.2.1, HD.out.2.2⟩
  simp [results, Try.results32, go_sem, r1, r2, r3, r4, r5, r6]

theorem IsLm.mok2 {f : List (Fin 3) → Bool} {k : M} (h : IsLm f k) (h48 : k.st ≤ 48) : k.ok = true := M.good_ok (h.good (by omega)) h48
theorem IsJoin.wfT2 {ok b : Bool} {f : List (Fin 3) → Bool} {k : M} (h : IsJoin ok f k b) : (Lit.int .i64 k.st).wf = true := by
  rcases h with ⟨-, -, h1, h2⟩ | ⟨-, rfl, -⟩
  · exact WalkArith.wf_i64 (by have h3 := M.ok_shape (h1.mok2 h2); show _ ∧ _; omega)
  · rfl
theorem LeastNew.readsB {m : M} {w w' : World} {e : Ending} (h : LeastNew m w e w') : ∃ k nv ev, IsLmZ m k ∧ e = .returned (.agg #[.int .i64 k.st, nv, ev]) ∧ IsInts w' nv k.next ∧ IsBools w' ev k.ends ∧ Below w.heap.size w w' := by
  obtain ⟨k, hk, h⟩ := h
  obtain ⟨nv, ev, h1, h2, h3, h4⟩ := h.reads
  exact ⟨k, nv, ev, hk, h1, h2, h3, h4⟩
theorem leastZ_exB {m : M} (hm : m.ok = true) : ∃ l, IsLmZ m l := by
  obtain ⟨K, h1, h2⟩ := least_exD (M.ok_good hm)
  exact ⟨K, fun _ => ⟨h1, by have := (M.ok_shape hm).2.1; omega⟩, fun h => by rw [hm] at h; cases h⟩
theorem IsJoin.either_takes {m k x : M} (hx : IsJoin (m.ok && k.ok) (fun u => m.lang 0 u || k.lang 0 u) x true) (s : ByteArray) : x.takes s = (m.takes s || k.takes s) := by
  rcases hx with ⟨-, hmk, h1, h2⟩ | ⟨h, -, -⟩
  · rw [Bool.and_eq_true] at hmk
    cases hs : wordOk s with
    | false => rw [M.takes_not (.inr hs), M.takes_not (.inr hs), M.takes_not (.inr hs)]; rfl
    | true => rw [M.takes_lang (h1.mok2 h2) hs, M.takes_lang hmk.1 hs, M.takes_lang hmk.2 hs, h1.lang]
  · cases h
/-- a language that a small machine takes has its least machine -/
theorem IsJoin.small {ok r : Bool} {f : List (Fin 3) → Bool} {k X : M} (h : IsJoin ok f k r) (hok : ok = true) (hX : X.good) (h48 : X.st ≤ 48) (hl : X.lang 0 = f) : r = true ∧ IsLm f k ∧ k.st ≤ 48 := by
  obtain ⟨K, g1, g2⟩ := least_exD hX
  rw [hl] at g1
  rcases h with ⟨rfl, -, h1, h2⟩ | ⟨rfl, rfl, h1⟩
  · exact ⟨rfl, h1, h2⟩
  · have := h1 hok K g1; omega
theorem not_small {m : M} (hm : m.good) (h5 : m.st ≤ 5) : ∃ X : M, X.good ∧ X.st ≤ 48 ∧ X.lang 0 = fun u => !m.lang 0 u := by
  obtain ⟨N, hN6, hN⟩ : ∃ N, N ≤ 6 ∧ (bfsTo (nOn m) 0 N).1.length = N := by
    refine bfsTo_end (C := 6) (fun n => ?_)
    have h1 : ((bfsTo (nOn m) 0 n).1.map (fun x => x + 1)).Nodup := List.pairwise_map.2 ((bfsTo_nodup (nOn m) 0 n).imp (fun h => by omega))
    have := nodup_bound 6 _ h1 (fun x hx => by
      obtain ⟨y, hy, rfl⟩ := List.mem_map.1 hx
      have := bfsTo_all (inN_zero hm) (fun x hx l b hl h => nOn_in hm x hx l b hl h) n y hy
      unfold inN at this
      omega)
    rwa [List.length_map] at this
  exact ⟨_, bM_good hN (by omega), by show (N : Int) ≤ 48; omega, not_lang hm hN⟩
theorem pair_small {A B : M} (hA : A.good) (hB : B.good) (h5 : A.st ≤ 5) (h6 : B.st ≤ 5) (g : Bool → Bool → Bool) : ∃ X : M, X.good ∧ X.st ≤ 48 ∧ X.lang 0 = fun u => g (A.lang 0 u) (B.lang 0 u) := by
  obtain ⟨N, hN6, hN⟩ : ∃ N, N ≤ 36 ∧ (bfsTo (pOn A B) (pc 0 0) N).1.length = N := by
    refine bfsTo_end (C := 36) (fun n => ?_)
    have hin := bfsTo_all (inP_zero hA.st0 (show B.st ≤ 48 by omega) hB.st0) (fun x hx l b hl h => pOn_in hA hB (by omega) x hx l b hl h) n
    have h1 : ((bfsTo (pOn A B) (pc 0 0) n).1.map (fun x => (p1 x + 1) * 6 + (p2 x + 1))).Nodup := List.pairwise_map.2 (List.Pairwise.imp_of_mem (fun {x y} hx hy hne e => by
      have i1 := hin x hx
      have i2 := hin y hy
      unfold inP at i1 i2
      have e1 : p1 x = p1 y := by omega
      have e2 : p2 x = p2 y := by omega
      exact hne (by rw [← pc_p x, ← pc_p y, e1, e2])) (bfsTo_nodup (pOn A B) (pc 0 0) n))
    have := nodup_bound 36 _ h1 (fun x hx => by
      obtain ⟨y, hy, rfl⟩ := List.mem_map.1 hx
      have := hin y hy
      unfold inP at this
      omega)
    rwa [List.length_map] at this
  exact ⟨_, bM_good hN (by omega), by show (N : Int) ≤ 48; omega, pOn_lang hA hB (by omega) g hN⟩
/-- what neither takes is what is not taken -/
theorem IsJoin.morgan {m k x a b c d : M} {r1 r2 r3 r4 : Bool} (hm5 : m.st ≤ 5) (hk5 : k.st ≤ 5) (hx : IsJoin (m.ok && k.ok) (fun u => m.lang 0 u || k.lang 0 u) x true) (ha : IsJoin m.ok (fun u => !m.lang 0 u) a r1) (hb : IsJoin k.ok (fun u => !k.lang 0 u) b r2)
    (hc : IsJoin (a.ok && b.ok) (fun u => a.lang 0 u && b.lang 0 u) c r3) (hd : IsJoin c.ok (fun u => !c.lang 0 u) d r4) : r1 = true ∧ r2 = true ∧ r3 = true ∧ r4 = true ∧ x = d := by
  rcases hx with ⟨-, hmk, x1, x2⟩ | ⟨h, -, -⟩
  · rw [Bool.and_eq_true] at hmk
    have gm := M.ok_good hmk.1
    have gk' := M.ok_good hmk.2
    obtain ⟨X1, g1, g2, g3⟩ := not_small gm hm5
    obtain ⟨X2, g4, g5, g6⟩ := not_small gk' hk5
    obtain ⟨X3, g7, g8, g9⟩ := pair_small gm gk' hm5 hk5 (fun a b => !a && !b)
    obtain ⟨e1, a1, a2⟩ := ha.small hmk.1 g1 g2 g3
    obtain ⟨e2, b1, b2⟩ := hb.small hmk.2 g4 g5 g6
    have hf : (fun u => a.lang 0 u && b.lang 0 u) = fun u => !m.lang 0 u && !k.lang 0 u := funext fun u => by rw [a1.lang, b1.lang]
    rw [hf] at hc
    obtain ⟨e3, c1, c2⟩ := hc.small (by rw [a1.mok2 a2, b1.mok2 b2]; rfl) g7 g8 g9
    have hf2 : (fun u => !c.lang 0 u) = fun u => m.lang 0 u || k.lang 0 u := funext fun u => by rw [c1.lang]; simp
    rw [hf2] at hd
    obtain ⟨e4, d1, d2⟩ := hd.small (c1.mok2 c2) (x1.good (by omega)) x2 x1.lang
    exact ⟨e1, e2, e3, e4, x1.one d1⟩
  · cases h

set_option maxHeartbeats 20000000 in
set_option maxRecDepth 100000 in
theorem lawEitherMachine_walk {w : World} (a : Option Addr) (len cap : Nat) (zs : List Int) (h : IsRow .u8 w a len cap zs) (b : Option Addr) (len2 cap2 : Nat) (zs2 : List Int) (h2 : IsRow .u8 w b len2 cap2 zs2) :
    Calls Try.prog 8 #[.slice a len cap, .slice b len2 cap2] w fun e w' => e = .returned (.bool true) ∧ Below w.heap.size w w' := by
  have HD := Lib.hid (drawEitherMachine_any a len cap zs w h)
  have H2 := Lib.hid h2
  have hl := h.len_le
  have hl2 := h2.len_le
  unfold maxLen at hl hl2
  clear h h2
  by_cases hbig : 1048576 < len
  · go_enter Try.func8, Try.ntmps8
    go_wp2_with fail
    go_ret
    exact ⟨rfl, Below.refl _ _⟩
  by_cases hbig2 : 1048576 < len2
  · go_enter Try.func8, Try.ntmps8
    go_wp2_with fail
    go_ret
    exact ⟨rfl, Below.refl _ _⟩
  go_enter Try.func8, Try.ntmps8
  go_wp2_with fail
  refine HD.out.mono ?_
  clear HD
  rintro e w1 ⟨m, k, a1, a2, a3, a4, c1, c2, c3, c4, rfl, hdm, hdk, hb1⟩
  have hwf := hdm.wf
  have hwk := hdk.wf
  have hm5 := hdm.s1
  have hk5 := hdk.s1
  obtain ⟨T0, q0⟩ := Two.new 27 hdm.ints hdm.bools hdk.ints hdk.bools
  have T1 := Lib.hid T0
  have q1 := Lib.hid (hb1.trans (q0.mono hb1.size))
  clear hb1 hdm hdk T0 q0
  have y0 := T1.out.a.c0
  have y1 := T1.out.a.c1
  have y2 := T1.out.a.c2
  have y3 := T1.out.b.c0
  have y4 := T1.out.b.c1
  have y5 := T1.out.b.c2
  go_wp2_with fail
  clear y0 y1 y2 y3 y4 y5
  generalize hW2 : (w1.alloc (.cells #[.int .i64 m.st, .slice a1 m.next.length c1, .slice a2 m.ends.length c2] 27)).alloc (.cells #[.int .i64 k.st, .slice a3 k.next.length c3, .slice a4 k.ends.length c4] 27) = w2 at *
  generalize hB6 : w1.heap.size + 1 = b6 at *
  generalize hB5 : w1.heap.size = b5 at *
  clear hW2 hB6 hB5
  refine (implEither_any m k _ _ _ _ w2 T1.out.a.ints T1.out.a.bools T1.out.b.ints T1.out.b.bools hwf hwk).mono ?_
  rintro e w3 h3
  obtain ⟨x, ok, nv3, ev3, hJ3, rfl, hn3, he3, hb3⟩ := h3.reads
  obtain ⟨d1, n1, e1, rfl⟩ := hn3.slice
  obtain ⟨d2, n2, e2, rfl⟩ := he3.slice
  have HJ := Lib.hid hJ3
  have hwx := hJ3.wfT2
  have hal := hb3.trans (((Below.refl w3.heap.size w3).alloc (Nat.le_refl _) (.cells #[.int .i64 x.st, .slice d1 n1 e1, .slice d2 n2 e2] 27)).mono hb3.size)
  have X4 := Lib.hid (MachBox.new (st := x.st) 27 hn3 he3)
  have T4 := Lib.hid (T1.out.below hal)
  have q4 := Lib.hid (q1.out.trans (hal.mono q1.out.size))
  clear hb3 hal h3 hn3 he3 T1 q1 hJ3
  have y0 := T4.out.a.c0
  have y1 := T4.out.a.c1
  have y2 := T4.out.a.c2
  have y3 := T4.out.b.c0
  have y4 := T4.out.b.c1
  have y5 := T4.out.b.c2
  go_wp2_with fail
  clear y0 y1 y2 y3 y4 y5
  generalize hW4 : w3.alloc (.cells #[.int .i64 x.st, .slice d1 n1 e1, .slice d2 n2 e2] 27) = w4 at *
  generalize hB7 : w3.heap.size = b7 at *
  clear hW4 hB7
  refine (specEither_any m k _ _ _ _ w4 T4.out.a.ints T4.out.a.bools T4.out.b.ints T4.out.b.bools hwf hwk).mono ?_
  rintro e w5 h5
  obtain ⟨y, ok5, nv5, ev5, hJ5, rfl, hn5, he5, hb5⟩ := h5.reads
  obtain ⟨rfl, rfl⟩ := hJ5.one HJ.out
  obtain ⟨d3, n3, e3, rfl⟩ := hn5.slice
  obtain ⟨d4, n4, e4, rfl⟩ := he5.slice
  have hal := hb5.trans (((Below.refl w5.heap.size w5).alloc (Nat.le_refl _) (.cells #[.int .i64 y.st, .slice d3 n3 e3, .slice d4 n4 e4] 27)).mono hb5.size)
  have Y6 := Lib.hid (MachBox.new (st := y.st) 27 hn5 he5)
  have X6 := Lib.hid (X4.out.below hal)
  have T6 := Lib.hid (T4.out.below hal)
  have q6 := Lib.hid (q4.out.trans (hal.mono q4.out.size))
  have hbb : (ok5 != ok5) = false := by simp
  clear hb5 hal h5 hn5 he5 hJ5 T4 X4 q4
  have y0 := X6.out.c0
  have y1 := X6.out.c1
  have y2 := X6.out.c2
  have y3 := Y6.out.c0
  have y4 := Y6.out.c1
  have y5 := Y6.out.c2
  go_wp2_with fail
  clear y0 y1 y2 y3 y4 y5
  generalize hW6 : w5.alloc (.cells #[.int .i64 y.st, .slice d3 n3 e3, .slice d4 n4 e4] 27) = w6 at *
  generalize hB9 : w5.heap.size = b9 at *
  clear hW6 hB9
  refine (sameMachine_same y _ _ _ _ _ X6.out.ints X6.out.bools Y6.out.ints Y6.out.bools).mono ?_
  rintro e w7 ⟨rfl, hb7⟩
  have X7 := Lib.hid (X6.out.below hb7)
  have T7 := Lib.hid (T6.out.below hb7)
  have q7 := Lib.hid (q6.out.trans (hb7.mono q6.out.size))
  clear hb7 X6 T6 Y6 q6
  cases hok : ok5 with
  | false =>
    subst hok
    have hyz : y = ⟨0, [], []⟩ := by
      rcases HJ.out with ⟨h, -⟩ | ⟨-, h, -⟩
      · cases h
      · exact h
    clear HJ
    subst hyz
    have y0 := X7.out.c0
    have y1 := X7.out.c1
    have y2 := X7.out.c2
    have HI := Lib.hid X7.out.ints
    have HB := Lib.hid X7.out.bools
    simp only at y0 HI HB
    go_wp2_with fail
    clear y0 y1 y2
    refine (sameMachine_same ⟨0, [], []⟩ _ _ _ _ _ HI.out HB.out (isInts_nil _) (isBools_nil _)).mono ?_
    rintro e w9 ⟨rfl, hb9⟩
    go_wp2_with fail
    refine (alive_any _).mono ?_
    rintro e w10 ⟨rfl, rfl⟩
    go_wp2_with fail
    go_ret
    exact ⟨rfl, q7.out.trans (hb9.mono q7.out.size)⟩
  | true =>
    subst hok
    have H7 := H2.out.below q7.out
    go_wp2_with fail
    refine (drawTakesOk_any b len2 cap2 zs2 w7 H7).mono ?_
    clear H7
    rintro e w8 ⟨mm, nv8, ev8, s, rfl, hss, hd8, hb8⟩
    obtain ⟨f1, i1, g1, rfl⟩ := hd8.ints.slice
    obtain ⟨f2, i2, g2, rfl⟩ := hd8.bools.slice
    have hsm : s.size ≤ maxLen := by unfold maxLen; omega
    have hal := hb8.trans (((Below.refl w8.heap.size w8).alloc (Nat.le_refl _) (.cells #[.int .i64 mm.st, .slice f1 i1 g1, .slice f2 i2 g2] 27)).mono hb8.size)
    have X9 := Lib.hid (X7.out.below hal)
    have T9 := Lib.hid (T7.out.below hal)
    have q9 := Lib.hid (q7.out.trans (hal.mono q7.out.size))
    clear hal hb8 hd8 X7 T7 q7
    have y0 := T9.out.a.c0
    have y1 := T9.out.a.c1
    have y2 := T9.out.a.c2
    go_wp2_with fail
    clear y0 y1 y2
    generalize hW9 : w8.alloc (.cells #[.int .i64 mm.st, .slice f1 i1 g1, .slice f2 i2 g2] 27) = w9 at *
    clear hW9
    refine (implNot_any m _ _ w9 T9.out.a.ints T9.out.a.bools hwf).mono ?_
    rintro e w10 h10
    obtain ⟨na, r1, nv10, ev10, hJa, rfl, hn10, he10, hb10⟩ := h10.reads
    have HJA := Lib.hid hJa
    have hwa := hJa.wfT2
    obtain ⟨d3, n3, e3, rfl⟩ := hn10.slice
    obtain ⟨d4, n4, e4, rfl⟩ := he10.slice
    have hal := hb10.trans (((Below.refl w10.heap.size w10).alloc (Nat.le_refl _) (.cells #[.int .i64 na.st, .slice d3 n3 e3, .slice d4 n4 e4] 27)).mono hb10.size)
    have A11 := Lib.hid (MachBox.new (st := na.st) 27 hn10 he10)
    have X11 := Lib.hid (X9.out.below hal)
    have T11 := Lib.hid (T9.out.below hal)
    have q11 := Lib.hid (q9.out.trans (hal.mono q9.out.size))
    clear hal hb10 h10 hn10 he10 X9 T9 q9 hJa
    have y0 := T11.out.b.c0
    have y1 := T11.out.b.c1
    have y2 := T11.out.b.c2
    go_wp2_with fail
    clear y0 y1 y2
    generalize hW11 : w10.alloc (.cells #[.int .i64 na.st, .slice d3 n3 e3, .slice d4 n4 e4] 27) = w11 at *
    generalize hB13 : w10.heap.size = b13 at *
    clear hW11 hB13
    refine (implNot_any k _ _ w11 T11.out.b.ints T11.out.b.bools hwk).mono ?_
    rintro e w12 h12
    obtain ⟨nb, r2, nv12, ev12, hJb, rfl, hn12, he12, hb12⟩ := h12.reads
    have HJB := Lib.hid hJb
    have hwb := hJb.wfT2
    obtain ⟨d5, n5, e5, rfl⟩ := hn12.slice
    obtain ⟨d6, n6, e6, rfl⟩ := he12.slice
    have hal := hb12.trans (((Below.refl w12.heap.size w12).alloc (Nat.le_refl _) (.cells #[.int .i64 nb.st, .slice d5 n5 e5, .slice d6 n6 e6] 27)).mono hb12.size)
    have C13 := Lib.hid (MachBox.new (st := nb.st) 27 hn12 he12)
    have A13 := Lib.hid (A11.out.below hal)
    have X13 := Lib.hid (X11.out.below hal)
    have T13 := Lib.hid (T11.out.below hal)
    have q13 := Lib.hid (q11.out.trans (hal.mono q11.out.size))
    clear hal hb12 h12 hn12 he12 X11 T11 A11 q11 hJb
    have y0 := A13.out.c0
    have y1 := A13.out.c1
    have y2 := A13.out.c2
    have y3 := C13.out.c0
    have y4 := C13.out.c1
    have y5 := C13.out.c2
    go_wp2_with fail
    clear y0 y1 y2 y3 y4 y5
    generalize hW13 : w12.alloc (.cells #[.int .i64 nb.st, .slice d5 n5 e5, .slice d6 n6 e6] 27) = w13 at *
    generalize hB15 : w12.heap.size = b15 at *
    clear hW13 hB15
    refine (implBoth_any na nb _ _ _ _ w13 A13.out.ints A13.out.bools C13.out.ints C13.out.bools hwa hwb).mono ?_
    rintro e w14 h14
    obtain ⟨nc, r3, nv14, ev14, hJc, rfl, hn14, he14, hb14⟩ := h14.reads
    have HJC := Lib.hid hJc
    have hwc := hJc.wfT2
    obtain ⟨d7, n7, e7, rfl⟩ := hn14.slice
    obtain ⟨d8, n8, e8, rfl⟩ := he14.slice
    have hal := hb14.trans (((Below.refl w14.heap.size w14).alloc (Nat.le_refl _) (.cells #[.int .i64 nc.st, .slice d7 n7 e7, .slice d8 n8 e8] 27)).mono hb14.size)
    have C15 := Lib.hid (MachBox.new (st := nc.st) 27 hn14 he14)
    have X15 := Lib.hid (X13.out.below hal)
    have T15 := Lib.hid (T13.out.below hal)
    have q15 := Lib.hid (q13.out.trans (hal.mono q13.out.size))
    clear hal hb14 h14 hn14 he14 X13 T13 A13 C13 q13 hJc
    have y0 := C15.out.c0
    have y1 := C15.out.c1
    have y2 := C15.out.c2
    go_wp2_with fail
    clear y0 y1 y2
    generalize hW15 : w14.alloc (.cells #[.int .i64 nc.st, .slice d7 n7 e7, .slice d8 n8 e8] 27) = w15 at *
    generalize hB17 : w14.heap.size = b17 at *
    clear hW15 hB17
    refine (implNot_any nc _ _ w15 C15.out.ints C15.out.bools hwc).mono ?_
    rintro e w16 h16
    obtain ⟨o, r4, nv16, ev16, hJd, rfl, hn16, he16, hb16⟩ := h16.reads
    obtain ⟨hr1, hr2, hr3, hr4, hxo⟩ := IsJoin.morgan hm5 hk5 HJ.out HJA.out HJB.out HJC.out hJd
    subst hr1 hr2 hr3 hr4
    rw [← hxo] at hn16 he16 ⊢
    clear hxo hJd HJA HJB HJC
    obtain ⟨d9, n9, e9, rfl⟩ := hn16.slice
    obtain ⟨d10, n10, e10, rfl⟩ := he16.slice
    have hal := hb16.trans (((Below.refl w16.heap.size w16).alloc (Nat.le_refl _) (.cells #[.int .i64 y.st, .slice d9 n9 e9, .slice d10 n10 e10] 27)).mono hb16.size)
    have Z17 := Lib.hid (MachBox.new (st := y.st) 27 hn16 he16)
    have X17 := Lib.hid (X15.out.below hal)
    have T17 := Lib.hid (T15.out.below hal)
    have q17 := Lib.hid (q15.out.trans (hal.mono q15.out.size))
    clear hal hb16 h16 hn16 he16 X15 T15 C15 q15
    go_upto_region 15 with fail
    generalize hW17 : w16.alloc (.cells #[.int .i64 y.st, .slice d9 n9 e9, .slice d10 n10 e10] 27) = w17 at *
    generalize hB19 : w16.heap.size = b19 at *
    clear hW17 hB19
    have HM : Hid (∀ W, Below w17.heap.size w17 W → Tri b5 m.st (.slice a1 m.next.length c1) (.slice a2 m.ends.length c2) W) := Lib.hid (fun W h => (T17.out.below h).a.tri)
    have HK : Hid (∀ W, Below w17.heap.size w17 W → Tri b6 k.st (.slice a3 k.next.length c3) (.slice a4 k.ends.length c4) W) := Lib.hid (fun W h => (T17.out.below h).b.tri)
    have HX : Hid (∀ W, Below w17.heap.size w17 W → Tri b7 y.st (.slice d1 n1 e1) (.slice d2 n2 e2) W) := Lib.hid (fun W h => (X17.out.below h).tri)
    have HZ : Hid (∀ W, Below w17.heap.size w17 W → Tri b19 y.st (.slice d9 n9 e9) (.slice d10 n10 e10) W) := Lib.hid (fun W h => (Z17.out.below h).tri)
    have BD := Lib.hid ((Below.refl w17.heap.size w17).drew)
    have hty := HJ.out.either_takes s
    clear HJ
    cases htm : m.takes s with
    | true =>
      have HTM := Lib.hid htm
      have HTY : Hid (y.takes s = true) := Lib.hid (by rw [hty, htm]; rfl)
      clear htm hty
      obtain ⟨rx0, rx1, rx2⟩ := (HX.out _ (Below.refl _ _)).cells
      obtain ⟨rm0, rm1, rm2⟩ := (HM.out _ (Below.refl _ _)).cells
      obtain ⟨rk0, rk1, rk2⟩ := (HK.out _ (Below.refl _ _)).cells
      obtain ⟨rz0, rz1, rz2⟩ := (HZ.out _ (Below.refl _ _)).cells
      go_region_with (first | (go_at_call 28; with_reducible refine (implTakesOk_any y s _ _ w17.drew (X17.out.below BD.out).ints (X17.out.below BD.out).bools hwx hsm).mono ?_; rintro e w18 ⟨rfl, hb18⟩; rw [HTY.out]; have B18 := Lib.hid (Below.then' BD.out hb18); clear hb18; obtain ⟨rx0, rx1, rx2⟩ := (HX.out _ B18.out).cells; obtain ⟨rm0, rm1, rm2⟩ := (HM.out _ B18.out).cells; obtain ⟨rk0, rk1, rk2⟩ := (HK.out _ B18.out).cells; obtain ⟨rz0, rz1, rz2⟩ := (HZ.out _ B18.out).cells) | (go_at_call 28; with_reducible refine (implTakesOk_any m s _ _ w18 (T17.out.below B18.out).a.ints (T17.out.below B18.out).a.bools hwf hsm).mono ?_; rintro e w19 ⟨rfl, hb19⟩; rw [HTM.out]; have B19 := Lib.hid (Below.then' B18.out hb19); clear hb19; have hsweep : True := trivial; obtain ⟨rx0, rx1, rx2⟩ := (HX.out _ B19.out).cells; obtain ⟨rm0, rm1, rm2⟩ := (HM.out _ B19.out).cells; obtain ⟨rk0, rk1, rk2⟩ := (HK.out _ B19.out).cells; obtain ⟨rz0, rz1, rz2⟩ := (HZ.out _ B19.out).cells) | (clear hsweep; guard_target = wpAny _ _ _ _ _ _ _ _; refine wpAny_take (i := 6) (oi := ⟨some 95, _, _, _, _, _⟩) (v := .bool true) rfl (by kernel_rfl) (by kernel_rfl) (by kernel_rfl) (fun _ _ _ h => h) (Or.inl ⟨by rfl, by intro w; go_simp⟩) ?_; simp only [Act.put, List.setIfInBounds_toArray, List.set_cons_zero, List.set_cons_succ]; refine wpAny_take (i := 7) (oi := ⟨some 96, _, _, _, _, _⟩) (v := undef) rfl (by kernel_rfl) (by kernel_rfl) (by kernel_rfl) (fun _ _ _ h => h) (Or.inr ⟨by rfl, rfl⟩) ?_; simp only [Act.put, List.setIfInBounds_toArray, List.set_cons_zero, List.set_cons_succ]; refine wpAny_take (i := 8) (oi := ⟨some 97, _, _, _, _, _⟩) (v := undef) rfl (by kernel_rfl) (by kernel_rfl) (by kernel_rfl) (fun _ _ _ h => h) (Or.inr ⟨by rfl, rfl⟩) ?_; simp only [Act.put, List.setIfInBounds_toArray, List.set_cons_zero, List.set_cons_succ]; refine wpAny_take (i := 9) (oi := ⟨some 98, _, _, _, _, _⟩) (v := undef) rfl (by kernel_rfl) (by kernel_rfl) (by kernel_rfl) (fun _ _ _ h => h) (Or.inr ⟨by rfl, rfl⟩) ?_; simp only [Act.put, List.setIfInBounds_toArray, List.set_cons_zero, List.set_cons_succ]; refine wpAny_take (i := 10) (oi := ⟨some 99, _, _, _, _, _⟩) (v := .bool true) rfl (by kernel_rfl) (by kernel_rfl) (by kernel_rfl) (fun _ _ _ h => h) (Or.inl ⟨by rfl, by intro w; go_simp⟩) ?_; simp only [Act.put, List.setIfInBounds_toArray, List.set_cons_zero, List.set_cons_succ]; refine wpAny_take (i := 11) (oi := ⟨some 100, _, _, _, _, _⟩) (v := .bool true) rfl (by kernel_rfl) (by kernel_rfl) (by kernel_rfl) (fun _ _ _ h => h) (Or.inl ⟨by rfl, by intro w; go_simp⟩) ?_; simp only [Act.put, List.setIfInBounds_toArray, List.set_cons_zero, List.set_cons_succ]; refine wpAny_take (i := 12) (oi := ⟨some 101, _, _, _, _, _⟩) (v := .bool true) rfl (by kernel_rfl) (by kernel_rfl) (by kernel_rfl) (fun _ _ _ h => h) (Or.inl ⟨by rfl, by intro w; go_simp⟩) ?_; simp only [Act.put, List.setIfInBounds_toArray, List.set_cons_zero, List.set_cons_succ]; refine wpAny_take (i := 13) (oi := ⟨some 102, _, _, _, _, _⟩) (v := .bool true) rfl (by kernel_rfl) (by kernel_rfl) (by kernel_rfl) (fun _ _ _ h => h) (Or.inl ⟨by rfl, by intro w; go_simp⟩) ?_; simp only [Act.put, List.setIfInBounds_toArray, List.set_cons_zero, List.set_cons_succ]; refine wpAny_take (i := 14) (oi := ⟨some 103, _, _, _, _, _⟩) (v := .bool true) rfl (by kernel_rfl) (by kernel_rfl) (by kernel_rfl) (fun _ _ _ h => h) (Or.inl ⟨by rfl, by intro w; go_simp⟩) ?_; simp only [Act.put, List.setIfInBounds_toArray, List.set_cons_zero, List.set_cons_succ]; refine wpAny_take (i := 15) (oi := ⟨some 104, _, _, _, _, _⟩) (v := .bool true) rfl (by kernel_rfl) (by kernel_rfl) (by kernel_rfl) (fun _ _ _ h => h) (Or.inl ⟨by rfl, by intro w; go_simp⟩) ?_; simp only [Act.put, List.setIfInBounds_toArray, List.set_cons_zero, List.set_cons_succ]; refine wpAny_take (i := 16) (oi := ⟨some 105, _, _, _, _, _⟩) (v := .bool true) rfl (by kernel_rfl) (by kernel_rfl) (by kernel_rfl) (fun _ _ _ h => h) (Or.inl ⟨by rfl, by intro w; go_simp⟩) ?_; simp only [Act.put, List.setIfInBounds_toArray, List.set_cons_zero, List.set_cons_succ]; refine wpAny_take (i := 17) (oi := ⟨some 106, _, _, _, _, _⟩) (v := .bool true) rfl (by kernel_rfl) (by kernel_rfl) (by kernel_rfl) (fun _ _ _ h => h) (Or.inl ⟨by rfl, by intro w; go_simp⟩) ?_; simp only [Act.put, List.setIfInBounds_toArray, List.set_cons_zero, List.set_cons_succ]; refine wpAny_take (i := 18) (oi := ⟨some 107, _, _, _, _, _⟩) (v := .bool true) rfl (by kernel_rfl) (by kernel_rfl) (by kernel_rfl) (fun _ _ _ h => h) (Or.inl ⟨by rfl, by intro w; go_simp⟩) ?_; simp only [Act.put, List.setIfInBounds_toArray, List.set_cons_zero, List.set_cons_succ]; refine wpAny_take (i := 19) (oi := ⟨some 108, _, _, _, _, _⟩) (v := .bool true) rfl (by kernel_rfl) (by kernel_rfl) (by kernel_rfl) (fun _ _ _ h => h) (Or.inl ⟨by rfl, by intro w; go_simp⟩) ?_; simp only [Act.put, List.setIfInBounds_toArray, List.set_cons_zero, List.set_cons_succ]; refine wpAny_take (i := 20) (oi := ⟨some 109, _, _, _, _, _⟩) (v := .bool true) rfl (by kernel_rfl) (by kernel_rfl) (by kernel_rfl) (fun _ _ _ h => h) (Or.inl ⟨by rfl, by intro w; go_simp⟩) ?_; simp only [Act.put, List.setIfInBounds_toArray, List.set_cons_zero, List.set_cons_succ]; refine wpAny_take (i := 21) (oi := ⟨some 110, _, _, _, _, _⟩) (v := .bool true) rfl (by kernel_rfl) (by kernel_rfl) (by kernel_rfl) (fun _ _ _ h => h) (Or.inl ⟨by rfl, by intro w; go_simp⟩) ?_; simp only [Act.put, List.setIfInBounds_toArray, List.set_cons_zero, List.set_cons_succ]; refine wpAny_take (i := 22) (oi := ⟨some 111, _, _, _, _, _⟩) (v := .bool true) rfl (by kernel_rfl) (by kernel_rfl) (by kernel_rfl) (fun _ _ _ h => h) (Or.inl ⟨by rfl, by intro w; go_simp⟩) ?_; simp only [Act.put, List.setIfInBounds_toArray, List.set_cons_zero, List.set_cons_succ]; refine wpAny_take (i := 23) (oi := ⟨some 112, _, _, _, _, _⟩) (v := .bool true) rfl (by kernel_rfl) (by kernel_rfl) (by kernel_rfl) (fun _ _ _ h => h) (Or.inl ⟨by rfl, by intro w; go_simp⟩) ?_; simp only [Act.put, List.setIfInBounds_toArray, List.set_cons_zero, List.set_cons_succ]; refine wpAny_take (i := 24) (oi := ⟨some 113, _, _, _, _, _⟩) (v := .bool true) rfl (by kernel_rfl) (by kernel_rfl) (by kernel_rfl) (fun _ _ _ h => h) (Or.inl ⟨by rfl, by intro w; go_simp⟩) ?_; simp only [Act.put, List.setIfInBounds_toArray, List.set_cons_zero, List.set_cons_succ]) | (go_at_call 24; with_reducible refine (sameMachine_same y _ _ _ _ w19 (Z17.out.below B19.out).ints (Z17.out.below B19.out).bools (X17.out.below B19.out).ints (X17.out.below B19.out).bools).mono ?_; rintro e w20 ⟨rfl, hb20⟩; have B20 := Lib.hid (Below.then' B19.out hb20); clear hb20; obtain ⟨rx0, rx1, rx2⟩ := (HX.out _ B20.out).cells; obtain ⟨rm0, rm1, rm2⟩ := (HM.out _ B20.out).cells; obtain ⟨rk0, rk1, rk2⟩ := (HK.out _ B20.out).cells; obtain ⟨rz0, rz1, rz2⟩ := (HZ.out _ B20.out).cells))
      all_goals
        go_simp
        go_wp2_with fail
        go_ret
        exact ⟨rfl, q17.out.trans (B20.out.mono q17.out.size)⟩
    | false =>
      have HTM := Lib.hid htm
      cases htk : k.takes s with
      | false =>
        have HTK := Lib.hid htk
        have HTY : Hid (y.takes s = false) := Lib.hid (by rw [hty, htm, htk]; rfl)
        clear htm htk hty
        go_region_held3 (fun w' => (w'.cell? ⟨b7, 0, none⟩ = some (.int .i64 y.st) ∧ w'.cell? ⟨b7, 1, none⟩ = some (.slice d1 n1 e1) ∧ w'.cell? ⟨b7, 2, none⟩ = some (.slice d2 n2 e2)) ∧ (w'.cell? ⟨b5, 0, none⟩ = some (.int .i64 m.st) ∧ w'.cell? ⟨b5, 1, none⟩ = some (.slice a1 m.next.length c1) ∧ w'.cell? ⟨b5, 2, none⟩ = some (.slice a2 m.ends.length c2)) ∧ (w'.cell? ⟨b6, 0, none⟩ = some (.int .i64 k.st) ∧ w'.cell? ⟨b6, 1, none⟩ = some (.slice a3 k.next.length c3) ∧ w'.cell? ⟨b6, 2, none⟩ = some (.slice a4 k.ends.length c4)) ∧ (w'.cell? ⟨b19, 0, none⟩ = some (.int .i64 y.st) ∧ w'.cell? ⟨b19, 1, none⟩ = some (.slice d9 n9 e9) ∧ w'.cell? ⟨b19, 2, none⟩ = some (.slice d10 n10 e10)))
          (first | (with_reducible exact ⟨(HX.out _ BD.out).cells, (HM.out _ BD.out).cells, (HK.out _ BD.out).cells, (HZ.out _ BD.out).cells⟩) | (with_reducible exact ⟨(HX.out _ B18.out).cells, (HM.out _ B18.out).cells, (HK.out _ B18.out).cells, (HZ.out _ B18.out).cells⟩) | (with_reducible exact ⟨(HX.out _ B19.out).cells, (HM.out _ B19.out).cells, (HK.out _ B19.out).cells, (HZ.out _ B19.out).cells⟩) | (with_reducible exact ⟨(HX.out _ B20.out).cells, (HM.out _ B20.out).cells, (HK.out _ B20.out).cells, (HZ.out _ B20.out).cells⟩) | (with_reducible exact ⟨(HX.out _ B21.out).cells, (HM.out _ B21.out).cells, (HK.out _ B21.out).cells, (HZ.out _ B21.out).cells⟩))
          (first | (go_at_call 28; with_reducible refine (implTakesOk_any y s _ _ w17.drew (X17.out.below BD.out).ints (X17.out.below BD.out).bools hwx hsm).mono ?_; rintro e w18 ⟨rfl, hb18⟩; rw [HTY.out]; have B18 := Lib.hid (Below.then' BD.out hb18); clear hb18) | (go_at_call 28; with_reducible refine (implTakesOk_any m s _ _ w18 (T17.out.below B18.out).a.ints (T17.out.below B18.out).a.bools hwf hsm).mono ?_; rintro e w19 ⟨rfl, hb19⟩; rw [HTM.out]; have B19 := Lib.hid (Below.then' B18.out hb19); clear hb19) | (go_at_call 28; with_reducible refine (implTakesOk_any k s _ _ w19 (T17.out.below B19.out).b.ints (T17.out.below B19.out).b.bools hwk hsm).mono ?_; rintro e w20 ⟨rfl, hb20⟩; rw [HTK.out]; have B20 := Lib.hid (Below.then' B19.out hb20); clear hb20) | (go_at_call 24; with_reducible refine (sameMachine_same y _ _ _ _ w20 (Z17.out.below B20.out).ints (Z17.out.below B20.out).bools (X17.out.below B20.out).ints (X17.out.below B20.out).bools).mono ?_; rintro e w21 ⟨rfl, hb21⟩; have B21 := Lib.hid (Below.then' B20.out hb21); clear hb21))
        all_goals
          go_wp2_with fail
          go_ret
          exact ⟨rfl, q17.out.trans (B21.out.mono q17.out.size)⟩
      | true =>
        have HTK := Lib.hid htk
        have HTY : Hid (y.takes s = true) := Lib.hid (by rw [hty, htm, htk]; rfl)
        clear htm htk hty
        go_region_held3 (fun w' => (w'.cell? ⟨b7, 0, none⟩ = some (.int .i64 y.st) ∧ w'.cell? ⟨b7, 1, none⟩ = some (.slice d1 n1 e1) ∧ w'.cell? ⟨b7, 2, none⟩ = some (.slice d2 n2 e2)) ∧ (w'.cell? ⟨b5, 0, none⟩ = some (.int .i64 m.st) ∧ w'.cell? ⟨b5, 1, none⟩ = some (.slice a1 m.next.length c1) ∧ w'.cell? ⟨b5, 2, none⟩ = some (.slice a2 m.ends.length c2)) ∧ (w'.cell? ⟨b6, 0, none⟩ = some (.int .i64 k.st) ∧ w'.cell? ⟨b6, 1, none⟩ = some (.slice a3 k.next.length c3) ∧ w'.cell? ⟨b6, 2, none⟩ = some (.slice a4 k.ends.length c4)) ∧ (w'.cell? ⟨b19, 0, none⟩ = some (.int .i64 y.st) ∧ w'.cell? ⟨b19, 1, none⟩ = some (.slice d9 n9 e9) ∧ w'.cell? ⟨b19, 2, none⟩ = some (.slice d10 n10 e10)))
          (first | (with_reducible exact ⟨(HX.out _ BD.out).cells, (HM.out _ BD.out).cells, (HK.out _ BD.out).cells, (HZ.out _ BD.out).cells⟩) | (with_reducible exact ⟨(HX.out _ B18.out).cells, (HM.out _ B18.out).cells, (HK.out _ B18.out).cells, (HZ.out _ B18.out).cells⟩) | (with_reducible exact ⟨(HX.out _ B19.out).cells, (HM.out _ B19.out).cells, (HK.out _ B19.out).cells, (HZ.out _ B19.out).cells⟩) | (with_reducible exact ⟨(HX.out _ B20.out).cells, (HM.out _ B20.out).cells, (HK.out _ B20.out).cells, (HZ.out _ B20.out).cells⟩) | (with_reducible exact ⟨(HX.out _ B21.out).cells, (HM.out _ B21.out).cells, (HK.out _ B21.out).cells, (HZ.out _ B21.out).cells⟩))
          (first | (go_at_call 28; with_reducible refine (implTakesOk_any y s _ _ w17.drew (X17.out.below BD.out).ints (X17.out.below BD.out).bools hwx hsm).mono ?_; rintro e w18 ⟨rfl, hb18⟩; rw [HTY.out]; have B18 := Lib.hid (Below.then' BD.out hb18); clear hb18) | (go_at_call 28; with_reducible refine (implTakesOk_any m s _ _ w18 (T17.out.below B18.out).a.ints (T17.out.below B18.out).a.bools hwf hsm).mono ?_; rintro e w19 ⟨rfl, hb19⟩; rw [HTM.out]; have B19 := Lib.hid (Below.then' B18.out hb19); clear hb19) | (go_at_call 28; with_reducible refine (implTakesOk_any k s _ _ w19 (T17.out.below B19.out).b.ints (T17.out.below B19.out).b.bools hwk hsm).mono ?_; rintro e w20 ⟨rfl, hb20⟩; rw [HTK.out]; have B20 := Lib.hid (Below.then' B19.out hb20); clear hb20) | (go_at_call 24; with_reducible refine (sameMachine_same y _ _ _ _ w20 (Z17.out.below B20.out).ints (Z17.out.below B20.out).bools (X17.out.below B20.out).ints (X17.out.below B20.out).bools).mono ?_; rintro e w21 ⟨rfl, hb21⟩; have B21 := Lib.hid (Below.then' B20.out hb21); clear hb21))
        all_goals
          go_wp2_with fail
          go_ret
          exact ⟨rfl, q17.out.trans (B21.out.mono q17.out.size)⟩
end Go.Proofs.Ythknpbefdejbkaa
