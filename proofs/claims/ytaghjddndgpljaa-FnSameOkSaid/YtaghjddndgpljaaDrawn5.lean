/- The drawing of two machines. No condition. -/
import Derived.Test.YtaghjddndgpljaaDrawAll
import Derived.Test.YtaghjddndgpljaaLeastAll
import Derived.Test.YtaghjddndgpljaaBoxed
import Derived.Deep.RegionWith
namespace Go.Proofs.Ytaghjddndgpljaa
open Go.RowKit

theorem apart_joinK {C R : Nat} {ts us : List Thing} {w w' : World} (hA : Apart C ts w) (hK : KeepsBut R w w') (hR : R < C) (hU : Apart w.heap.size us w') (hC : C ≤ w.heap.size) : Apart C (us ++ ts) w' := by
  have h := hA.other hK.grownBy (fun k e => by cases e; exact hR)
  refine ⟨fun t ht => ?_, List.pairwise_append.2 ⟨hU.two, h.two, fun s hs t ht k e e' => ?_⟩⟩
  · rcases List.mem_append.1 ht with ht | ht
    · exact ⟨(hU.all t ht).1, fun k e => ⟨Nat.le_trans hC ((hU.all t ht).2 k e).1, ((hU.all t ht).2 k e).2⟩⟩
    · exact h.all t ht
  · have := ((hA.all t ht).2 k e').2
    have := ((hU.all s hs).2 k e).1
    omega
def zC (b : Nat) : Thing := cellsT b #[.int .i64 0, .slice none 0 0, .slice none 0 0] 26
/-- both results are laid down -/
theorem two_done {R b4 : Nat} {w w7 : World} {st st' : Int} {v1 v2 v3 v4 : Value} {xs xs' : List Int} {bs bs' : List Bool} (K : KeepsBut R w w7)
    (A : Apart w.heap.size [rI v3 xs', rB v4 bs', cM b4 st v1 v2, rI v1 xs, rB v2 bs, zC (w.heap.size + 1), zC w.heap.size] w7) :
    ∀ W, W = (((((w7.setCell ⟨w.heap.size, 0, none⟩ (.int .i64 st)).setCell ⟨w.heap.size, 1, none⟩ v1).setCell ⟨w.heap.size, 2, none⟩ v2).setCell ⟨w.heap.size + 1, 0, none⟩ (.int .i64 st')).setCell ⟨w.heap.size + 1, 1, none⟩ v3).setCell ⟨w.heap.size + 1, 2, none⟩ v4 →
      Apart w.heap.size [rI v3 xs', rB v4 bs', rI v1 xs, rB v2 bs] W ∧ KeepsBut R w W ∧ (W.cell? ⟨w.heap.size, 0, none⟩ = some (.int .i64 st) ∧ W.cell? ⟨w.heap.size, 1, none⟩ = some v1 ∧ W.cell? ⟨w.heap.size, 2, none⟩ = some v2) ∧ W.cell? ⟨w.heap.size + 1, 0, none⟩ = some (.int .i64 st') ∧ W.cell? ⟨w.heap.size + 1, 1, none⟩ = some v3 ∧ W.cell? ⟨w.heap.size + 1, 2, none⟩ = some v4 := by
  rintro W rfl
  have hs := K.size
  have a1 := A.setAt 6 (by simp) rfl hs 0 (.int .i64 st)
  have a2 := a1.setAt 6 (by simp) rfl (by simpa using hs) 1 v1
  have a3 := a2.setAt 6 (by simp) rfl (by simpa using hs) 2 v2
  have a4 := a3.setAt 5 (by simp) rfl (by simpa using hs) 0 (.int .i64 st')
  have a5 := a4.setAt 5 (by simp) rfl (by simpa using hs) 1 v3
  have a6 := a5.setAt 5 (by simp) rfl (by simpa using hs) 2 v4
  have c6 := a6.at 6 (by simp)
  have c5 := a6.at 5 (by simp)
  have g : ∀ {V : World} (b i : Nat) (u : Value), KeepsBut R w V → w.heap.size ≤ b → KeepsBut R w (V.setCell ⟨b, i, none⟩ u) := fun b i u h hb => h.grown (grown_setCell _ b i u) (fun k e => by cases e; exact hb)
  refine ⟨a6.sub (List.Sublist.cons_cons _ (List.Sublist.cons_cons _ (List.Sublist.cons _ (List.Sublist.cons_cons _ (List.Sublist.cons_cons _ (List.nil_sublist _)))))), ?_, ⟨cellsT_cell c6 0, cellsT_cell c6 1, cellsT_cell c6 2⟩, cellsT_cell c5 0, cellsT_cell c5 1, cellsT_cell c5 2⟩
  exact g _ _ _ (g _ _ _ (g _ _ _ (g _ _ _ (g _ _ _ (g _ _ _ K (Nat.le_refl _)) (Nat.le_refl _)) (Nat.le_refl _)) (Nat.le_succ _)) (Nat.le_succ _)) (Nat.le_succ _)
theorem least_exD {m : M} (hg : m.good) : ∃ K, IsLm (m.lang 0) K ∧ K.st ≤ m.st := by
  have hT := tm_good hg
  have h0 : 0 < (tm m).ends.length := by have := M.good_shape hT; omega
  obtain ⟨K, k1, k2, k3⟩ := lm_spec hT (tm_trim hg) (still_end (good_closed hT) h0) (repL_part (tm m) _ _)
  rw [tm_lang hg] at k3
  refine ⟨_, k3, ?_⟩
  show (K : Int) ≤ m.st
  have h1 : (tm m).st ≤ m.st := by
    have h5 := tm_len hg
    have h6 := trimN_le hg (lrounds m m.ends.length)
    have h7 := (M.good_shape hg).2.2.2
    have h8 := (M.good_shape hT).2.2.2
    omega
  have h2 := (M.good_shape hT).2.2.2
  omega
/-- within bounds -/
def Small5 (m : M) : Prop := 0 ≤ m.st ∧ m.st ≤ 5 ∧ m.next.length ≤ 15 ∧ m.ends.length ≤ 6
/-- two machines that were drawn -/
def Machs2 (R : Nat) (w : World) (e : Ending) (w' : World) : Prop :=
  ∃ (m k : M) (a1 a2 a3 a4 : Option Addr) (c1 c2 c3 c4 : Nat), e = .returned (.tuple #[.agg #[.int .i64 m.st, .slice a1 m.next.length c1, .slice a2 m.ends.length c2], .agg #[.int .i64 k.st, .slice a3 k.next.length c3, .slice a4 k.ends.length c4]]) ∧
    Small5 m ∧ Small5 k ∧ Apart w.heap.size [rI (.slice a3 k.next.length c3) k.next, rB (.slice a4 k.ends.length c4) k.ends, rI (.slice a1 m.next.length c1) m.next, rB (.slice a2 m.ends.length c2) m.ends] w' ∧ KeepsBut R w w'
/-- two machines that were drawn, to be read -/
def MachRes2 (w : World) (e : Ending) (w' : World) : Prop :=
  ∃ (m k : M) (a1 a2 a3 a4 : Option Addr) (c1 c2 c3 c4 : Nat), e = .returned (.tuple #[.agg #[.int .i64 m.st, .slice a1 m.next.length c1, .slice a2 m.ends.length c2], .agg #[.int .i64 k.st, .slice a3 k.next.length c3, .slice a4 k.ends.length c4]]) ∧
    Drawn2 m (.slice a1 m.next.length c1) (.slice a2 m.ends.length c2) w' ∧ Drawn2 k (.slice a3 k.next.length c3) (.slice a4 k.ends.length c4) w' ∧ Below w.heap.size w w'

set_option maxHeartbeats 2000000 in
set_option maxRecDepth 100000 in
theorem l20Machines_any (B R : Nat) (a : Option Addr) (len cap k : Nat) (w : World) (H : RdAt B R a len cap k w) (hk : k ≤ 800000) :
    Calls Try.prog 61 #[.pointer (some ⟨R, 0, none⟩)] w (Machs2 R w) := by
  have hRw := H.hR
  have A1 := (Apart.nil w.heap.size w).more (World.grownBy_alloc w _ none) (zC w.heap.size) (heap_alloc_new w _) (Nat.le_refl _) (fun j e => by cases e; simp)
  have A2 := A1.more (World.grownBy_alloc _ (.cells #[.int .i64 0, .slice none 0 0, .slice none 0 0] 26) none) (zC (w.heap.size + 1)) (by have := heap_alloc_new (w.alloc (.cells #[.int .i64 0, .slice none 0 0, .slice none 0 0] 26)) (.cells #[.int .i64 0, .slice none 0 0, .slice none 0 0] 26); rw [World.size_alloc] at this; exact this) (by simp) (fun j e => by cases e; simp)
  have K2 := ((KeepsBut.refl R w).alloc (.cells #[.int .i64 0, .slice none 0 0, .slice none 0 0] 26)).alloc (.cells #[.int .i64 0, .slice none 0 0, .slice none 0 0] 26)
  have H2 := (H.grown (World.grownBy_alloc w (.cells #[.int .i64 0, .slice none 0 0, .slice none 0 0] 26) none) (fun _ e => by cases e)).grown (World.grownBy_alloc _ (.cells #[.int .i64 0, .slice none 0 0, .slice none 0 0] 26) none) (fun _ e => by cases e)
  have HC := Lib.hid (l20Machine_any B R a len cap k 14 _ H2 (by omega) (by omega) (by omega))
  have HA2 := Lib.hid A2
  have HK2 := Lib.hid K2
  clear H A1 A2 K2 H2
  go_enter Try.func61, Try.ntmps61
  go_wp2_with fail
  refine HC.out.mono ?_
  clear HC
  generalize (w.alloc (.cells #[.int .i64 0, .slice none 0 0, .slice none 0 0] 26)).alloc (.cells #[.int .i64 0, .slice none 0 0, .slice none 0 0] 26) = w1 at *
  rintro e w2 ⟨st, xs, bs, nv, ev, rfl, h0, h1, h2, h3, ⟨k1, hk1, hk2, hR1⟩, hK1, hA⟩
  obtain ⟨a3, c3, rfl⟩ := ownsRow_sliceD hA.head
  obtain ⟨a4, c4, rfl⟩ := ownsRow_sliceD hA.tail.head
  have A3 : Apart w.heap.size [rI (.slice a3 xs.length c3) xs, rB (.slice a4 bs.length c4) bs, zC (w.heap.size + 1), zC w.heap.size] w2 := apart_joinK HA2.out hK1 hRw hA HK2.out.size
  have K3 := HK2.out.trans hK1
  have A4 := Lib.hid (boxed st (.slice a3 xs.length c3) (.slice a4 bs.length c4) A3 K3.size)
  have K4 := Lib.hid (K3.alloc (.cells #[.int .i64 st, .slice a3 xs.length c3, .slice a4 bs.length c4] 26))
  have R4 := Lib.hid (hR1.grown (World.grownBy_alloc w2 (.cells #[.int .i64 st, .slice a3 xs.length c3, .slice a4 bs.length c4] 26) none) (fun _ e => by cases e))
  have hwf : (Lit.int .i64 st).wf = true := WalkArith.wf_i64 (by omega)
  have HBW0 : w.heap.size + 1 < w2.heap.size := (A3.ltAt 2 (by simp) _ rfl).2
  clear A3 K3 hA hK1 hR1 HA2 HK2
  go_upto_region 2 with fail
  generalize hW4 : w2.alloc (.cells #[.int .i64 st, .slice a3 xs.length c3, .slice a4 bs.length c4] 26) = w4 at *
  generalize hB4 : w2.heap.size = b4 at *
  clear hW4 hB4
  obtain ⟨y0, y1, y2⟩ := cM_at A4.out.head
  go_cut [13] from 5 to 19 (fun t wx => ∃ (c : Bool) (kk : Nat), t = .bool c ∧ (c = true → M.ok ⟨st, xs, bs⟩ = true) ∧ kk ≤ 900000 ∧ Apart w.heap.size [cM b4 st (.slice a3 xs.length c3) (.slice a4 bs.length c4), rI (.slice a3 xs.length c3) xs, rB (.slice a4 bs.length c4) bs, zC (w.heap.size + 1), zC w.heap.size] wx ∧ KeepsBut R w wx ∧ RdAt B R a len cap kk wx)
  case first =>
    go_wp2_with fail
    clear y0 y1 y2
    refine (specMachineOk_any ⟨st, xs, bs⟩ _ _ _ (IsInts.of_owns A4.out.tail.head) (IsBools.of_owns A4.out.tail.tail.head) hwf).mono ?_
    rintro e w5 ⟨rfl, hb5⟩
    have A5 := Lib.hid (A4.out.below hb5)
    have K5 := Lib.hid (K4.out.trans (KeepsBut.of_below hb5))
    have R5 := Lib.hid (R4.out.keeps hb5)
    clear hb5 A4 K4 R4
    cases hok : M.ok ⟨st, xs, bs⟩ with
    | false =>
      go_wp2
      go_meet
      case rel => exact ⟨false, k1, rfl, (fun h => by cases h), by omega, A5.out, K5.out, R5.out⟩
    | true =>
      have HOK := Lib.hid hok
      clear hok
      go_wp2_with fail
      refine (pick_any B R a len cap k1 4 w5 R5.out (by omega) (by omega) (by omega)).mono ?_
      rintro e w6 ⟨v, rfl, v0, v1, hR6, hK6⟩
      have A6 := Lib.hid (A5.out.other hK6.grownBy (fun k e => by cases e; exact hRw))
      have K6 := Lib.hid (K5.out.trans hK6)
      have R6 := Lib.hid hR6
      clear hR6 hK6 v0 v1
      go_wp2
      go_meet
      case rel => exact ⟨v == 0, k1 + 1, (by first | rfl | simp), (fun _ => HOK.out), by omega, A6.out, K6.out, R6.out⟩
  case rest =>
    obtain ⟨c, kk, rfl, hcok, hkk, hA5, hK5, hR5⟩ := hcut
    have A5 := Lib.hid hA5
    have K5 := Lib.hid hK5
    have R5 := Lib.hid hR5
    clear hA5 hK5 hR5 A4 K4 R4 y0 y1 y2
    cases c with
    | true =>
      have hok := hcok rfl
      have HG := M.ok_good hok
      obtain ⟨K0, g1, g2⟩ := least_exD HG
      have HL5 : Hid (∀ L, IsLmZ ⟨st, xs, bs⟩ L → 0 ≤ L.st ∧ L.st ≤ 5 ∧ L.next.length ≤ 15 ∧ L.ends.length ≤ 6) := Lib.hid (fun L hL => by
        obtain ⟨l1, l2⟩ := hL.1 hok
        obtain rfl := l1.one g1
        have hs := M.good_shape (g1.good (by omega))
        have g3 : L.st ≤ st := g2
        omega)
      clear hcok hok HG g1 g2
      go_upto_region 3 with fail
      obtain ⟨y0, y1, y2⟩ := cM_at A5.out.head
      have Ad := Lib.hid (A5.out.same (grown_drew wc none))
      go_region_with (first | (go_at_call 29; refine (specLeastZ ⟨st, xs, bs⟩ _ _ wc.drew (IsInts.of_owns Ad.out.tail.head) (IsBools.of_owns Ad.out.tail.tail.head) hwf).mono ?_; rintro e w7 ⟨L, hL, a5, a6, c5, c6, rfl, hA7, hb7⟩; have A7 : Apart w.heap.size [rI (.slice a5 L.next.length c5) L.next, rB (.slice a6 L.ends.length c6) L.ends, cM b4 st (.slice a3 xs.length c3) (.slice a4 bs.length c4), rI (.slice a3 xs.length c3) xs, rB (.slice a4 bs.length c4) bs, zC (w.heap.size + 1), zC w.heap.size] w7 := apart_join Ad.out hb7 hA7 K5.out.size; have K7 := K5.out.trans ((KeepsBut.refl R wc).trans (KeepsBut.of_below (w := wc) (w' := w7) ((Below.refl _ _).drew.trans hb7))); have TD := Lib.hid (two_done (st' := L.st) K7 A7); obtain ⟨z0, z1, z2⟩ := cM_at (A7.of (cM b4 st (.slice a3 xs.length c3) (.slice a4 bs.length c4)) (by simp)); have HA7 := Lib.hid A7; have u0 : w7.cell? ⟨w.heap.size, 0, none⟩ = some (.int .i64 0) := cellsT_cell (A7.at 6 (by simp)) 0; have u1 : w7.cell? ⟨w.heap.size, 1, none⟩ = some (.slice none 0 0) := cellsT_cell (A7.at 6 (by simp)) 1; have u2 : w7.cell? ⟨w.heap.size, 2, none⟩ = some (.slice none 0 0) := cellsT_cell (A7.at 6 (by simp)) 2; have t0 : w7.cell? ⟨w.heap.size + 1, 0, none⟩ = some (.int .i64 0) := cellsT_cell (A7.at 5 (by simp)) 0; have t1 : w7.cell? ⟨w.heap.size + 1, 1, none⟩ = some (.slice none 0 0) := cellsT_cell (A7.at 5 (by simp)) 1; have t2 : w7.cell? ⟨w.heap.size + 1, 2, none⟩ = some (.slice none 0 0) := cellsT_cell (A7.at 5 (by simp)) 2; have uf := fun i => cellsT_frozen (A7.at 6 (by simp)) i; have tf := fun i => cellsT_frozen (A7.at 5 (by simp)) i; have uf0 := uf 0; have uf1 := uf 1; have uf2 := uf 2; have tf0 := tf 0; have tf1 := tf 1; have tf2 := tf 2; have hbw : w.heap.size + 1 < b4 := HBW0; have hn1 : ¬ (b4 = w.heap.size) := (by omega); have hn2 : ¬ (w.heap.size = b4) := (by omega); have hn3 : ¬ (b4 = w.heap.size + 1) := (by omega); have hn4 : ¬ (w.heap.size + 1 = b4) := (by omega); have HLB := Lib.hid (HL5.out L hL); clear hA7 hb7 hL A7 K7 uf tf))
      all_goals
        obtain ⟨i1, kw, ⟨r1, r2, r3⟩, r4, r5, r6⟩ := TD.out _ rfl
        have HD := Lib.hid (And.intro i1 kw)
        clear i1 kw u0 u1 u2 t0 t1 t2 uf0 uf1 uf2 tf0 tf1 tf2 z0 z1 z2
        go_wp2
        refine bodyPost_ret (v := .tuple #[.agg #[.int .i64 st, .slice a3 xs.length c3, .slice a4 bs.length c4], .agg #[.int .i64 L.st, .slice a5 L.next.length c5, .slice a6 L.ends.length c6]]) ?_ rfl ⟨⟨st, xs, bs⟩, L, a3, a4, a5, a6, c3, c4, c5, c6, rfl, ⟨h0, h1, h2, h3⟩, HLB.out, HD.out.1, HD.out.2⟩
        simp [results, Try.results61, go_sem, r1, r2, r3, r4, r5, r6]
    | false =>
      clear hcok
      go_upto_region 4 with fail
      obtain ⟨y0, y1, y2⟩ := cM_at A5.out.head
      have Ad := Lib.hid (A5.out.same (grown_drew wc none))
      have Rd := Lib.hid (R5.out.drewN 1)
      go_region_with (first | (go_at_call 78; refine (l20Machine_any B R a len cap kk 14 wc.drew (R5.out.keeps (Below.refl _ _).drew) (by omega) (by omega) (by omega)).mono ?_; rintro e w7 ⟨st', xs', bs', nv', ev', rfl, h0', h1', h2', h3', ⟨k3, hk3, hk4, hR7⟩, hK7, hA7⟩; obtain ⟨a5, c5, rfl⟩ := ownsRow_sliceD hA7.head; obtain ⟨a6, c6, rfl⟩ := ownsRow_sliceD hA7.tail.head; have A7 : Apart w.heap.size [rI (.slice a5 xs'.length c5) xs', rB (.slice a6 bs'.length c6) bs', cM b4 st (.slice a3 xs.length c3) (.slice a4 bs.length c4), rI (.slice a3 xs.length c3) xs, rB (.slice a4 bs.length c4) bs, zC (w.heap.size + 1), zC w.heap.size] w7 := apart_joinK Ad.out hK7 hRw hA7 K5.out.size; have K7 := (K5.out.drewN 1).trans hK7; have TD := Lib.hid (two_done (st' := st') K7 A7); obtain ⟨z0, z1, z2⟩ := cM_at (A7.of (cM b4 st (.slice a3 xs.length c3) (.slice a4 bs.length c4)) (by simp)); have HA7 := Lib.hid A7; have u0 : w7.cell? ⟨w.heap.size, 0, none⟩ = some (.int .i64 0) := cellsT_cell (A7.at 6 (by simp)) 0; have u1 : w7.cell? ⟨w.heap.size, 1, none⟩ = some (.slice none 0 0) := cellsT_cell (A7.at 6 (by simp)) 1; have u2 : w7.cell? ⟨w.heap.size, 2, none⟩ = some (.slice none 0 0) := cellsT_cell (A7.at 6 (by simp)) 2; have t0 : w7.cell? ⟨w.heap.size + 1, 0, none⟩ = some (.int .i64 0) := cellsT_cell (A7.at 5 (by simp)) 0; have t1 : w7.cell? ⟨w.heap.size + 1, 1, none⟩ = some (.slice none 0 0) := cellsT_cell (A7.at 5 (by simp)) 1; have t2 : w7.cell? ⟨w.heap.size + 1, 2, none⟩ = some (.slice none 0 0) := cellsT_cell (A7.at 5 (by simp)) 2; have uf := fun i => cellsT_frozen (A7.at 6 (by simp)) i; have tf := fun i => cellsT_frozen (A7.at 5 (by simp)) i; have uf0 := uf 0; have uf1 := uf 1; have uf2 := uf 2; have tf0 := tf 0; have tf1 := tf 1; have tf2 := tf 2; have hbw : w.heap.size + 1 < b4 := HBW0; have hn1 : ¬ (b4 = w.heap.size) := (by omega); have hn2 : ¬ (w.heap.size = b4) := (by omega); have hn3 : ¬ (b4 = w.heap.size + 1) := (by omega); have hn4 : ¬ (w.heap.size + 1 = b4) := (by omega);  clear hA7 hK7 hR7 A7 K7 uf tf))
      all_goals
        obtain ⟨i1, kw, ⟨r1, r2, r3⟩, r4, r5, r6⟩ := TD.out _ rfl
        have HD := Lib.hid (And.intro i1 kw)
        clear i1 kw u0 u1 u2 t0 t1 t2 uf0 uf1 uf2 tf0 tf1 tf2 z0 z1 z2
        go_wp2
        refine bodyPost_ret (v := .tuple #[.agg #[.int .i64 st, .slice a3 xs.length c3, .slice a4 bs.length c4], .agg #[.int .i64 st', .slice a5 xs'.length c5, .slice a6 bs'.length c6]]) ?_ rfl ⟨⟨st, xs, bs⟩, ⟨st', xs', bs'⟩, a3, a4, a5, a6, c3, c4, c5, c6, rfl, ⟨h0, h1, h2, h3⟩, ⟨h0', h1', h2', h3'⟩, HD.out.1, HD.out.2⟩
        simp [results, Try.results61, go_sem, r1, r2, r3, r4, r5, r6]

set_option maxHeartbeats 1600000 in
set_option maxRecDepth 100000 in
theorem drawSameOk_any (a : Option Addr) (len cap : Nat) (zs : List Int) (w : World) (h : IsRow .u8 w a len cap zs) :
    Calls Try.prog 16 #[.slice a len cap] w (MachRes2 w) := by
  have A1 := (Apart.nil w.heap.size w).more (World.grownBy_alloc w _ none) (zC w.heap.size) (heap_alloc_new w _) (Nat.le_refl _) (fun j e => by cases e; simp)
  have A2 := A1.more (World.grownBy_alloc _ (.cells #[.int .i64 0, .slice none 0 0, .slice none 0 0] 26) none) (zC (w.heap.size + 1)) (by have := heap_alloc_new (w.alloc (.cells #[.int .i64 0, .slice none 0 0, .slice none 0 0] 26)) (.cells #[.int .i64 0, .slice none 0 0, .slice none 0 0] 26); rw [World.size_alloc] at this; exact this) (by simp) (fun j e => by cases e; simp)
  have B2 := ((Below.refl w.heap.size w).alloc (Nat.le_refl _) (.cells #[.int .i64 0, .slice none 0 0, .slice none 0 0] 26)).alloc (by simp) (.cells #[.int .i64 0, .slice none 0 0, .slice none 0 0] 26)
  have H0 := h.below B2
  have HO := Lib.hid (l20Open_any a len cap zs _ H0)
  have HA2 := Lib.hid A2
  have HB2 := Lib.hid B2
  have hs2 : ((w.alloc (.cells #[.int .i64 0, .slice none 0 0, .slice none 0 0] 26)).alloc (.cells #[.int .i64 0, .slice none 0 0, .slice none 0 0] 26)).heap.size = w.heap.size + 1 + 1 := by simp
  have HS2 := Lib.hid hs2
  clear H0 h A1 A2 B2 hs2
  go_enter Try.func16, Try.ntmps16
  go_wp2_with fail
  refine HO.out.mono ?_
  clear HO
  generalize (w.alloc (.cells #[.int .i64 0, .slice none 0 0, .slice none 0 0] 26)).alloc (.cells #[.int .i64 0, .slice none 0 0, .slice none 0 0] 26) = w2 at *
  rintro e w3 ⟨a1, len1, cap1, rfl, hR, hb3⟩
  have hRR := hR.hR
  have A3 := Lib.hid (HA2.out.below hb3)
  have B3 := Lib.hid (HB2.out.trans (hb3.mono HB2.out.size))
  clear hb3 HA2 HB2
  go_wp2_with fail
  refine (l20Machines_any _ _ a1 len1 cap1 0 w3 hR (by omega)).mono ?_
  rintro e w4 ⟨m, k, b1, b2, b3, b4, d1, d2, d3, d4, rfl, hm, hk, hA, hK⟩
  have A4 : Apart w.heap.size [rI (.slice b3 k.next.length d3) k.next, rB (.slice b4 k.ends.length d4) k.ends, rI (.slice b1 m.next.length d1) m.next, rB (.slice b2 m.ends.length d2) m.ends, zC (w.heap.size + 1), zC w.heap.size] w4 := by
    have h3 : Apart w.heap.size [zC (w.heap.size + 1), zC w.heap.size] w4 := ⟨fun t ht => ⟨t.st w3 w4 (fun b hb => hK.block b ((A3.out.all t ht).2 b hb).2 (by
      have := HS2.out
      simp only [List.mem_cons, List.not_mem_nil, or_false] at ht
      rcases ht with rfl | rfl <;> (have e := Option.some.inj hb; omega))) hK.size (A3.out.all t ht).1, fun b hb => ⟨((A3.out.all t ht).2 b hb).1, Nat.lt_of_lt_of_le ((A3.out.all t ht).2 b hb).2 hK.size⟩⟩, A3.out.two⟩
    refine ⟨fun t ht => ?_, List.pairwise_append.2 ⟨hA.two, h3.two, fun s hs t ht b e e' => ?_⟩⟩
    · rcases List.mem_append.1 (show t ∈ [rI (.slice b3 k.next.length d3) k.next, rB (.slice b4 k.ends.length d4) k.ends, rI (.slice b1 m.next.length d1) m.next, rB (.slice b2 m.ends.length d2) m.ends] ++ [zC (w.heap.size + 1), zC w.heap.size] from ht) with ht | ht
      · exact ⟨(hA.all t ht).1, fun b e => ⟨Nat.le_trans B3.out.size ((hA.all t ht).2 b e).1, ((hA.all t ht).2 b e).2⟩⟩
      · exact h3.all t ht
    · have := ((A3.out.all t ht).2 b e').2
      have := ((hA.all s hs).2 b e).1
      omega
  have hBW : Below w.heap.size w w4 := B3.out.trans (hK.below (by have := HS2.out; omega) B3.out.size)
  have a5 := A4.at 4 (by simp)
  have a6 := A4.at 5 (by simp)
  have TD : ∀ W, W = (((((w4.setCell ⟨w.heap.size, 0, none⟩ (.int .i64 m.st)).setCell ⟨w.heap.size, 1, none⟩ (.slice b1 m.next.length d1)).setCell ⟨w.heap.size, 2, none⟩ (.slice b2 m.ends.length d2)).setCell ⟨w.heap.size + 1, 0, none⟩ (.int .i64 k.st)).setCell ⟨w.heap.size + 1, 1, none⟩ (.slice b3 k.next.length d3)).setCell ⟨w.heap.size + 1, 2, none⟩ (.slice b4 k.ends.length d4) →
      (Drawn2 m (.slice b1 m.next.length d1) (.slice b2 m.ends.length d2) W ∧ Drawn2 k (.slice b3 k.next.length d3) (.slice b4 k.ends.length d4) W ∧ Below w.heap.size w W) ∧ (W.cell? ⟨w.heap.size, 0, none⟩ = some (.int .i64 m.st) ∧ W.cell? ⟨w.heap.size, 1, none⟩ = some (.slice b1 m.next.length d1) ∧ W.cell? ⟨w.heap.size, 2, none⟩ = some (.slice b2 m.ends.length d2)) ∧ W.cell? ⟨w.heap.size + 1, 0, none⟩ = some (.int .i64 k.st) ∧ W.cell? ⟨w.heap.size + 1, 1, none⟩ = some (.slice b3 k.next.length d3) ∧ W.cell? ⟨w.heap.size + 1, 2, none⟩ = some (.slice b4 k.ends.length d4) := by
    rintro W rfl
    have hs := hBW.size
    have g1 := A4.setAt 5 (by simp) rfl hs 0 (.int .i64 m.st)
    have g2 := g1.setAt 5 (by simp) rfl (by simpa using hs) 1 (.slice b1 m.next.length d1)
    have g3 := g2.setAt 5 (by simp) rfl (by simpa using hs) 2 (.slice b2 m.ends.length d2)
    have g4 := g3.setAt 4 (by simp) rfl (by simpa using hs) 0 (.int .i64 k.st)
    have g5 := g4.setAt 4 (by simp) rfl (by simpa using hs) 1 (.slice b3 k.next.length d3)
    have g6 := g5.setAt 4 (by simp) rfl (by simpa using hs) 2 (.slice b4 k.ends.length d4)
    have e5 := g6.at 5 (by simp)
    have e4 := g6.at 4 (by simp)
    refine ⟨⟨⟨hm.1, hm.2.1, hm.2.2.1, hm.2.2.2, IsInts.of_owns (g6.at 2 (by simp)), IsBools.of_owns (g6.at 3 (by simp))⟩, ⟨hk.1, hk.2.1, hk.2.2.1, hk.2.2.2, IsInts.of_owns (g6.at 0 (by simp)), IsBools.of_owns (g6.at 1 (by simp))⟩, ?_⟩, ⟨cellsT_cell e5 0, cellsT_cell e5 1, cellsT_cell e5 2⟩, cellsT_cell e4 0, cellsT_cell e4 1, cellsT_cell e4 2⟩
    exact (((((hBW.setCell (p := ⟨w.heap.size, 0, none⟩) (Nat.le_refl _) _).setCell (p := ⟨w.heap.size, 1, none⟩) (Nat.le_refl _) _).setCell (p := ⟨w.heap.size, 2, none⟩) (Nat.le_refl _) _).setCell (p := ⟨w.heap.size + 1, 0, none⟩) (Nat.le_succ _) _).setCell (p := ⟨w.heap.size + 1, 1, none⟩) (Nat.le_succ _) _).setCell (p := ⟨w.heap.size + 1, 2, none⟩) (Nat.le_succ _) _
  have HTD := Lib.hid TD
  have u0 : w4.cell? ⟨w.heap.size, 0, none⟩ = some (.int .i64 0) := cellsT_cell a6 0
  have u1 : w4.cell? ⟨w.heap.size, 1, none⟩ = some (.slice none 0 0) := cellsT_cell a6 1
  have u2 : w4.cell? ⟨w.heap.size, 2, none⟩ = some (.slice none 0 0) := cellsT_cell a6 2
  have t0 : w4.cell? ⟨w.heap.size + 1, 0, none⟩ = some (.int .i64 0) := cellsT_cell a5 0
  have t1 : w4.cell? ⟨w.heap.size + 1, 1, none⟩ = some (.slice none 0 0) := cellsT_cell a5 1
  have t2 : w4.cell? ⟨w.heap.size + 1, 2, none⟩ = some (.slice none 0 0) := cellsT_cell a5 2
  have uf0 := cellsT_frozen a6 0
  have uf1 := cellsT_frozen a6 1
  have uf2 := cellsT_frozen a6 2
  have tf0 := cellsT_frozen a5 0
  have tf1 := cellsT_frozen a5 1
  have tf2 := cellsT_frozen a5 2
  clear TD A4 a5 a6 hBW hA hK hR hRR
  go_wp2
  obtain ⟨hD, ⟨r1, r2, r3⟩, r4, r5, r6⟩ := HTD.out _ rfl
  have HD := Lib.hid hD
  clear hD u0 u1 u2 t0 t1 t2 uf0 uf1 uf2 tf0 tf1 tf2
  refine bodyPost_ret (v := .tuple #[.agg #[.int .i64 m.st, .slice b1 m.next.length d1, .slice b2 m.ends.length d2], .agg #[.int .i64 k.st, .slice b3 k.next.length d3, .slice b4 k.ends.length d4]]) ?_ rfl ⟨m, k, b1, b2, b3, b4, d1, d2, d3, d4, rfl, HD.out.1, HD.out.2.1, HD.out.2.2⟩
  simp [results, Try.results16, go_sem, r1, r2, r3, r4, r5, r6]
end Go.Proofs.Ytaghjddndgpljaa
