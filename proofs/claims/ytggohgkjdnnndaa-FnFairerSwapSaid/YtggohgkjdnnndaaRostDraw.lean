/- What the laws of chapter 10 draw: rosters, needs, places. No condition. -/
import Derived.Test.YtggohgkjdnnndaaOwRD
import Derived.Test.YtggohgkjdnnndaaRostEx
namespace Go.Proofs.Ytggohgkjdnnndaa
open Go.RowKit

/-- strings as they are drawn: few short ones -/
def SmallB (b : Nat) (xs : List ByteArray) : Prop := xs.length ≤ 5 ∧ ∀ s ∈ xs, s.size ≤ b
abbrev SmallR (xs : List ByteArray) : Prop := SmallB 10 xs
theorem SmallB.more {b c : Nat} {xs : List ByteArray} (h : SmallB b xs) (hbc : b ≤ c) : SmallB c xs := ⟨h.1, fun s hs => Nat.le_trans (h.2 s hs) hbc⟩
theorem SmallB.short {xs : List ByteArray} (h : SmallR xs) : Short xs := fun s hs => by have := h.2 s hs; unfold maxLen; omega
theorem owns_capR {w : World} {base g n c : Nat} {e : TypeId} {xs : List Value} (h : w.ownsRow base e 1 (.slice (some ⟨g, 0, none⟩) n c) n xs) : n ≤ c ∧ c ≤ 9223372036854775807 := by
  rcases h.2 with ⟨h0, _⟩ | ⟨g'', cap'', cur, hv, _, _, h1, h2, _⟩
  · cases h0
  · cases hv
    unfold maxLen at h2
    exact ⟨h1, h2⟩
/-- what drawing a roster leaves -/
def RostDrawn (B R : Nat) (a : Option Addr) (len cap k : Nat) (w : World) (e : Ending) (w' : World) : Prop :=
  ∃ (xs : List ByteArray) (v : Value), e = .returned v ∧ SmallR xs ∧ w'.ownsRow w.heap.size 9 1 v xs.length (xs.map Value.string) ∧ ∃ k', k ≤ k' ∧ k' ≤ k + 40 ∧ RdAt B R a len cap k' w' ∧ KeepsBut R w w'
theorem owns_keepsR {w w' : World} {base R : Nat} {e : TypeId} {v : Value} {n : Nat} {xs : List Value} (h : w.ownsRow base e 1 v n xs) (hk : KeepsBut R w w') (hR : R < base) : w'.ownsRow base e 1 v n xs := by
  refine ⟨h.1, h.2.imp id ?_⟩
  rintro ⟨g, cap, cur, rfl, h1, h2, h3⟩
  exact ⟨g, cap, cur, rfl, h1, (hk.block g (World.ownsRow.lt h g rfl).2 (by omega)).trans h2, h3⟩
theorem SmallB.snoc {b : Nat} {xs : List ByteArray} {s : ByteArray} (h : SmallB b xs) (hl : xs.length ≤ 4) (hs : s.size ≤ b) : SmallB b (xs ++ [s]) :=
  ⟨by rw [List.length_append]; simp; omega, fun x hx => by
    rcases List.mem_append.1 hx with hx | hx
    · exact h.2 x hx
    · rw [List.mem_singleton.1 hx]; exact hs⟩
theorem SmallB.set {b : Nat} {xs : List ByteArray} {s : ByteArray} (h : SmallB b xs) (hs : s.size ≤ b) (j : Nat) : SmallB b (xs.set j s) :=
  ⟨by rw [List.length_set]; exact h.1, fun x hx => by
    rcases List.mem_or_eq_of_mem_set hx with hx | rfl
    · exact h.2 x hx
    · exact hs⟩

set_option maxHeartbeats 6400000 in
theorem l20Roster_any (B R : Nat) (a : Option Addr) (len cap k : Nat) (n : Int) (w : World) (H : RdAt B R a len cap k w) (hk : k ≤ 900000) (hn : 1 ≤ n) (hn2 : n ≤ 1000) :
    Calls Try.prog 44 #[.pointer (some ⟨R, 0, none⟩), .int .i64 n] w (RostDrawn B R a len cap k w) := by
  have HRR := Lib.hid H.hR
  have O0 := Lib.hid ((OwR.start H).lit #[] 9 0 1 rfl (Nat.zero_le _))
  clear H
  have HII := Lib.hid (info_parts infoStrC)
  go_enter Try.func44, Try.ntmps44
  go_wp2_with fail
  refine (pick_any B R a len cap k 7 _ O0.out.rd (by omega) (by omega) (by omega)).mono ?_
  rintro e w1 ⟨dy, rfl, h10, h11, hR1, hK1⟩
  have h11' := h11 (by omega)
  have O1 := Lib.hid (O0.out.picked hR1 hK1)
  clear hR1 hK1 h11 O0
  obtain ⟨dn, hdn⟩ := Int.eq_ofNat_of_zero_le h10
  have HDN := Lib.hid hdn
  clear hdn
  go_wp2_with fail
  refine (pick_any B R a len cap (k + 1) 4 _ O1.out.rd (by omega) (by omega) (by omega)).mono ?_
  rintro e w2 ⟨v2, rfl, h20, h21, hR2, hK2⟩
  have h21' := h21 (by omega)
  have O2 := Lib.hid (O1.out.picked hR2 hK2)
  clear hR2 hK2 h21 O1
  obtain ⟨m0, rfl⟩ := Int.eq_ofNat_of_zero_le h20
  go_wp2_with fail
  go_loopw [5, 7, 8, 9] (fun s i _ _ wr => ∃ (m : Nat) (ys : List ByteArray) (g cn cp k' : Nat), i = .int .i64 m ∧ s = .slice (some ⟨g, 0, none⟩) cn cp ∧ cn ≤ cp ∧ cp ≤ 9223372036854775807 ∧ cn + m ≤ 4 ∧ Hid (1 ≤ cn + m) ∧ Hid (ys.length = cn) ∧ Hid (SmallB 6 ys) ∧ k + 2 ≤ k' ∧ k' + 6 * m ≤ k + 26 ∧ Hid (OwR B R a len cap w k' [rowT 9 1 (.slice (some ⟨g, 0, none⟩) cn cp) cn (ys.map Value.string)] wr)) (fun _ i _ _ _ => (intOf i).toNat)
  case atStart => exact ⟨1 + m0, [], w.heap.size, 0, 0, k + 2, by go_num, rfl, Nat.le_refl _, by omega, by omega, Lib.hid (by omega), Lib.hid rfl, Lib.hid ⟨Nat.zero_le _, fun x h => by cases h⟩, Nat.le_refl _, by omega, O2⟩
  case round =>
    obtain ⟨m, ys, g, cn, cp, k', rfl, rfl, hcp1, hcp2, hm, HMN, HY, HSM, hk1, hk2, HO⟩ := hrel
    clear O2
    obtain ⟨wo, rfl⟩ : ∃ wo : World, wo = wr := ⟨_, rfl⟩
    by_cases hm0 : 0 < m
    · go_wp2_with fail
      go_loopw [8, 9] (fun s i wq => ∃ (j : Nat) (jv : Int) (o : ByteArray) (k2 : Nat), i = .int .i64 jv ∧ s = .string o ∧ Hid (jv = (j : Int)) ∧ 0 ≤ jv ∧ jv ≤ dy ∧ (o.size : Int) = jv ∧ k2 = k' + j ∧ Hid (OwR B R a len cap w k2 [rowT 9 1 (.slice (some ⟨g, 0, none⟩) cn cp) cn (ys.map Value.string)] wq)) (fun _ i _ => (dy - intOf i).toNat)
      case atStart => exact ⟨0, 0, ⟨#[]⟩, k', rfl, rfl, Lib.hid rfl, by omega, by omega, rfl, rfl, HO⟩
      case round =>
        obtain ⟨j, jv, o, k2, rfl, rfl, HJ, hj0, hjd, hosz, hk2e, HQ⟩ := hrel
        have hj6 : j ≤ 6 := by have := HJ.out; omega
        have HOS := Lib.hid hosz
        have ho6 : o.size ≤ 6 := by omega
        clear hosz
        by_cases hlt : jv < dy
        · go_wp2_with fail
          have Q1 := Lib.hid (HQ.out.alloc (.cells #[.string ⟨#[114]⟩, .string ⟨#[100]⟩, .string ⟨#[110]⟩] 9))
          refine (pick_any B R a len cap k2 3 _ Q1.out.rd (by omega) (by omega) (by omega)).mono ?_
          rintro e w3 ⟨v3, rfl, hv30, hv31, hR4, hK3⟩
          obtain ⟨jj, s3, rfl, hj3, hs3, hcell⟩ := three_cells _ _ _ _ _ _ R HQ.out.rd.hR hK3 v3 hv30 (hv31 (by omega))
          have hs3' : s3.size = 1 := by rcases hs3 with rfl | rfl | rfl <;> rfl
          have Q2 := Lib.hid (Q1.out.picked hR4 hK3)
          have HS3 := Lib.hid hs3'
          have hs31 : s3.size ≤ 1 := by omega
          clear hv31 hs3 hR4 hK3 hs3'
          go_wp2_with fail
          go_roundw
          case rel => exact ⟨j + 1, jv + 1, o ++ s3, k2 + 1, rfl, rfl, Lib.hid (by have := HJ.out; omega), by omega, by omega, by rw [ByteArray.size_append]; have := HS3.out; have := HOS.out; omega, by omega, Q2⟩
          case measure => simp [intOf]; omega
        · have ho7 : o.size ≤ 6 := by omega
          obtain ⟨i0, hi0, hz0, hz1, hz2⟩ := HII.out
          have HI0 := Lib.hid hi0
          have HZ := Lib.hid (And.intro hz0 (And.intro hz1 hz2))
          clear hi0 hz0 hz1 hz2
          go_wp2_with (at_builtin; refine wpList_append_lies _ rfl _ _ 23 rfl 0 9 i0 (.string ⟨#[]⟩) 1 16 Try.underlying23 HI0.out HZ.out.1 HZ.out.2.1 HZ.out.2.2 rfl (by decide) (.slice (some ⟨g, 0, none⟩) cn cp) cn (ys.map Value.string) rfl ((HQ.out.alloc _).row 0 (by simp) rfl) ⟨wr.heap.size, 0, none⟩ 1 1 [.string o] rfl rfl (World.news_of_block (heap_alloc_new wr _)) (by simp [Value.oneCell']) (by omega) (by unfold maxLen; omega) (by omega) (Nat.zero_le _) _ rfl ?_; intro g3 c3 w3 hown hgrow hat hlt; have O3 := Lib.hid ((HQ.out.alloc (.cells #[.string o] 9)).turn (i := 0) (by simp) rfl hgrow hown hat); have hcb := Lib.hid (owns_capR hown); clear hown hgrow hat hlt)
          go_roundw
          case rel =>
            refine ⟨m - 1, ys ++ [o], g3, cn + 1, c3, k2, by go_num, rfl, hcb.out.1, hcb.out.2, by omega, Lib.hid (by omega), Lib.hid (by rw [List.length_append, HY.out]; rfl), Lib.hid (HSM.out.snoc (by have := HY.out; omega) ho7), by omega, by omega, Lib.hid ?_⟩
            have := O3.out
            simpa using this
          case measure => simp [intOf]; omega
    · have hm0' : m = 0 := by omega
      subst hm0'
      have hcn1 : 0 < cn := by have := HMN.out; omega
      go_wp2_with fail
      refine (odd_any B R a len cap k' n _ HO.out.rd (by omega) hn (by omega)).mono ?_
      rintro e w3 ⟨b, rfl, hR2, hK2⟩
      have O3 := Lib.hid (HO.out.picked hR2 hK2)
      clear hR2 hK2 HO
      cases b with
      | false =>
        go_wp2
        go_ret
        refine ⟨ys, _, rfl, HSM.out.more (by omega), ?_, k' + 1, by omega, by omega, O3.out.rd, O3.out.keep⟩
        rw [HY.out]
        exact ownsRow_base (O3.out.row 0 (by simp) rfl) (fun j e => ((O3.out.ap.ltAt 0 (by simp)) j e).1)
      | true =>
        go_wp2_with fail
        refine (pick_any B R a len cap (k' + 1) 3 _ O3.out.rd (by omega) (by omega) (by omega)).mono ?_
        rintro e w4 ⟨v7, rfl, h70, h71, hR7, hK7⟩
        have h71' := h71 (by omega)
        have O4 := Lib.hid (O3.out.picked hR7 hK7)
        clear h71 hR7 hK7 O3
        have hv : v7 = 0 ∨ v7 = 1 ∨ v7 = 2 := by omega
        rcases hv with rfl | rfl | rfl
        · have O5 := Lib.hid (O4.out.alloc (.cells #[] 9))
          go_wp2
          go_ret
          exact ⟨[], _, rfl, ⟨Nat.zero_le _, fun x h => by cases h⟩, World.ownsRow_lit w4 #[] 0 O4.out.size (Nat.zero_le _) rfl, k' + 2, by omega, by omega, O5.out.rd, O5.out.keep⟩
        · obtain ⟨i0, hi0, hz0, hz1, hz2⟩ := HII.out
          have HI0 := Lib.hid hi0
          have HZ := Lib.hid (And.intro hz0 (And.intro hz1 hz2))
          clear hi0 hz0 hz1 hz2
          go_wp2_with (at_builtin; refine wpList_append_lies _ rfl _ _ 23 rfl 0 9 i0 (.string ⟨#[]⟩) 1 16 Try.underlying23 HI0.out HZ.out.1 HZ.out.2.1 HZ.out.2.2 rfl (by decide) (.slice (some ⟨g, 0, none⟩) cn cp) cn (ys.map Value.string) rfl ((O4.out.alloc _).row 0 (by simp) rfl) ⟨w4.heap.size, 0, none⟩ 1 1 [.string ⟨#[114, 100, 110, 114, 100, 110, 114, 100, 110]⟩] rfl rfl (World.news_of_block (heap_alloc_new w4 _)) (by simp [Value.oneCell']) (by omega) (by unfold maxLen; omega) (by omega) (Nat.zero_le _) _ rfl ?_; intro g3 c3 w5 hown hgrow hat hlt; have O5 := Lib.hid ((O4.out.alloc (.cells #[.string ⟨#[114, 100, 110, 114, 100, 110, 114, 100, 110]⟩] 9)).turn (i := 0) (by simp) rfl hgrow hown hat); clear hown hgrow hat hlt)
          go_ret
          have hrow := ownsRow_base (B := w.heap.size) (O5.out.row 0 (by simp) rfl) (fun j e => ((O5.out.ap.ltAt 0 (by simp)) j e).1)
          refine ⟨ys ++ [⟨#[114, 100, 110, 114, 100, 110, 114, 100, 110]⟩], _, rfl, (HSM.out.more (by omega : 6 ≤ 10)).snoc (by have := HY.out; omega) (by decide), ?_, k' + 2, by omega, by omega, O5.out.rd, O5.out.keep⟩
          have e1 : (ys ++ [(⟨#[114, 100, 110, 114, 100, 110, 114, 100, 110]⟩ : ByteArray)]).length = cn + 1 := by rw [List.length_append, HY.out]; rfl
          rw [e1]
          simpa using hrow
        · have hr4 := O4.out.row 0 (by simp) rfl
          have hy0 : 0 < ys.length := by have := HY.out; omega
          have hc4 : w4.cell? ⟨g, 0, none⟩ = some (.string ys[0]) := by rw [hr4.cellAt 0 (by omega)]; simp [hy0]
          have hf4 := hr4.frozenAt 0
          have hs0 : ys[0].size ≤ 6 := HSM.out.2 _ (List.getElem_mem hy0)
          have O5 := Lib.hid (O4.out.store (i := 0) (by simp) rfl 0 (.string (⟨#[120]⟩ ++ ys[0])))
          have HSS : Hid (SmallR (ys.set 0 (⟨#[120]⟩ ++ ys[0]))) := Lib.hid ((HSM.out.more (by omega : 6 ≤ 10)).set (by rw [ByteArray.size_append]; have : (⟨#[120]⟩ : ByteArray).size = 1 := rfl; omega) 0)
          have hz1 : (⟨#[120]⟩ : ByteArray).size ≤ 1 := Nat.le_refl 1
          clear hr4
          generalize ys[0] = s0 at *
          go_wp2
          go_ret
          have hrow := ownsRow_base (B := w.heap.size) (O5.out.row 0 (by simp) rfl) (fun j e => ((O5.out.ap.ltAt 0 (by simp)) j e).1)
          refine ⟨ys.set 0 (⟨#[120]⟩ ++ s0), _, rfl, HSS.out, ?_, k' + 2, by omega, by omega, O5.out.rd, O5.out.keep⟩
          rw [List.length_set, HY.out, List.map_set]
          exact hrow
end Go.Proofs.Ytggohgkjdnnndaa
