/- The walk of FnRuleOk: true at every code. No condition. -/
import Derived.Test.YtgpjckmmleagbabDrawnR
import Derived.Test.YtgpjckmmleagbabLawWordOk
import Derived.Deep.RegionWith
namespace Go.Proofs.Ytgpjckmmleagbab
open Go.RowKit

theorem ok_other {kind : Int} {letter l2 thn : ByteArray} {many : Int} (h : (Ru.mk kind letter thn many).ok = true) (h2 : letterOk l2 = true) : (Ru.mk kind l2 thn many).ok = true :=
  Ru.ok_iff.2 ⟨h2, (Ru.ok_iff.1 h).2⟩
theorem rdn_cut : ∀ l, l < 3 → ((⟨#[114, 100, 110]⟩ : ByteArray).extract l (l + 1)).data.toList = [byteOf l]
  | 0, _ => by kernel_rfl
  | 1, _ => by kernel_rfl
  | 2, _ => by kernel_rfl
theorem rdn_ok : ∀ l, l < 3 → letterOk ⟨#[byteOf l]⟩ = true
  | 0, _ => by decide +kernel
  | 1, _ => by decide +kernel
  | 2, _ => by decide +kernel
theorem rdn_at (l : Nat) (hl : l < 3) (w : World) : (Instr.slice 9 (.string ⟨#[114, 100, 110]⟩) (some (.int .i64 (l : Int))) (some (.int .i64 ((l : Int) + 1))) none).run Try.prog w = .ok (.string ⟨#[byteOf l]⟩) w := by
  have hs : (⟨#[114, 100, 110]⟩ : ByteArray).size = 3 := by kernel_rfl
  have h := slice_one ⟨#[114, 100, 110]⟩ l (by omega) w
  have e : (⟨#[114, 100, 110]⟩ : ByteArray).extract l (l + 1) = ⟨#[byteOf l]⟩ := bytes_ext (rdn_cut l hl)
  rw [e] at h; exact h
theorem ru_box (w : World) (kind : Int) (letter thn : ByteArray) (many : Int) (t : TypeId) : ∀ w', Below (w.heap.size + 1) (w.alloc (.cells #[.int .i64 kind, .string letter, .string thn, .int .i64 many] t)) w' →
    w'.cell? ⟨w.heap.size, 0, none⟩ = some (.int .i64 kind) ∧ w'.cell? ⟨w.heap.size, 1, none⟩ = some (.string letter) ∧ w'.cell? ⟨w.heap.size, 2, none⟩ = some (.string thn) ∧ w'.cell? ⟨w.heap.size, 3, none⟩ = some (.int .i64 many) ∧ Below w.heap.size w w' ∧ w.heap.size + 1 ≤ w'.heap.size := fun w' hb =>
  ⟨(hb.cell (p := ⟨w.heap.size, 0, none⟩) (Nat.lt_succ_self _)).trans (World.cell?_alloc_new w _ _ 0), (hb.cell (p := ⟨w.heap.size, 1, none⟩) (Nat.lt_succ_self _)).trans (World.cell?_alloc_new w _ _ 1),
    (hb.cell (p := ⟨w.heap.size, 2, none⟩) (Nat.lt_succ_self _)).trans (World.cell?_alloc_new w _ _ 2), (hb.cell (p := ⟨w.heap.size, 3, none⟩) (Nat.lt_succ_self _)).trans (World.cell?_alloc_new w _ _ 3),
    ((Below.refl w.heap.size w).alloc (Nat.le_refl _) _).trans (hb.mono (Nat.le_succ _)), by have := hb.size; simp only [World.size_alloc] at this; exact this⟩

set_option maxHeartbeats 1600000 in
set_option maxRecDepth 100000 in
theorem lawRuleOk_walk {w : World} (a : Option Addr) (len cap : Nat) (zs : List Int) (h : IsRow .u8 w a len cap zs) :
    Calls Try.prog 11 #[.slice a len cap] w fun e w' => e = .returned (.bool true) ∧ Below w.heap.size w w' := by
  have HD := Lib.hid (drawRuleOk_any a len cap zs w h)
  have hl : len ≤ maxLen := by
    rcases h with ⟨_, rfl, _⟩ | ⟨x, _, h1, h2, _⟩
    · exact Nat.zero_le _
    · exact Nat.le_trans h1 h2
  unfold maxLen at hl
  clear h
  by_cases hbig : 1048576 < len
  · go_enter Try.func11, Try.ntmps11
    go_wp2_with fail
    go_ret
    exact ⟨rfl, Below.refl _ _⟩
  · go_enter Try.func11, Try.ntmps11
    go_wp2_with fail
    refine HD.out.mono ?_
    clear HD
    rintro e w1 ⟨kind, letter, thn, many, rfl, p1, p2, p3, p4, p5, p6, hb⟩
    have hlm : letter.size ≤ maxLen := by rw [p3]; decide
    have htm : thn.size ≤ maxLen := Nat.le_trans p4 (by decide)
    have RB := Lib.hid (ru_box w1 kind letter thn many 46)
    have b0 := Lib.hid (Below.refl (w1.heap.size + 1) (w1.alloc (.cells #[.int .i64 kind, .string letter, .string thn, .int .i64 many] 46)))
    have QB := Lib.hid hb
    clear hb
    obtain ⟨y0, y1, y2, y3, -, -⟩ := RB.out _ b0.out
    go_wp2_with fail
    clear y0 y1 y2 y3
    refine (implRuleOk_any kind letter thn many _ hlm htm).mono ?_
    rintro e w2 ⟨rfl, hb2⟩
    simp only [World.size_alloc] at hb2
    obtain ⟨y0, y1, y2, y3, -, s2⟩ := RB.out _ hb2
    have B2 := Lib.hid hb2
    clear hb2
    go_wp2_with fail
    clear y0 y1 y2 y3
    refine (specRuleOk_any kind letter thn many _).mono ?_
    rintro e w3 ⟨rfl, hb3⟩
    have B3 := Lib.hid (B2.out.trans (hb3.mono s2))
    clear hb3 s2 B2
    have hne : ((Ru.mk kind letter thn many).ok != (Ru.mk kind letter thn many).ok) = false := by simp
    obtain ⟨y0, y1, y2, y3, -, -⟩ := RB.out _ B3.out
    go_wp2_with fail
    clear y0 y1 y2 y3 hne
    have HOKO := Lib.hid (fun l (hl : l < 3) (h : (Ru.mk kind letter thn many).ok = true) => ok_other h (rdn_ok l hl))
    have e1 : (Ru.mk 0 ⟨#[114]⟩ ⟨#[]⟩ 0).ok = true := by decide +kernel
    have e2 : (Ru.mk 2 ⟨#[114]⟩ ⟨#[114]⟩ 0).ok = true := by decide +kernel
    have E12 := Lib.hid (And.intro e1 e2)
    clear e1 e2
    generalize hokb : (Ru.mk kind letter thn many).ok = okb at *
    have HKB := Lib.hid hokb
    clear hokb
    go_loopw [5] (fun i wr => ∃ k : Nat, k ≤ 3 ∧ i = .int .i64 (k : Int) ∧ Below (w1.heap.size + 1) (w1.alloc (.cells #[.int .i64 kind, .string letter, .string thn, .int .i64 many] 46)) wr) (fun i _ => 3 - (intOf i).toNat)
    case atStart => exact ⟨0, by omega, rfl, B3.out⟩
    case round =>
      obtain ⟨k, hk, rfl, hb⟩ := hrel
      have BK := Lib.hid hb
      clear hb
      obtain ⟨y0, y1, y2, y3, qk, sk⟩ := RB.out _ BK.out
      have QK := Lib.hid qk
      have SK := Lib.hid sk
      clear qk sk
      by_cases hgo : k < 3 ∧ okb = true
      · obtain ⟨hk3, rfl⟩ := hgo
        have hsl := fun W => rdn_at k hk3 W
        have hcall : ∀ W, Calls Try.prog 45 #[.agg #[.int .i64 kind, .string ⟨#[byteOf k]⟩, .string thn, .int .i64 many]] W fun e w' => e = .returned (.bool true) ∧ Below W.heap.size W w' := fun W => by
          have h := implRuleOk_any kind ⟨#[byteOf k]⟩ thn many W (by show 1 ≤ maxLen; decide) htm
          rw [HOKO.out k hk3 rfl] at h
          exact h
        have HCALL := Lib.hid hcall
        clear hcall
        have hq1 : IntKind.i64.wrap ((k : Int) + 1) = (k : Int) + 1 := IntWalk.i64_in _ (by omega)
        go_wp2_with fail
        go_region_with (go_at_call 45; refine (HCALL.out _).mono ?_; rintro e w4 ⟨rfl, hb4⟩)
        all_goals
          have B4 := Lib.hid (BK.out.drew.trans (hb4.mono SK.out))
          clear hb4 hsl hq1 y0 y1 y2 y3
          go_wp2_with fail
          go_roundw
          case rel => exact ⟨k + 1, hk3, by go_num, B4.out⟩
          case measure => simp [intOf]; omega
      · have hstop : (decide ((k : Int) < 3) && okb) = false := by
          cases okb with
          | false => simp
          | true => simp at hgo; simp; omega
        by_cases hk3 : (k : Int) < 3
        · have hof : okb = false := by cases okb with
            | false => rfl
            | true => exact absurd ⟨by omega, rfl⟩ hgo
          subst hof
          clear hgo hstop y0 y1 y2 y3
          go_wp2_with fail
          refine (implRuleOk_any 0 ⟨#[114]⟩ ⟨#[]⟩ 0 _ (by decide) (by decide)).mono ?_
          rintro e w5 ⟨rfl, hb5⟩
          rw [E12.out.1]
          go_wp2_with fail
          refine (implRuleOk_any 2 ⟨#[114]⟩ ⟨#[114]⟩ 0 _ (by decide) (by decide)).mono ?_
          rintro e w6 ⟨rfl, hb6⟩
          rw [E12.out.2]
          go_wp2_with (go_at_call 20; refine (alive_any _).mono ?_; rintro e w' ⟨rfl, rfl⟩)
          go_ret
          exact ⟨rfl, QB.out.trans ((QK.out.trans ((hb5.trans (hb6.mono hb5.size)).mono QK.out.size)).mono QB.out.size)⟩
        · clear hgo hstop y0 y1 y2 y3
          go_wp2_with fail
          refine (implRuleOk_any 0 ⟨#[114]⟩ ⟨#[]⟩ 0 _ (by decide) (by decide)).mono ?_
          rintro e w5 ⟨rfl, hb5⟩
          rw [E12.out.1]
          go_wp2_with fail
          refine (implRuleOk_any 2 ⟨#[114]⟩ ⟨#[114]⟩ 0 _ (by decide) (by decide)).mono ?_
          rintro e w6 ⟨rfl, hb6⟩
          rw [E12.out.2]
          go_wp2_with (go_at_call 20; refine (alive_any _).mono ?_; rintro e w' ⟨rfl, rfl⟩)
          go_ret
          exact ⟨rfl, QB.out.trans ((QK.out.trans ((hb5.trans (hb6.mono hb5.size)).mono QK.out.size)).mono QB.out.size)⟩
end Go.Proofs.Ytgpjckmmleagbab
