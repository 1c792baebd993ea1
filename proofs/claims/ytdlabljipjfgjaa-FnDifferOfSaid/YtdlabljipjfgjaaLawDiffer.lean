/- The walk of FnDifferOf: true at every code. No condition. -/
import Derived.Test.YtdlabljipjfgjaaLawCount
namespace Go.Proofs.Ytdlabljipjfgjaa
open Go.RowKit

theorem cut_size (s : ByteArray) (k : Nat) : (s.extract 0 k).size ≤ s.size := by
  rw [ByteArray.size_extract]; exact Nat.le_trans (Nat.sub_le _ _) (Nat.min_le_right _ _)
theorem cut_size' (s : ByteArray) (k : Nat) (h : k ≤ s.size) : (s.extract 0 k).size = k := by
  rw [ByteArray.size_extract, Nat.min_eq_left h, Nat.sub_zero]

set_option maxHeartbeats 800000 in
theorem drawDifferOf_any (a : Option Addr) (len cap : Nat) (zs : List Int) (w : World) (h : IsRow .u8 w a len cap zs) :
    Calls Try.prog 34 #[.slice a len cap] w (PairPost w) := by
  have HO := Lib.hid (l20Open_any a len cap zs w h)
  clear h
  go_enter Try.func34, Try.ntmps34
  go_wp2_with fail
  refine HO.out.mono ?_
  clear HO
  rintro e w1 ⟨a1, len1, cap1, rfl, hR, hb⟩
  go_wp2_with fail
  refine (l20Word_any _ _ _ _ _ 0 12 _ hR (by omega) (by omega) (by omega)).mono ?_
  rintro e w2 ⟨s, rfl, hs, k2, hk1, hk2, hR2, hK2⟩
  go_wp2_with fail
  refine (l20Word_any _ _ _ _ _ k2 12 _ hR2 (by omega) (by omega) (by omega)).mono ?_
  rintro e w3 ⟨t, rfl, ht, k3, hk3, hk4, hR3, hK3⟩
  have hK := hK2.trans hK3
  clear hK2 hK3 hR2 hR
  by_cases hlt : s.size < t.size
  · go_wp2_with fail
    refine (pick_any _ _ _ _ _ k3 9 _ hR3 (by omega) (by omega) (by omega)).mono ?_
    rintro e w4 ⟨v, rfl, hv0, hv1, hR4, hK4⟩
    clear hv1
    have hz := cut_size' t s.size (by omega)
    have hKK := hK.trans hK4
    by_cases hv : 0 < v
    · go_wp2_with fail
      go_ret2
      exact ⟨s, t.extract 0 s.size, rfl, hs, by omega, hb.trans (hKK.below (Nat.le_refl _) hb.size)⟩
    · clear hz
      go_wp2_with fail
      go_ret2
      exact ⟨s, t, rfl, hs, ht, hb.trans (hKK.below (Nat.le_refl _) hb.size)⟩
  · by_cases hgt : t.size < s.size
    · go_wp2_with fail
      refine (pick_any _ _ _ _ _ k3 9 _ hR3 (by omega) (by omega) (by omega)).mono ?_
      rintro e w4 ⟨v, rfl, hv0, hv1, hR4, hK4⟩
      clear hv1
      have hz := Lib.hid (cut_size s t.size)
      have hKK := hK.trans hK4
      by_cases hv : 0 < v
      · go_wp2_with fail
        go_ret2
        exact ⟨s.extract 0 t.size, t, rfl, Nat.le_trans hz.out hs, ht, hb.trans (hKK.below (Nat.le_refl _) hb.size)⟩
      · go_wp2_with fail
        go_ret2
        exact ⟨s, t, rfl, hs, ht, hb.trans (hKK.below (Nat.le_refl _) hb.size)⟩
    · go_wp2_with fail
      go_ret2
      exact ⟨s, t, rfl, hs, ht, hb.trans (hK.below (Nat.le_refl _) hb.size)⟩

/-- how long a text in a slot is -/
def strLen : Value → Nat
  | .string u => u.size
  | _ => 0

theorem lawDiffer_tail (s t c : ByteArray) (n : Int) (hn : n = differOf s t) (h0 : 0 ≤ n) : differOf s c < 0 ∨ differOf c t < 0 ∨ n ≤ differOf s c + differOf c t := by
  subst hn
  by_cases h1 : 0 ≤ differOf s c
  · by_cases h2 : 0 ≤ differOf c t
    · exact .inr (.inr (differOf_tri s t c h0 h1 h2))
    · exact .inr (.inl (by omega))
  · exact .inl (by omega)

set_option maxHeartbeats 1600000 in
set_option maxRecDepth 100000 in
theorem lawDifferOf_walk {w : World} (a : Option Addr) (len cap : Nat) (zs : List Int) (h : IsRow .u8 w a len cap zs) (a2 : Option Addr) (len2 cap2 : Nat) (zs2 : List Int) (h2 : IsRow .u8 w a2 len2 cap2 zs2) :
    Calls Try.prog 10 #[.slice a len cap, .slice a2 len2 cap2] w fun e w' => e = .returned (.bool true) ∧ Below w.heap.size w w' := by
  have HD := Lib.hid (drawDifferOf_any a len cap zs w h)
  have hl := row_len h
  have hl2 := row_len h2
  have HR2 := Lib.hid h2
  clear h h2
  by_cases hbig : 1048576 < len
  · go_enter Try.func10, Try.ntmps10
    go_wp2_with fail
    go_ret
    exact ⟨rfl, Below.refl _ _⟩
  by_cases hbig2 : 1048576 < len2
  · go_enter Try.func10, Try.ntmps10
    go_wp2_with fail
    go_ret
    exact ⟨rfl, Below.refl _ _⟩
  go_enter Try.func10, Try.ntmps10
  go_wp2_with fail
  refine HD.out.mono ?_
  clear HD
  rintro e w1 ⟨s, t, rfl, hs, ht, hb⟩
  go_wp2_with fail
  refine (implDifferOf_any s t _ (small_max hs (by omega)) (small_max ht (by omega))).mono ?_
  rintro e w2 ⟨rfl, hb2⟩
  go_wp2_with fail
  refine (specDifferOf_any s t _ (small_max hs (by omega)) (small_max ht (by omega))).mono ?_
  rintro e w3 ⟨rfl, hb3⟩
  have hbb := hb.trans ((hb2.mono hb.size).trans (hb3.mono (Nat.le_trans hb.size hb2.size)))
  clear hb hb2 hb3
  obtain ⟨hn1, hn2⟩ := differOf_bd s t
  by_cases hn0 : differOf s t < 0
  · have he : (differOf s t == -1) = true := by rw [beq_iff_eq]; omega
    go_wp2_with (go_at_call 14; refine (alive_any _).mono ?_; rintro e w' ⟨rfl, rfl⟩)
    go_ret
    exact ⟨rfl, hbb⟩
  · have HC := Lib.hid (differOf_comm t s)
    have hnn : 0 ≤ differOf s t := by omega
    have HZ := Lib.hid (differOf_zero hnn)
    have HT := Lib.hid (fun c => lawDiffer_tail s t c (differOf s t) rfl hnn)
    have HZB : Hid ((differOf s t == 0) = (s.toList == t.toList)) := by
      have : (differOf s t == 0) = (s.toList == t.toList) := by
        rw [Bool.eq_iff_iff, beq_iff_eq, beq_iff_eq, HZ.out, ByteArray.toList_eq, ByteArray.toList_eq]
        exact ⟨fun e => by rw [e], fun e => bytes_ext e⟩
      exact Lib.hid this
    clear hn0
    generalize hN : differOf s t = N at *
    clear hN
    go_wp2_with fail
    have hrow2 : IsRow .u8 w3 a2 len2 cap2 zs2 := by
      rcases HR2.out with h | ⟨x, hx, h1, h2, h3, h4, h5⟩
      · exact .inl h
      · refine .inr ⟨x, hx, h1, h2, h3, fun i hi => ?_, h5⟩
        have hc := h4 i hi
        rw [hbb.cell (World.block_lt_of_cell? w (x.add i) hc)]
        exact hc
    refine (drawBackWord_any a2 len2 cap2 zs2 _ hrow2).mono ?_
    rintro e w4 ⟨c0, rfl, hc0, hb4⟩
    have hbb4 := hbb.trans (hb4.mono hbb.size)
    clear hbb hb4 hrow2 HR2
    go_wp2_with fail
    go_loop [8] (fun o => ∃ c : ByteArray, o = .string c ∧ c.size ≤ 24) (fun o => s.size - strLen o)
    case atStart => exact ⟨c0, rfl, by omega⟩
    case round =>
      obtain ⟨c, rfl, hc⟩ := hrel
      by_cases hlt : c.size < s.size
      · by_cases hw : wordOk c = true
        · go_wp2_with (go_at_call 13; refine (specWordOk_any _ _ (small_max hc (by omega))).mono ?_; rintro e w' ⟨rfl, rfl⟩)
          go_round
          case rel => exact ⟨c ++ ⟨#[100]⟩, rfl, by rw [ByteArray.size_append]; show c.size + 1 ≤ 24; omega⟩
          case measure =>
            have e : (c ++ (⟨#[100]⟩ : ByteArray)).size = c.size + 1 := by rw [ByteArray.size_append]; rfl
            simp [strLen, e]; omega
        · have hw' : wordOk c = false := by simpa using hw
          clear hw
          go_wp2_with (go_at_call 13; refine (specWordOk_any _ _ (small_max hc (by omega))).mono ?_; rintro e w' ⟨rfl, rfl⟩)
          refine (implDifferOf_any s c _ (small_max hs (by omega)) (small_max hc (by omega))).mono ?_
          rintro e w5 ⟨rfl, hb5⟩
          go_wp2_with fail
          refine (implDifferOf_any c t _ (small_max hc (by omega)) (small_max ht (by omega))).mono ?_
          rintro e w6 ⟨rfl, hb6⟩
          have htri := HT.out c
          obtain ⟨hx1, hx2⟩ := differOf_bd s c
          obtain ⟨hy1, hy2⟩ := differOf_bd c t
          have hy3 : (c.size : Int) ≤ 24 := by have := hc; omega
          have q6 := hbb4.trans ((hb5.mono hbb4.size).trans (hb6.mono (Nat.le_trans hbb4.size hb5.size)))
          clear hb5 hb6 hbb4 HT
          generalize differOf s c = x at *
          generalize differOf c t = y at *
          have hbq := HZB.out
          rcases htri with hx | hy | hxy
          · have hx' : x < 0 := hx
            go_wp2_with fail
            refine (implDifferOf_any t s _ (small_max ht (by omega)) (small_max hs (by omega))).mono ?_
            rintro e w7 ⟨rfl, hb7⟩
            rw [HC.out]
            go_wp2_with (go_at_call 14; refine (alive_any _).mono ?_; rintro e w' ⟨rfl, rfl⟩)
            go_ret
            exact ⟨rfl, q6.trans (hb7.mono q6.size)⟩
          · have hy' : y < 0 := hy
            by_cases hx : x < 0
            · go_wp2_with fail
              refine (implDifferOf_any t s _ (small_max ht (by omega)) (small_max hs (by omega))).mono ?_
              rintro e w7 ⟨rfl, hb7⟩
              rw [HC.out]
              go_wp2_with (go_at_call 14; refine (alive_any _).mono ?_; rintro e w' ⟨rfl, rfl⟩)
              go_ret
              exact ⟨rfl, q6.trans (hb7.mono q6.size)⟩
            · go_wp2_with fail
              refine (implDifferOf_any t s _ (small_max ht (by omega)) (small_max hs (by omega))).mono ?_
              rintro e w7 ⟨rfl, hb7⟩
              rw [HC.out]
              go_wp2_with (go_at_call 14; refine (alive_any _).mono ?_; rintro e w' ⟨rfl, rfl⟩)
              go_ret
              exact ⟨rfl, q6.trans (hb7.mono q6.size)⟩
          · by_cases hx : x < 0
            · go_wp2_with fail
              refine (implDifferOf_any t s _ (small_max ht (by omega)) (small_max hs (by omega))).mono ?_
              rintro e w7 ⟨rfl, hb7⟩
              rw [HC.out]
              go_wp2_with (go_at_call 14; refine (alive_any _).mono ?_; rintro e w' ⟨rfl, rfl⟩)
              go_ret
              exact ⟨rfl, q6.trans (hb7.mono q6.size)⟩
            · by_cases hy : y < 0
              · go_wp2_with fail
                refine (implDifferOf_any t s _ (small_max ht (by omega)) (small_max hs (by omega))).mono ?_
                rintro e w7 ⟨rfl, hb7⟩
                rw [HC.out]
                go_wp2_with (go_at_call 14; refine (alive_any _).mono ?_; rintro e w' ⟨rfl, rfl⟩)
                go_ret
                exact ⟨rfl, q6.trans (hb7.mono q6.size)⟩
              · go_wp2_with fail
                refine (implDifferOf_any t s _ (small_max ht (by omega)) (small_max hs (by omega))).mono ?_
                rintro e w7 ⟨rfl, hb7⟩
                rw [HC.out]
                go_wp2_with (go_at_call 14; refine (alive_any _).mono ?_; rintro e w' ⟨rfl, rfl⟩)
                go_ret
                exact ⟨rfl, q6.trans (hb7.mono q6.size)⟩
      · by_cases hgt : s.size < c.size
        · have hcs := cut_size' c s.size (by omega)
          have hcl : (c.extract 0 s.size).size ≤ 24 := by omega
          go_wp2_with fail
          refine (implDifferOf_any s (c.extract 0 s.size) _ (small_max hs (by omega)) (small_max hcl (by omega))).mono ?_
          rintro e w5 ⟨rfl, hb5⟩
          go_wp2_with fail
          refine (implDifferOf_any (c.extract 0 s.size) t _ (small_max hcl (by omega)) (small_max ht (by omega))).mono ?_
          rintro e w6 ⟨rfl, hb6⟩
          have htri := HT.out (c.extract 0 s.size)
          obtain ⟨hx1, hx2⟩ := differOf_bd s (c.extract 0 s.size)
          obtain ⟨hy1, hy2⟩ := differOf_bd (c.extract 0 s.size) t
          have hy3 : ((c.extract 0 s.size).size : Int) ≤ 24 := by have := hcl; omega
          have q6 := hbb4.trans ((hb5.mono hbb4.size).trans (hb6.mono (Nat.le_trans hbb4.size hb5.size)))
          clear hb5 hb6 hbb4 HT
          generalize differOf s (c.extract 0 s.size) = x at *
          generalize differOf (c.extract 0 s.size) t = y at *
          have hbq := HZB.out
          rcases htri with hx | hy | hxy
          · have hx' : x < 0 := hx
            go_wp2_with fail
            refine (implDifferOf_any t s _ (small_max ht (by omega)) (small_max hs (by omega))).mono ?_
            rintro e w7 ⟨rfl, hb7⟩
            rw [HC.out]
            go_wp2_with (go_at_call 14; refine (alive_any _).mono ?_; rintro e w' ⟨rfl, rfl⟩)
            go_ret
            exact ⟨rfl, q6.trans (hb7.mono q6.size)⟩
          · have hy' : y < 0 := hy
            by_cases hx : x < 0
            · go_wp2_with fail
              refine (implDifferOf_any t s _ (small_max ht (by omega)) (small_max hs (by omega))).mono ?_
              rintro e w7 ⟨rfl, hb7⟩
              rw [HC.out]
              go_wp2_with (go_at_call 14; refine (alive_any _).mono ?_; rintro e w' ⟨rfl, rfl⟩)
              go_ret
              exact ⟨rfl, q6.trans (hb7.mono q6.size)⟩
            · go_wp2_with fail
              refine (implDifferOf_any t s _ (small_max ht (by omega)) (small_max hs (by omega))).mono ?_
              rintro e w7 ⟨rfl, hb7⟩
              rw [HC.out]
              go_wp2_with (go_at_call 14; refine (alive_any _).mono ?_; rintro e w' ⟨rfl, rfl⟩)
              go_ret
              exact ⟨rfl, q6.trans (hb7.mono q6.size)⟩
          · by_cases hx : x < 0
            · go_wp2_with fail
              refine (implDifferOf_any t s _ (small_max ht (by omega)) (small_max hs (by omega))).mono ?_
              rintro e w7 ⟨rfl, hb7⟩
              rw [HC.out]
              go_wp2_with (go_at_call 14; refine (alive_any _).mono ?_; rintro e w' ⟨rfl, rfl⟩)
              go_ret
              exact ⟨rfl, q6.trans (hb7.mono q6.size)⟩
            · by_cases hy : y < 0
              · go_wp2_with fail
                refine (implDifferOf_any t s _ (small_max ht (by omega)) (small_max hs (by omega))).mono ?_
                rintro e w7 ⟨rfl, hb7⟩
                rw [HC.out]
                go_wp2_with (go_at_call 14; refine (alive_any _).mono ?_; rintro e w' ⟨rfl, rfl⟩)
                go_ret
                exact ⟨rfl, q6.trans (hb7.mono q6.size)⟩
              · go_wp2_with fail
                refine (implDifferOf_any t s _ (small_max ht (by omega)) (small_max hs (by omega))).mono ?_
                rintro e w7 ⟨rfl, hb7⟩
                rw [HC.out]
                go_wp2_with (go_at_call 14; refine (alive_any _).mono ?_; rintro e w' ⟨rfl, rfl⟩)
                go_ret
                exact ⟨rfl, q6.trans (hb7.mono q6.size)⟩
        · go_wp2_with fail
          refine (implDifferOf_any s c _ (small_max hs (by omega)) (small_max hc (by omega))).mono ?_
          rintro e w5 ⟨rfl, hb5⟩
          go_wp2_with fail
          refine (implDifferOf_any c t _ (small_max hc (by omega)) (small_max ht (by omega))).mono ?_
          rintro e w6 ⟨rfl, hb6⟩
          have htri := HT.out c
          obtain ⟨hx1, hx2⟩ := differOf_bd s c
          obtain ⟨hy1, hy2⟩ := differOf_bd c t
          have hy3 : (c.size : Int) ≤ 24 := by have := hc; omega
          have q6 := hbb4.trans ((hb5.mono hbb4.size).trans (hb6.mono (Nat.le_trans hbb4.size hb5.size)))
          clear hb5 hb6 hbb4 HT
          generalize differOf s c = x at *
          generalize differOf c t = y at *
          have hbq := HZB.out
          rcases htri with hx | hy | hxy
          · have hx' : x < 0 := hx
            go_wp2_with fail
            refine (implDifferOf_any t s _ (small_max ht (by omega)) (small_max hs (by omega))).mono ?_
            rintro e w7 ⟨rfl, hb7⟩
            rw [HC.out]
            go_wp2_with (go_at_call 14; refine (alive_any _).mono ?_; rintro e w' ⟨rfl, rfl⟩)
            go_ret
            exact ⟨rfl, q6.trans (hb7.mono q6.size)⟩
          · have hy' : y < 0 := hy
            by_cases hx : x < 0
            · go_wp2_with fail
              refine (implDifferOf_any t s _ (small_max ht (by omega)) (small_max hs (by omega))).mono ?_
              rintro e w7 ⟨rfl, hb7⟩
              rw [HC.out]
              go_wp2_with (go_at_call 14; refine (alive_any _).mono ?_; rintro e w' ⟨rfl, rfl⟩)
              go_ret
              exact ⟨rfl, q6.trans (hb7.mono q6.size)⟩
            · go_wp2_with fail
              refine (implDifferOf_any t s _ (small_max ht (by omega)) (small_max hs (by omega))).mono ?_
              rintro e w7 ⟨rfl, hb7⟩
              rw [HC.out]
              go_wp2_with (go_at_call 14; refine (alive_any _).mono ?_; rintro e w' ⟨rfl, rfl⟩)
              go_ret
              exact ⟨rfl, q6.trans (hb7.mono q6.size)⟩
          · by_cases hx : x < 0
            · go_wp2_with fail
              refine (implDifferOf_any t s _ (small_max ht (by omega)) (small_max hs (by omega))).mono ?_
              rintro e w7 ⟨rfl, hb7⟩
              rw [HC.out]
              go_wp2_with (go_at_call 14; refine (alive_any _).mono ?_; rintro e w' ⟨rfl, rfl⟩)
              go_ret
              exact ⟨rfl, q6.trans (hb7.mono q6.size)⟩
            · by_cases hy : y < 0
              · go_wp2_with fail
                refine (implDifferOf_any t s _ (small_max ht (by omega)) (small_max hs (by omega))).mono ?_
                rintro e w7 ⟨rfl, hb7⟩
                rw [HC.out]
                go_wp2_with (go_at_call 14; refine (alive_any _).mono ?_; rintro e w' ⟨rfl, rfl⟩)
                go_ret
                exact ⟨rfl, q6.trans (hb7.mono q6.size)⟩
              · go_wp2_with fail
                refine (implDifferOf_any t s _ (small_max ht (by omega)) (small_max hs (by omega))).mono ?_
                rintro e w7 ⟨rfl, hb7⟩
                rw [HC.out]
                go_wp2_with (go_at_call 14; refine (alive_any _).mono ?_; rintro e w' ⟨rfl, rfl⟩)
                go_ret
                exact ⟨rfl, q6.trans (hb7.mono q6.size)⟩
end Go.Proofs.Ytdlabljipjfgjaa
