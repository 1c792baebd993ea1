/- The drawing functions of chapter 1. -/
import Derived.Test.YtdlabljipjfgjaaOpen
namespace Go.Proofs.Ytdlabljipjfgjaa
open Go.RowKit

def TextPost (w : World) (e : Ending) (w' : World) : Prop := ∃ s : ByteArray, e = .returned (.string s) ∧ s.size ≤ 23 ∧ Below w.heap.size w w'
def PairPost (w : World) (e : Ending) (w' : World) : Prop := ∃ s t : ByteArray, e = .returned (.tuple #[.string s, .string t]) ∧ s.size ≤ 23 ∧ t.size ≤ 23 ∧ Below w.heap.size w w'
/-- what drawing two texts leaves -/
def BothPost (B R : Nat) (a : Option Addr) (len cap k : Nat) (w : World) (e : Ending) (w' : World) : Prop :=
  ∃ s t : ByteArray, e = .returned (.tuple #[.string s, .string t]) ∧ s.size ≤ 23 ∧ t.size ≤ 23 ∧ ∃ k', k ≤ k' ∧ k' ≤ k + 40 ∧ RdAt B R a len cap k' w' ∧ KeepsBut R w w'

theorem l20Both_any (B R : Nat) (a : Option Addr) (len cap k : Nat) (w : World) (H : RdAt B R a len cap k w) (hk : k ≤ 800000) :
    Calls Try.prog 42 #[.pointer (some ⟨R, 0, none⟩)] w (BothPost B R a len cap k w) := by
  have HC := Lib.hid (l20Word_any B R a len cap k 12 w H (by omega) (by omega) (by omega))
  clear H
  go_enter Try.func42, Try.ntmps42
  go_wp2_with fail
  refine HC.out.mono ?_
  clear HC
  rintro e w1 ⟨s, rfl, hs, k1, hk1, hk2, hR1, hK1⟩
  go_wp2_with fail
  refine (l20Letter_any B R a len cap k1 12 _ hR1 (by omega) (by omega) (by omega)).mono ?_
  rintro e w2 ⟨t, rfl, ht, k2, hk3, hk4, hR2, hK2⟩
  go_wp2
  go_ret2
  exact ⟨s, t, rfl, hs, ht, k2, by omega, by omega, hR2, hK1.trans hK2⟩

theorem drawWordOk_any (a : Option Addr) (len cap : Nat) (zs : List Int) (w : World) (h : IsRow .u8 w a len cap zs) :
    Calls Try.prog 11 #[.slice a len cap] w (TextPost w) := by
  have HO := Lib.hid (l20Open_any a len cap zs w h)
  clear h
  go_enter Try.func11, Try.ntmps11
  go_wp2_with fail
  refine HO.out.mono ?_
  clear HO
  rintro e w1 ⟨a1, len1, cap1, rfl, hR, hb⟩
  go_wp2_with fail
  refine (l20Word_any _ _ _ _ _ 0 2 _ hR (by omega) (by omega) (by omega)).mono ?_
  rintro e w2 ⟨s, rfl, hs, k2, hk1, hk2, hR2, hK2⟩
  go_wp2
  go_ret
  exact ⟨s, rfl, hs, hb.trans (hK2.below (Nat.le_refl _) hb.size)⟩

theorem drawLetterOk_any (a : Option Addr) (len cap : Nat) (zs : List Int) (w : World) (h : IsRow .u8 w a len cap zs) :
    Calls Try.prog 15 #[.slice a len cap] w (TextPost w) := by
  have HO := Lib.hid (l20Open_any a len cap zs w h)
  clear h
  go_enter Try.func15, Try.ntmps15
  go_wp2_with fail
  refine HO.out.mono ?_
  clear HO
  rintro e w1 ⟨a1, len1, cap1, rfl, hR, hb⟩
  go_wp2_with fail
  refine (l20Letter_any _ _ _ _ _ 0 2 _ hR (by omega) (by omega) (by omega)).mono ?_
  rintro e w2 ⟨s, rfl, hs, k2, hk1, hk2, hR2, hK2⟩
  go_wp2
  go_ret
  exact ⟨s, rfl, hs, hb.trans (hK2.below (Nat.le_refl _) hb.size)⟩

theorem drawRunsOf_any (a : Option Addr) (len cap : Nat) (zs : List Int) (w : World) (h : IsRow .u8 w a len cap zs) :
    Calls Try.prog 23 #[.slice a len cap] w (TextPost w) := by
  have HO := Lib.hid (l20Open_any a len cap zs w h)
  clear h
  go_enter Try.func23, Try.ntmps23
  go_wp2_with fail
  refine HO.out.mono ?_
  clear HO
  rintro e w1 ⟨a1, len1, cap1, rfl, hR, hb⟩
  go_wp2_with fail
  refine (l20Word_any _ _ _ _ _ 0 9 _ hR (by omega) (by omega) (by omega)).mono ?_
  rintro e w2 ⟨s, rfl, hs, k2, hk1, hk2, hR2, hK2⟩
  go_wp2
  go_ret
  exact ⟨s, rfl, hs, hb.trans (hK2.below (Nat.le_refl _) hb.size)⟩

theorem drawBackWord_any (a : Option Addr) (len cap : Nat) (zs : List Int) (w : World) (h : IsRow .u8 w a len cap zs) :
    Calls Try.prog 30 #[.slice a len cap] w (TextPost w) := by
  have HO := Lib.hid (l20Open_any a len cap zs w h)
  clear h
  go_enter Try.func30, Try.ntmps30
  go_wp2_with fail
  refine HO.out.mono ?_
  clear HO
  rintro e w1 ⟨a1, len1, cap1, rfl, hR, hb⟩
  go_wp2_with fail
  refine (l20Word_any _ _ _ _ _ 0 9 _ hR (by omega) (by omega) (by omega)).mono ?_
  rintro e w2 ⟨s, rfl, hs, k2, hk1, hk2, hR2, hK2⟩
  go_wp2
  go_ret
  exact ⟨s, rfl, hs, hb.trans (hK2.below (Nat.le_refl _) hb.size)⟩

theorem drawCountOf_any (a : Option Addr) (len cap : Nat) (zs : List Int) (w : World) (h : IsRow .u8 w a len cap zs) :
    Calls Try.prog 18 #[.slice a len cap] w (PairPost w) := by
  have HO := Lib.hid (l20Open_any a len cap zs w h)
  clear h
  go_enter Try.func18, Try.ntmps18
  go_wp2_with fail
  refine HO.out.mono ?_
  clear HO
  rintro e w1 ⟨a1, len1, cap1, rfl, hR, hb⟩
  go_wp2_with fail
  refine (l20Both_any _ _ _ _ _ 0 _ hR (by omega)).mono ?_
  rintro e w2 ⟨s, t, rfl, hs, ht, k2, hk1, hk2, hR2, hK2⟩
  go_wp2
  go_ret2
  exact ⟨s, t, rfl, hs, ht, hb.trans (hK2.below (Nat.le_refl _) hb.size)⟩

theorem drawLongestOf_any (a : Option Addr) (len cap : Nat) (zs : List Int) (w : World) (h : IsRow .u8 w a len cap zs) :
    Calls Try.prog 28 #[.slice a len cap] w (PairPost w) := by
  have HO := Lib.hid (l20Open_any a len cap zs w h)
  clear h
  go_enter Try.func28, Try.ntmps28
  go_wp2_with fail
  refine HO.out.mono ?_
  clear HO
  rintro e w1 ⟨a1, len1, cap1, rfl, hR, hb⟩
  go_wp2_with fail
  refine (l20Both_any _ _ _ _ _ 0 _ hR (by omega)).mono ?_
  rintro e w2 ⟨s, t, rfl, hs, ht, k2, hk1, hk2, hR2, hK2⟩
  go_wp2
  go_ret2
  exact ⟨s, t, rfl, hs, ht, hb.trans (hK2.below (Nat.le_refl _) hb.size)⟩

end Go.Proofs.Ytdlabljipjfgjaa
