/- The drawing functions of chapter 1: what they return lies within bounds, and nothing that was there is written. -/
import Derived.Test.YtggohgkjdnnndaaDraw
import Derived.Test.YtggohgkjdnnndaaRow
namespace Go.Proofs.Ytggohgkjdnnndaa
open Go.RowKit

/-- what opening a code leaves -/
def OpenPost (w : World) (e : Ending) (w' : World) : Prop :=
  ∃ (a : Option Addr) (len cap : Nat), e = .returned (.pointer (some ⟨w.heap.size, 0, none⟩)) ∧ RdAt w.heap.size w.heap.size a len cap 0 w' ∧ Below w.heap.size w w'

theorem open_rd (w : World) (a : Option Addr) (len cap : Nat) (t : TypeId) (hl : len ≤ 2000)
    (hrow : len = 0 ∨ ∃ (b off : Nat) (z : Nat → Nat), a = some ⟨b, off, none⟩ ∧ b < w.heap.size ∧ ∀ i, i < len → z i < 256 ∧ w.cell? ⟨b, off + i, none⟩ = some (.int .u8 (z i : Int))) :
    RdAt w.heap.size w.heap.size a len cap 0 (w.alloc (.cells #[.slice a len cap, .int .i64 0] t)) := by
  refine ⟨Nat.le_refl _, by simp, ?_, ?_, ?_, hl, hrow.imp id (fun ⟨b, off, z, ha, hb, hz⟩ => ⟨b, off, z, ha, hb, fun i hi => ⟨(hz i hi).1, ?_⟩⟩)⟩
  · exact World.cell?_alloc_new w _ t 0
  · exact World.cell?_alloc_new w _ t 1
  · exact World.frozen?_alloc_new w _ t 1
  · exact (World.cell?_alloc_lt w _ ⟨b, off + i, none⟩ hb).trans (hz i hi).2

theorem row_bytes {w : World} {a : Option Addr} {len cap : Nat} {zs : List Int} (h : IsRow .u8 w a len cap zs) :
    len = 0 ∨ ∃ (b off : Nat) (z : Nat → Nat), a = some ⟨b, off, none⟩ ∧ b < w.heap.size ∧ ∀ i, i < len → z i < 256 ∧ w.cell? ⟨b, off + i, none⟩ = some (.int .u8 (z i : Int)) := by
  rcases h with ⟨_, h, _⟩ | ⟨x, rfl, hl, hm, hz, hcell, hwf⟩
  · exact .inl h
  · by_cases h0 : len = 0
    · exact .inl h0
    · obtain ⟨b, off, spot⟩ := x
      have hc := hcell 0 (by omega)
      have hspot : spot = none := by simpa [Addr.add] using World.cell?_spot hc
      subst hspot
      have hb : b < w.heap.size := by
        have := World.block_lt_of_cell? w ⟨b, off, none⟩ (u := .int .u8 (zs.getD 0 0)) (by simpa [Addr.add] using hc)
        exact this
      refine .inr ⟨b, off, fun i => (zs.getD i 0).toNat, rfl, hb, fun i hi => ?_⟩
      have hw := hwf (zs.getD i 0) (by
        have : i < zs.length := by omega
        rw [List.getD, List.getElem?_eq_getElem this]; exact List.getElem_mem _)
      have hw' : 0 ≤ zs.getD i 0 ∧ zs.getD i 0 ≤ 255 := by
        simp [Lit.wf, IntKind.min, IntKind.max, IntKind.signed, IntKind.bits] at hw
        simp only [List.getD]
        omega
      have hci := hcell i (by omega)
      rw [show (⟨b, off, none⟩ : Addr).add i = ⟨b, off + i, none⟩ from by unfold Addr.add; by_cases h : i = 0 <;> simp [h]] at hci
      refine ⟨by show (zs.getD i 0).toNat < 256; omega, ?_⟩
      rw [hci, Int.toNat_of_nonneg hw'.1]

theorem l20Open_any (a : Option Addr) (len cap : Nat) (zs : List Int) (w : World) (h : IsRow .u8 w a len cap zs) :
    Calls Try.prog 43 #[.slice a len cap] w (OpenPost w) := by
  have hrow := row_bytes h
  have hcap : len ≤ cap ∧ cap ≤ maxLen := by
    rcases h with ⟨_, rfl, rfl, _⟩ | ⟨x, _, h1, h2, _⟩
    · exact ⟨Nat.le_refl _, Nat.zero_le _⟩
    · exact ⟨h1, h2⟩
  obtain ⟨hc1, hc2⟩ := hcap
  unfold maxLen at hc2
  clear h
  by_cases hbig : 2000 < len
  · have hrow2 := hrow
    obtain ⟨b, off, z, rfl, hb, hz⟩ := hrow2.resolve_left (by omega)
    have H := Lib.hid (open_rd w (some ⟨b, off, none⟩) 2000 cap 74 (Nat.le_refl _) (.inr ⟨b, off, z, rfl, hb, fun i hi => hz i (by omega)⟩))
    clear hz hrow hrow2
    have hcp : 2000 ≤ cap := by omega
    go_enter Try.func43, Try.ntmps43
    go_wp2
    go_ret
    exact ⟨_, _, _, rfl, H.out, (Below.refl _ _).alloc (Nat.le_refl _) _⟩
  · have H := Lib.hid (open_rd w a len cap 74 (by omega) hrow)
    clear hrow
    go_enter Try.func43, Try.ntmps43
    go_wp2
    go_ret
    exact ⟨_, _, _, rfl, H.out, (Below.refl _ _).alloc (Nat.le_refl _) _⟩
end Go.Proofs.Ytggohgkjdnnndaa
