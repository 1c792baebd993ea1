/- slices.Reverse at bytes, and impl.BackWord: what it returns, for every text. -/
import Derived.Shelf.SlicesE.Reverse
import Derived.Test.YtgpjckmmleagbabRolled
namespace Go.Proofs.Ytgpjckmmleagbab
open Go.Shelf Go.RowKit
def shRev_ren : Go.Shelf.Ren := ⟨fun | 35 => 98 | n => n, fun | 22 => 22 | 23 => 5 | 3 => 3 | 4 => 4 | 0 => 0 | n => n, fun | n => n⟩
theorem shRev_lays : Go.Proofs.SlLaysE.n35 Try.prog shRev_ren := {
  mixed := by kernel_rfl
  f35 := ⟨Try.f98.name, by decide, Try.func98.trans (congrArg some (by kernel_rfl))⟩
  t0 := Try.underlying0
  a0 := Try.isAgg0
  z0 := Try.sizeOf0
  v0 := Try.zeroValue0
  t3 := Try.underlying3
  a3 := Try.isAgg3
  z3 := Try.sizeOf3
  v3 := Try.zeroValue3
  t4 := Try.underlying4
  a4 := Try.isAgg4
  z4 := Try.sizeOf4
  v4 := Try.zeroValue4
  t22 := Try.underlying22
  a22 := Try.isAgg22
  z22 := Try.sizeOf22
  v22 := Try.zeroValue22
  a23 := Try.isAgg5
  z23 := Try.sizeOf5 }

theorem add_zero_at (b j : Nat) : (⟨b, 0, none⟩ : Addr).add j = ⟨b, j, none⟩ := by
  unfold Addr.add
  by_cases h : j = 0
  · simp [h]
  · simp [h]

/-- the cells of a block hold bytes -/
def HasBytes (w : World) (b : Nat) (l : List UInt8) : Prop := ∀ j (h : j < l.length), w.cell? ⟨b, j, none⟩ = some (.int .u8 (l[j].toNat : Int)) ∧ w.frozen? ⟨b, j, none⟩ = false

theorem rev_any (b cap : Nat) (l : List UInt8) (w : World) (hl : l.length ≤ 14) (H : HasBytes w b l) :
    Calls Try.prog 98 #[.slice (some ⟨b, 0, none⟩) l.length cap] w fun e w' => e = .returned (.tuple #[]) ∧ HasBytes w' b l.reverse ∧ Below b w w' := by
  have hH : Sort.Holds (fun c : UInt8 => Value.int .u8 (c.toNat : Int)) w b 0 l.toArray := by
    intro j hj
    have hj' : j < l.length := by simpa using hj
    have := H j hj'
    simpa [getElem!_pos, hj', Nat.zero_add] using this
  refine (AnyE.slices_Reverse shRev_lays (fun c : UInt8 => Value.int .u8 (c.toNat : Int)) (fun _ => rfl) b 0 cap l w hH (by omega)).mono ?_
  rintro e w' ⟨he, n, rfl⟩
  have hA := Sort.holds_ahead (fun c : UInt8 => Value.int .u8 (c.toNat : Int)) w n b 0 _ hH
  have hB := Sort.holds_putRow (fun c : UInt8 => Value.int .u8 (c.toNat : Int)) (Sort.ahead w n) b 0 l.toArray l.reverse.toArray hA (by simp)
  refine ⟨he, ?_, rfl, rfl, rfl, ?_, ?_⟩
  · intro j hj
    have := hB j (by simpa using hj)
    rw [getElem!_pos _ j (by simpa using hj), List.getElem_toArray, Nat.zero_add] at this
    exact this
  · simp [Sort.ahead]
  · intro k hk
    have : ¬ b = k := by omega
    simp [Sort.putRow, Sort.mapBlock, Sort.ahead, Array.getElem?_modify, this]

/-- what '[]byte(s)' lays holds the bytes of s -/
theorem hasBytes_new (w : World) (s : ByteArray) (c : Nat) (t : TypeId) :
    HasBytes ((w.alloc (.cells (bytesRow s c) t ((bytesRow s c).size, (bytesRow s c).size + 1))).drew) w.heap.size s.data.toList := by
  intro j hj
  have hj' : j < s.size := by rw [← len_data]; exact hj
  have hsz : j < s.data.size := hj'
  have hb : j < (bytesRow s c).size := by simp only [bytesRow, Array.size_append, Array.size_map]; omega
  rw [World.cell?_drew, World.frozen?_drew, World.cell?_alloc_mark, World.frozen?_alloc_mark]
  refine ⟨?_, ?_⟩
  · simp only [bytesRow]
    rw [Array.getElem?_append_left (by simpa using hsz), Array.getElem?_map, Array.getElem?_eq_getElem hsz]
    rfl
  · simp; omega

set_option maxHeartbeats 400000 in
theorem implBackWord_any (s : ByteArray) (w : World) (hs : s.size ≤ maxLen) :
    Calls Try.prog 51 #[.string s] w fun e w' => e = .returned (.string (backStr s)) ∧ Below w.heap.size w w' := by
  by_cases hw : wordOk s = true
  · have h14 := wordOk_size hw
    have HE : Hid (backStr s = backFrom s 0) := by have : backStr s = backFrom s 0 := by simp [backStr, hw]
                                                   exact Lib.hid this
    have hcv := fun w => run_bytes_of_string (P := Try.prog) w 9 22 5 s Try.underlying9 Try.underlying22 Try.underlying5
    go_enter Try.func51, Try.ntmps51
    go_wp2_with (go_at_call 63; refine (implWordOk_any _ _ hs).mono ?_; rintro e w' ⟨rfl, rfl⟩)
    have hnew := hasBytes_new w s (grownCap w s.size 0 5) 5
    have hrev := rev_any w.heap.size (grownCap w s.size 0 5) s.data.toList _ (by rw [len_data]; omega) hnew
    rw [len_data] at hrev
    refine hrev.mono ?_
    rintro e w1 ⟨rfl, hB, hbel⟩
    clear hnew hrev hcv
    have hback := run_convert_bytes_back (P := Try.prog) w1 22 9 5 ⟨w.heap.size, 0, none⟩ (grownCap w s.size 0 5) s.data.toList.reverse Try.underlying22 Try.underlying5 Try.underlying9 (fun j hj => by rw [add_zero_at]; exact (hB j hj).1)
    rw [List.length_reverse, len_data] at hback
    have hb2 : Below w.heap.size w w1 := Below.trans (((Below.refl _ _).alloc (Nat.le_refl _) _).drew) hbel
    clear hB hbel
    go_wp2
    go_ret
    exact ⟨ret_str (by rw [HE.out]; rfl), hb2⟩
  · have hw' : wordOk s = false := by simpa using hw
    have HE : Hid (backStr s = ⟨#[]⟩) := by have : backStr s = ⟨#[]⟩ := by simp [backStr, hw']
                                            exact Lib.hid this
    clear hw
    go_enter Try.func51, Try.ntmps51
    go_wp2_with (go_at_call 63; refine (implWordOk_any _ _ hs).mono ?_; rintro e w' ⟨rfl, rfl⟩)
    go_ret
    exact ⟨ret_str HE.out.symm, Below.refl _ _⟩
end Go.Proofs.Ytgpjckmmleagbab
