/- slices.Reverse at bytes, and impl.BackWord: what it returns, for every text. -/
import Derived.Shelf.SlicesE.Reverse
import Derived.Test.YtggohgkjdnnndaaRolled
namespace Go.Proofs.Ytggohgkjdnnndaa
open Go.Shelf Go.RowKit

theorem add_zero_at (b j : Nat) : (⟨b, 0, none⟩ : Addr).add j = ⟨b, j, none⟩ := by
  unfold Addr.add
  by_cases h : j = 0
  · simp [h]
  · simp [h]

/-- the cells of a block hold bytes -/
def HasBytes (w : World) (b : Nat) (l : List UInt8) : Prop := ∀ j (h : j < l.length), w.cell? ⟨b, j, none⟩ = some (.int .u8 (l[j].toNat : Int)) ∧ w.frozen? ⟨b, j, none⟩ = false

/-- what '[]byte(s)' lays holds the bytes of s -/
theorem hasBytes_new (w : World) (s : ByteArray) (c : Nat) (t : TypeId) :
    HasBytes ((w.alloc (.cells (bytesRow s c) t ((bytesRow s c).size, (bytesRow s c).size + 1))).drew) w.heap.size s.data.toList := by
  intro j hj
  have hj' : j < s.size := by rw [← len_data]; exact hj
  have hsz : j < s.data.size := hj'
  have hb : j < (bytesRow s c).size := by simp only [bytesRow, Array.size_append, Array.size_map]; omega
  rw [World.cell?_drew, World.frozen?_drew, World.cell?_alloc_mark, World.frozen?_alloc_mark]
  refine ⟨?_, ?_⟩
  · simp only [bytesRow]
    rw [Array.getElem?_append_left (by simpa using hsz), Array.getElem?_map, Array.getElem?_eq_getElem hsz]
    rfl
  · simp; omega

end Go.Proofs.Ytggohgkjdnnndaa
