/- impl.liveStates answers which states are live. No condition. -/
import Derived.Test.YtlbblfbiiceofaaBack2
namespace Go.Proofs.Ytlbblfbiiceofaa
open Go.RowKit

theorem infoSlF : (Try.prog.info? 113).map (fun i => (i.zero, i.size, i.bytes)) = some (some (.slice none 0 0), 1, 24) := by kernel_rfl

/-- the rows that a new table holds -/
theorem bk_start (w0 : World) (n : Nat) {w1 : World} (hown : w1.ownsRow w0.heap.size 113 1 (.slice (some ⟨w0.heap.size, 0, none⟩) n n) n (List.replicate n (.slice none 0 0))) (hg : w0.grownBy w1 none) :
    Bk w0 (.slice (some ⟨w0.heap.size, 0, none⟩) n n) (List.replicate n ((.slice none 0 0 : Value), ([] : List Int))) [] w1 := by
  have hl := World.ownsRow.lt hown
  have e1 : (List.replicate n ((.slice none 0 0 : Value), ([] : List Int))).map inn ++ [] = List.replicate n (inn (.slice none 0 0, [])) := by rw [List.append_nil, List.map_replicate]
  have e2 : (List.replicate n ((.slice none 0 0 : Value), ([] : List Int))).map Prod.fst = List.replicate n (.slice none 0 0) := by rw [List.map_replicate]
  refine ⟨(Below.refl _ _).grown hg (Nat.le_refl _) (fun _ e => by cases e), ?_⟩
  rw [e1, e2, List.length_replicate]
  have hno : ∀ u ∈ List.replicate n (inn (.slice none 0 0, [])), u = inn (.slice none 0 0, []) := fun u hu => (List.mem_replicate.1 hu).2
  refine ⟨fun t ht => ?_, List.pairwise_cons.2 ⟨fun u hu k _ e => ?_, ?_⟩⟩
  · rcases List.mem_cons.1 ht with rfl | ht
    · exact ⟨ownsRow_base hown (fun _ _ => Nat.zero_le _), fun k e => hl k e⟩
    · rw [hno t ht]
      exact ⟨World.ownsRow_nil _ _ _ _, fun k e => by cases e⟩
  · rw [hno u hu] at e; cases e
  · exact List.pairwise_iff_getElem.2 (fun i j hi hj _ k e => by rw [hno _ (List.getElem_mem hi)] at e; cases e)

end Go.Proofs.Ytlbblfbiiceofaa
