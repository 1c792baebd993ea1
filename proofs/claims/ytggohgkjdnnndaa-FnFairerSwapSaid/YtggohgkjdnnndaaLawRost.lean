/- The walks of FnRosterOk, FnNeedsOk, FnRowsExchanged: true at every code. No condition. -/
import Derived.Test.YtggohgkjdnnndaaRostDraw2
import Derived.Test.YtggohgkjdnnndaaRostCov
namespace Go.Proofs.Ytggohgkjdnnndaa
open Go.RowKit

theorem rowR_len {w : World} {a : Option Addr} {len cap : Nat} {zs : List Int} (h : IsRow .u8 w a len cap zs) : len ≤ 9223372036854775807 := by
  rcases h with ⟨_, rfl, _⟩ | ⟨x, _, h1, h2, _⟩
  · omega
  · unfold maxLen at h2; omega
theorem aliveR_any (w : World) : Calls Try.prog 17 #[] w fun e w' => e = .returned (.bool true) ∧ w = w' := by
  have h1 : wordOk ⟨#[114, 100, 110]⟩ = true := by decide +kernel
  have h2 : wordOk ⟨#[120]⟩ = false := by decide +kernel
  go_enter Try.func17, Try.ntmps17
  go_wp2_with (go_at_call 52; refine (implWordOk_any _ _ (by decide)).mono ?_; rintro e w' ⟨rfl, rfl⟩)
  go_ret
  exact ⟨rfl, rfl⟩
theorem owns_litS {w' : World} {base b : Nat} {xs : List ByteArray} (hb : w'.heap[b]? = some (.cells (xs.map Value.string).toArray 9 (0, 0))) (hbase : base ≤ b) (hl : xs.length ≤ 1000) : w'.ownsRow base 9 1 (.slice (some ⟨b, 0, none⟩) xs.length xs.length) xs.length (xs.map Value.string) :=
  ⟨by simp, .inr ⟨b, xs.length, _, rfl, hbase, hb, Nat.le_refl _, by unfold maxLen; omega, by simp, by rw [List.take_of_length_le (by simp)]⟩⟩
theorem strs_lit (W : World) (xs : List ByteArray) (n : Nat) (hn : xs.length = n) (hl : n ≤ 1000) (cs : Array Value) (hc : cs = (xs.map Value.string).toArray) : IsStrs (W.alloc (.cells cs 9)) (.slice (some ⟨W.heap.size, 0, none⟩) n n) xs := by
  subst hn hc
  exact IsStrs.of_owns (owns_litS (base := W.heap.size) (heap_alloc_new W _) (Nat.le_refl _) hl)

theorem needsOk_comm (l d : Int) : needsOk d l = needsOk l d := by
  unfold needsOk
  rw [Bool.and_comm (decide (0 ≤ d)), Int.add_comm d l]

theorem exch_back_n {xs : List ByteArray} {f t : Int} (h : exchOk xs f t = true) : exchOk (exch xs f t) t f = true ∧ exch (exch xs f t) t f = xs := exch_back h

end Go.Proofs.Ytggohgkjdnnndaa
