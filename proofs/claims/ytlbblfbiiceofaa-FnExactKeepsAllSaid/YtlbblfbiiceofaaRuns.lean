/- The iterator runsIn: it yields the runs of the text, in order, to every loop body that leaves the text's box alone. -/
import Derived.RangeFuncNested
import Derived.RangeFuncBound
import Derived.RangeFuncCalls
import Derived.RangeFuncLeaves
import Derived.Shelf.Abstract
import Derived.Shelf.RegionOpen
import Derived.WalkKit
import Derived.OwnWalkIn
import Derived.TacticsInMore
import Derived.LoopNIn
import Derived.LoopIn
import Derived.Maps.AppendAt
import Derived.Sort.BigQuietIn
import Derived.Test.YtlbblfbiiceofaaCount
import Derived.Test.YtlbblfbiiceofaaMathR
namespace Go.Proofs.Ytlbblfbiiceofaa
open Go.RowKit Go.Shelf
attribute [local go_sem] Oper.semAt_some

/-- the box of a text is as it was -/
def BoxKept (Bs : Nat) (W W' : World) : Prop := W'.cell? ⟨Bs, 0, none⟩ = W.cell? ⟨Bs, 0, none⟩
theorem BoxKept.refl (Bs : Nat) (W : World) : BoxKept Bs W W := rfl
theorem BoxKept.trans {Bs : Nat} {A B C : World} (h : BoxKept Bs A B) (k : BoxKept Bs B C) : BoxKept Bs A C := Eq.trans k h

theorem runs_grow (l : List UInt8) (e : Nat) (pre : List (UInt8 × Nat)) (c : UInt8) (he : e < l.length) (hc : l.getD e 0 = c) (j : Nat) (hj : runsL (l.take e) = pre ++ [(c, j)]) :
    runsL (l.take (e + 1)) = pre ++ [(c, j + 1)] := by
  have e1 : l.take (e + 1) = l.take e ++ [l[e]] := List.take_succ_eq_append_getElem he
  have e2 : l[e] = c := by rw [← hc]; simp [List.getD, he]
  rw [e1, runsL_snoc, e2, hj, snocRun_same]
theorem runs_begin (l : List UInt8) (k : Nat) (pre : List (UInt8 × Nat)) (hk : runsL (l.take k) = pre) (hlt : k < l.length) (hb : ∀ d n, pre.getLast? = some (d, n) → d ≠ l.getD k 0) :
    runsL (l.take (k + 1)) = pre ++ [(l.getD k 0, 1)] := by
  have e1 : l.take (k + 1) = l.take k ++ [l[k]] := List.take_succ_eq_append_getElem hlt
  have e2 : l[k] = l.getD k 0 := by simp [List.getD, hlt]
  rw [e1, runsL_snoc, hk, e2, snocRun_new pre _ hb]

theorem runs_keep (rest : List UInt8) : ∀ (ys : List (UInt8 × Nat)) (p : UInt8 × Nat), ys <+: rest.foldl snocRun (ys ++ [p]) := by
  induction rest with
  | nil => exact fun ys p => List.prefix_append _ _
  | cons c rest ih =>
    intro ys p
    obtain ⟨d, n⟩ := p
    rw [List.foldl_cons, snocRun_eq]
    split
    · exact ih ys _
    · have := ih (ys ++ [(d, n)]) (c, 1)
      rw [List.append_assoc] at this
      exact (List.prefix_append _ _).trans this
theorem runs_prefix (l : List UInt8) (e : Nat) (pre : List (UInt8 × Nat)) (c : UInt8) (j : Nat) (h : runsL (l.take e) = pre ++ [(c, j)]) (hb : e < l.length → c ≠ l.getD e 0) : (pre ++ [(c, j)]) <+: runsL l := by
  have hl : runsL l = (l.drop e).foldl snocRun (pre ++ [(c, j)]) := by
    rw [← h, runsL, runsL, ← List.foldl_append, List.take_append_drop]
  by_cases he : e < l.length
  · have h2 : l.drop e = l[e] :: l.drop (e + 1) := List.drop_eq_getElem_cons he
    have h3 : l.getD e 0 = l[e] := by simp [List.getD, he]
    have h4 := hb he
    rw [h3] at h4
    rw [hl, h2, List.foldl_cons, snocRun_eq, if_neg h4]
    have := runs_keep (l.drop (e + 1)) (pre ++ [(c, j)]) (l[e], 1)
    rw [List.append_assoc] at this
    exact this
  · rw [hl, List.drop_of_length_le (by omega)]
    exact List.prefix_refl _

set_option maxRecDepth 100000 in
set_option maxHeartbeats 2000000 in
theorem runsIn1_in (n : Nat) (hn : 1 ≤ n) (l Bs : Nat) (s : ByteArray) (hs : s.size ≤ 14) (J Jx : List (UInt8 × Nat) → World → Prop)
    (hY : ∀ pre x W, J pre W → pre.length < 15 → YieldAt Fence.wide (n - 1) Try.prog l #[.int .u8 (x.1.toNat : Int), .int .i64 (x.2 : Int)] W fun e W' =>
      (e = .returned (.bool true) ∧ J (pre ++ [x]) W' ∧ BoxKept Bs W W') ∨ (e = .returned (.bool false) ∧ Jx (pre ++ [x]) W'))
    (hJd : ∀ pre A n, J pre A → J pre (World.drewN A n)) (W : World) (hBs : W.cell? ⟨Bs, 0, none⟩ = some (.string s)) (h0 : J [] W) :
    CallsIn Fence.wide n Try.prog 113 #[.func (.yield l) #[] #[], .pointer (some ⟨Bs, 0, none⟩)] W fun e W' => (∃ v, e = .returned v) ∧
      ((∃ ys, ys = runsL s.data.toList ∧ J ys W') ∨ (∃ pre, pre <+: runsL s.data.toList ∧ Jx pre W')) := by
  refine callsIn_of_wp Try.func113 rfl trivial ?_ rfl
  simp only [Try.ntmps113, List.size_toArray, List.length_cons, List.length_nil, Nat.reduceAdd, Nat.reduceSub, Array.replicate_succ, Array.replicate_zero, List.push_toArray, List.append_toArray, List.nil_append, List.cons_append]
  gi_wp2
  gi_loopw [3, 4] (fun i _ wr => ∃ (k : Nat) (pre : List (UInt8 × Nat)), k ≤ s.size ∧ i = .int .i64 k ∧ runsL (s.data.toList.take k) = pre ∧ (k < s.size → ∀ d m, pre.getLast? = some (d, m) → d ≠ s.data.toList.getD k 0) ∧ J pre wr ∧ BoxKept Bs W wr)
    (fun i _ _ => s.size - (intOf i).toNat)
  case atStart => exact ⟨0, [], Nat.zero_le _, rfl, rfl, (fun _ d m h => by cases h), h0, BoxKept.refl _ _⟩
  case round =>
    obtain ⟨k, pre, hk, rfl, hpre, hbd, hJs, hkept⟩ := hrel
    have hbox : wr.cell? ⟨Bs, 0, none⟩ = some (.string s) := Eq.trans hkept hBs
    have HP := Lib.hid hpre
    have HB := Lib.hid hbd
    clear hpre hbd
    by_cases hlt : k < s.size
    · have HN := Lib.hid (runs_begin s.data.toList k pre HP.out (by rw [len_data]; exact hlt) (HB.out hlt))
      have hkb : s.data.toList.getD k 0 = s[k] := (byteAt_eq s k hlt).symm
      rw [hkb] at HN
      clear hkb
      obtain ⟨wo, rfl⟩ : ∃ wo : World, wo = wr := ⟨_, rfl⟩
      gi_wp2
      gi_loopw [4] (fun i wq => ∃ (e : Nat), k + 1 ≤ e ∧ e ≤ s.size ∧ i = .int .i64 e ∧ runsL (s.data.toList.take e) = pre ++ [(s[k], e - k)] ∧ J pre wq ∧ BoxKept Bs W wq)
        (fun i _ => s.size - (intOf i).toNat)
      case atStart => exact ⟨k + 1, Nat.le_refl _, by omega, by go_num, by rw [HN.out, Nat.add_sub_cancel_left], hJs, hkept⟩
      case round =>
        obtain ⟨e, he1, he2, rfl, hre, hJq, hkq⟩ := hrel
        have hboxq : wr.cell? ⟨Bs, 0, none⟩ = some (.string s) := Eq.trans hkq hBs
        have hlen : pre.length < 15 := by rw [← HP.out]; exact Nat.lt_of_le_of_lt (runsL_length _) (by rw [List.length_take, len_data]; omega)
        have HR := Lib.hid hre
        clear hre hbox
        by_cases hel : e < s.size
        · by_cases heq : (s[e] == s[k]) = true
          · have heq' : ((s[e].toNat : Int) == (s[k].toNat : Int)) = true := by rw [u8_beq]; exact heq
            have HQ := Lib.hid (beq_iff_eq.1 heq)
            clear heq
            gi_wp2
            gi_big_quiet_th (fail)
            gi_wp2
            go_roundw
            case rel => exact ⟨e + 1, by omega, by omega, by go_num, by rw [runs_grow s.data.toList e pre s[k] (by rw [len_data]; exact hel) (by rw [← HQ.out]; exact (byteAt_eq s e hel).symm) (e - k) HR.out, show e - k + 1 = e + 1 - k from by omega], hJd _ _ _ hJq, hkq⟩
            case measure => simp [intOf]; omega
          · have heqf : (s[e] == s[k]) = false := by simpa using heq
            have heq' : ((s[e].toNat : Int) == (s[k].toNat : Int)) = false := by rw [u8_beq]; exact heqf
            have HQ : Hid (s[k] ≠ s[e]) := by have : s[k] ≠ s[e] := fun h => heq (by rw [h]; simp)
                                              exact Lib.hid this
            clear heq heqf
            gi_wp2
            gi_big_quiet_th (fail)
            have hJ2 := hJd _ _ nq hJq
            obtain ⟨fn, tmps, assign, body, hy, hR⟩ := hY pre (s[k], e - k) (wr.drewN nq) hJ2 hlen
            dsimp only at hy
            rw [show ((e - k : Nat) : Int) = (e : Int) - k from by omega] at hy
            have hk2 : BoxKept Bs W (wr.drewN nq) := hkq
            clear hJ2
            gi_wp2
            refine hR.mono ?_
            clear hR
            rintro e' W3 (⟨rfl, hJ3, hk3⟩ | ⟨rfl, hJx3⟩)
            · gi_wp2
              go_roundw
              case rel => exact ⟨e, _, he2, rfl, HR.out, (fun h d m hd => by simp at hd; rw [← hd.1]; exact fun h' => HQ.out (h'.trans (byteAt_eq s e hel).symm)), hJ3, hk2.trans hk3⟩
              case measure => simp [intOf]; omega
            · gi_wp2
              refine bodyPost_ret (results_none rfl _ _ _) rfl ?_
              exact ⟨⟨_, rfl⟩, .inr ⟨_, runs_prefix _ e _ _ _ HR.out (fun _ h' => HQ.out (h'.trans (byteAt_eq s e hel).symm)), hJx3⟩⟩
        · gi_wp2
          gi_big_quiet_th (fail)
          have hJ2 := hJd _ _ nq hJq
          obtain ⟨fn, tmps, assign, body, hy, hR⟩ := hY pre (s[k], e - k) (wr.drewN nq) hJ2 hlen
          dsimp only at hy
          rw [show ((e - k : Nat) : Int) = (e : Int) - k from by omega] at hy
          have hk2 : BoxKept Bs W (wr.drewN nq) := hkq
          clear hJ2
          gi_wp2
          refine hR.mono ?_
          clear hR
          rintro e' W3 (⟨rfl, hJ3, hk3⟩ | ⟨rfl, hJx3⟩)
          · gi_wp2
            go_roundw
            case rel => exact ⟨e, _, he2, rfl, HR.out, (fun h => absurd h hel), hJ3, hk2.trans hk3⟩
            case measure => simp [intOf]; omega
          · gi_wp2
            refine bodyPost_ret (results_none rfl _ _ _) rfl ?_
            exact ⟨⟨_, rfl⟩, .inr ⟨_, runs_prefix _ e _ _ _ HR.out (fun h => by rw [len_data] at h; exact absurd h hel), hJx3⟩⟩
    · obtain rfl : k = s.size := by omega
      gi_wp2
      go_end0
      exact ⟨⟨_, rfl⟩, .inl ⟨_, by rw [← HP.out, List.take_of_length_le (Nat.le_of_eq (len_data s))], hJs⟩⟩

/-- what runsIn makes: a box for the text, and the function value over it -/
theorem runsIn_any (s : ByteArray) (w : World) :
    Calls Try.prog 106 #[.string s] w fun e w' => e = .returned (.func (.func 113) #[] #[.pointer (some ⟨w.heap.size, 0, none⟩)]) ∧ w.alloc (.cells #[.string s] 9) = w' := by
  go_enter Try.func106, Try.ntmps106
  go_wp2
  go_ret
  exact ⟨rfl, rfl⟩

theorem runsIn_stops (n : Nat) (hn : 1 ≤ n) (Bs : Nat) (s : ByteArray) (hs : s.size ≤ 14) (w : World) (hB : Bs < w.heap.size) (hc : w.cell? ⟨Bs, 0, none⟩ = some (.string s)) :
    SeqStopsK Fence.wide n Try.prog 113 #[.pointer (some ⟨Bs, 0, none⟩)] (fun x : UInt8 × Nat => #[Value.int .u8 (x.1.toNat : Int), .int .i64 (x.2 : Int)]) (BoxKept Bs) (fun ys => ys = runsL s.data.toList) (fun ys => ys <+: runsL s.data.toList) 15 w := fun l J Jx W hW hJ _ hY h0 => by
  have hc' := (hW.cell (p := ⟨Bs, 0, none⟩) hB).trans hc
  have hJd : ∀ pre A n, J pre A → J pre (World.drewN A n) := fun pre A n h => hJ pre A _ none h ⟨rfl, rfl, rfl, Nat.le_refl _, fun _ _ _ => rfl⟩ (fun r e => by cases e)
  exact runsIn1_in n hn l Bs s hs J Jx hY hJd W hc' h0
end Go.Proofs.Ytlbblfbiiceofaa
