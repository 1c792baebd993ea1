/- markText, markStringS, heldStringS: strings are written over, and read back. No condition. -/
import Derived.Test.YtggohgkjdnnndaaStrLaw
import Derived.Test.YtggohgkjdnnndaaHeld
import Derived.Outline
import Derived.Deep.CutRange
import Derived.Deep.CutBlock
namespace Go.Proofs.Ytggohgkjdnnndaa
open Go.RowKit

/-- the digits of a number ahead of a text -/
def mDig : Nat → Nat → ByteArray → ByteArray
  | 0, _, o => o
  | f + 1, j, o => if j = 0 then o else mDig f (j / 10) (⟨#[UInt8.ofNat (48 + j % 10)]⟩ ++ o)
theorem mDig_zero (f : Nat) (o : ByteArray) : mDig f 0 o = o := by cases f <;> simp [mDig]
/-- what markText says -/
def mText (k : Int) : ByteArray := if k ≤ 0 then ⟨#[109, 48]⟩ else ⟨#[109]⟩ ++ mDig 30 k.toNat ⟨#[]⟩

theorem one_convertS (w : World) (b : UInt8) : (convert 22 9 (.slice (some ⟨w.heap.size, 0, none⟩) 1 1)).run Try.prog (w.alloc (.cells #[.int .u8 (b.toNat : Int)] 5)) = .ok (.string ⟨#[b]⟩) (w.alloc (.cells #[.int .u8 (b.toNat : Int)] 5)) := by
  refine run_convert_bytes_back (P := Try.prog) (w.alloc (.cells #[.int .u8 (b.toNat : Int)] 5)) 22 9 5 ⟨w.heap.size, 0, none⟩ 1 [b] Try.underlying22 Try.underlying5 Try.underlying9 (fun j hj => ?_)
  obtain rfl : j = 0 := by simp at hj; omega
  exact World.cell?_alloc_new w _ _ 0

theorem ret_strM {a b : ByteArray} (h : a = b) : Ending.returned (.string a) = .returned (.string b) := by rw [h]
set_option maxHeartbeats 1600000 in
set_option maxRecDepth 100000 in
theorem markTextS_any (k : Int) (h : k ≤ 1000000000) (w : World) :
    Calls Try.prog 73 #[.int .i64 k] w fun e w' => e = .returned (.string (mText k)) ∧ Below w.heap.size w w' := by
  by_cases h0 : k ≤ 0
  · have HE : Hid (mText k = ⟨#[109, 48]⟩) := by
      have : mText k = ⟨#[109, 48]⟩ := if_pos h0
      exact Lib.hid this
    go_enter Try.func73, Try.ntmps73
    go_wp2_with fail
    go_ret
    exact ⟨ret_strM HE.out.symm, Below.refl _ _⟩
  have HE : Hid (mText k = ⟨#[109]⟩ ++ mDig 30 k.toNat ⟨#[]⟩) := by
    have : mText k = ⟨#[109]⟩ ++ mDig 30 k.toNat ⟨#[]⟩ := if_neg h0
    exact Lib.hid this
  have HK : Hid (k.toNat < 2 ^ 30) := by
    have : k.toNat < 2 ^ 30 := by omega
    exact Lib.hid this
  go_enter Try.func73, Try.ntmps73
  go_wp2_with fail
  go_loopw [0, 3] (fun kv ov wr => ∃ (q : Int) (j f : Nat) (o : ByteArray), kv = .int .i64 q ∧ Hid (q = (j : Int)) ∧ 0 ≤ q ∧ ov = .string o ∧ Hid (j < 2 ^ f) ∧ Hid (mDig f j o = mDig 30 k.toNat ⟨#[]⟩) ∧ (o.size : Int) + q ≤ 1000000000 ∧ Below w.heap.size w wr) (fun kv _ _ => (intOf kv).toNat)
  case atStart => exact ⟨k, k.toNat, 30, ⟨#[]⟩, rfl, Lib.hid (Int.toNat_of_nonneg (by omega)).symm, by omega, rfl, HK, Lib.hid rfl, by show ((0 : Nat) : Int) + _ ≤ _; omega, Below.refl _ _⟩
  case round =>
    obtain ⟨q, j, f, o, rfl, HQ, hq0, rfl, HJ, HM, hjs, hb⟩ := hrel
    have HB := Lib.hid hb
    by_cases hj : q ≤ 0
    · have HR : Hid (mText k = ⟨#[109]⟩ ++ o) := by
        have hj0 : j = 0 := by have := HQ.out; omega
        have : mText k = ⟨#[109]⟩ ++ o := by rw [HE.out, ← HM.out, hj0, mDig_zero]
        exact Lib.hid this
      go_wp2_with fail
      go_ret
      exact ⟨ret_strM HR.out.symm, hb⟩
    · have HN : Hid (∃ (one : ByteArray) (f' : Nat), one.size = 1 ∧ (convert 22 9 (.slice (some ⟨wr.heap.size, 0, none⟩) 1 1)).run Try.prog (wr.alloc (.cells #[.int .u8 (48 + q % 10)] 5)) = .ok (.string one) (wr.alloc (.cells #[.int .u8 (48 + q % 10)] 5)) ∧ j / 10 < 2 ^ f' ∧ mDig f' (j / 10) (one ++ o) = mDig 30 k.toNat ⟨#[]⟩) := by
        have h1 := HJ.out
        have h2 := HM.out
        have h3 := HQ.out
        have hbn : ((UInt8.ofNat (48 + j % 10)).toNat : Int) = 48 + q % 10 := by rw [h3]; simp; omega
        have hc := one_convertS wr (UInt8.ofNat (48 + j % 10))
        rw [hbn] at hc
        have : ∃ f', j / 10 < 2 ^ f' ∧ mDig f' (j / 10) (⟨#[UInt8.ofNat (48 + j % 10)]⟩ ++ o) = mDig 30 k.toNat ⟨#[]⟩ := by
          cases f with
          | zero => simp at h1; omega
          | succ f =>
            refine ⟨f, by rw [Nat.pow_succ] at h1; omega, ?_⟩
            rw [← h2, mDig, if_neg (by omega)]
        obtain ⟨f', h4, h5⟩ := this
        exact Lib.hid ⟨_, f', rfl, hc, h4, h5⟩
      obtain ⟨one, f', ho1, hc, h4, h5⟩ := HN.out
      have H1 := Lib.hid ho1
      have H4 := Lib.hid h4
      have H5 := Lib.hid h5
      have hr1 : q.tmod 10 = q % 10 := Int.tmod_eq_emod_of_nonneg hq0
      have hr2 : q.tdiv 10 = q / 10 := Int.tdiv_eq_ediv_of_nonneg hq0
      have ho2 : one.size ≤ 1 := by omega
      clear HN ho1 h4 h5
      go_upto_region 5 with fail
      go_wp2_with fail
      exact ⟨⟨q / 10, j / 10, f', _, rfl, Lib.hid (by have := HQ.out; omega), by omega, rfl, H4, H5, by rw [ByteArray.size_append, H1.out]; omega, HB.out.alloc HB.out.size _⟩, by simp [intOf]; omega⟩

/-- texts of numbers one after the other -/
def seqT (m : Int) (n : Nat) : List ByteArray := (List.range n).map (fun i : Nat => mText (m + (i : Int)))
theorem seqT_length (m : Int) (n : Nat) : (seqT m n).length = n := by simp [seqT]
theorem seqT_succ (m : Int) (n : Nat) : seqT m (n + 1) = seqT m n ++ [mText (m + n)] := by simp [seqT, List.range_succ]
theorem seqT_get (m : Int) (n k : Nat) (h : k < (seqT m n).length) : (seqT m n)[k] = mText (m + k) := by simp [seqT]
/-- a list of which the first k are written over -/
def markST (xs : List ByteArray) (m : Int) (k : Nat) : List ByteArray := seqT m k ++ xs.drop k
theorem markST_zero (xs : List ByteArray) (m : Int) : markST xs m 0 = xs := by simp [markST, seqT]
theorem markST_all (xs : List ByteArray) (m : Int) : markST xs m xs.length = seqT m xs.length := by simp [markST]
theorem markST_length (xs : List ByteArray) (m : Int) (k : Nat) (h : k ≤ xs.length) : (markST xs m k).length = xs.length := by
  rw [markST, List.length_append, seqT_length, List.length_drop]; omega
theorem markST_step (xs : List ByteArray) (m : Int) (k : Nat) (h : k < xs.length) : (markST xs m k).set k (mText (m + k)) = markST xs m (k + 1) := by
  have e : xs.drop k = xs[k] :: xs.drop (k + 1) := List.drop_eq_getElem_cons h
  rw [markST, markST, seqT_succ, List.set_append_right _ _ (by rw [seqT_length]; exact Nat.le_refl _), seqT_length, Nat.sub_self, e, List.set_cons_zero, List.append_assoc]
  rfl

theorem owns_belowS {w w' : World} {base : Nat} {e : TypeId} {size : Nat} {v : Value} {n : Nat} {xs : List Value} (h : w.ownsRow base e size v n xs) (hb : Below w.heap.size w w') : w'.ownsRow base e size v n xs :=
  h.kept (row := none) ⟨hb.os, hb.tape, hb.output, hb.size, fun k hk _ => hb.block k hk⟩ (by cases v.ownBlock <;> simp)
theorem grown_row {w w' : World} (h : Below w.heap.size w w') (r : Option Nat) : w.grownBy w' r := ⟨h.os, h.tape, h.output, h.size, fun k hk _ => h.block k hk⟩
/-- what writing over leaves -/
def MarkPostS (base : Nat) (v : Value) (n : Nat) (m : Int) (w : World) (e : Ending) (w' : World) : Prop :=
  e = .returned (.int .i64 (m + n)) ∧ w'.ownsRow base 9 1 v n ((seqT m n).map Value.string) ∧ w.grownBy w' v.ownBlock

set_option maxHeartbeats 1600000 in
theorem markStringS_any (base : Nat) (v : Value) (xs : List ByteArray) (m : Int) (w : World) (h : w.ownsRow base 9 1 v xs.length (xs.map Value.string)) (hx : xs.length ≤ 1100000) (hm0 : 0 ≤ m) (hm : m ≤ 10000000) :
    Calls Try.prog 38 #[v, .int .i64 m] w (MarkPostS base v xs.length m w) := by
  obtain ⟨a, len, cap, hv, hlen⟩ : ∃ a len cap, v = .slice a len cap ∧ len = xs.length := by
    rcases h.2 with ⟨hv, hn⟩ | ⟨g, cap, cur, hv, _⟩
    · exact ⟨none, 0, 0, hv, hn.symm⟩
    · exact ⟨_, _, _, hv, rfl⟩
  subst hlen
  subst hv
  have HO := Lib.hid h
  clear h
  generalize hL : xs.length = L at *
  have HL := Lib.hid hL
  clear hL
  go_enter Try.func38, Try.ntmps38
  go_wp2
  go_loopw [1, 5] (fun q i wr => ∃ k : Nat, k ≤ L ∧ i = .int .i64 k ∧ q = .int .i64 (m + k) ∧ wr.ownsRow base 9 1 (.slice a L cap) L ((markST xs m k).map Value.string) ∧ w.grownBy wr (Value.slice a L cap).ownBlock) (fun _ i _ => L - (intOf i).toNat)
  case atStart => exact ⟨0, Nat.zero_le _, rfl, by go_num, by rw [markST_zero]; exact HO.out, grown_refl _ _⟩
  case round =>
    obtain ⟨k, hk, rfl, rfl, hown, hgr⟩ := hrel
    have HG := Lib.hid hgr
    clear hgr
    by_cases hlt : k < L
    · obtain ⟨g, rfl⟩ : ∃ g, a = some ⟨g, 0, none⟩ := by
        rcases hown.2 with ⟨h, _⟩ | ⟨g, cap', cur, h, _⟩
        · cases h; omega
        · cases h; exact ⟨g, rfl⟩
      have hcap : L ≤ cap := by
        rcases hown.2 with ⟨h, _⟩ | ⟨g', cap', cur, h, _, _, h4, _⟩
        · cases h
        · cases h; exact h4
      have HOWN := Lib.hid hown
      clear hown
      go_wp2_with fail
      refine (markTextS_any (m + k) (by omega) _).mono ?_
      rintro e w2 ⟨rfl, hb2⟩
      have hg2 := grown_row hb2 (Value.slice (some ⟨g, 0, none⟩) L cap).ownBlock
      have hown2 := owns_belowS HOWN.out hb2
      have hml : (markST xs m k).length = L := by rw [markST_length xs m k (by rw [HL.out]; exact hk), HL.out]
      have hcl := hown2.cellAt k (by omega)
      obtain ⟨c, hcell⟩ : ∃ c, w2.cell? ⟨g, k, none⟩ = some (.string c) := ⟨(markST xs m k)[k]'(by omega), by rw [hcl]; simp [hml, hlt]⟩
      have hfr := hown2.frozenAt k
      have hst := hown2.stored k (.string (mText (m + k)))
      rw [← List.map_set, markST_step xs m k (by rw [HL.out]; exact hlt)] at hst
      have HST := Lib.hid hst
      have HG2 := Lib.hid (grown_trans HG.out hg2)
      clear hst hcl hml hown2 hg2 hb2
      go_wp2_with fail
      go_roundw
      case rel => exact ⟨k + 1, by omega, by go_num, by go_num, HST.out.1, grown_trans HG2.out HST.out.2⟩
      case measure => simp [intOf]; omega
    · obtain rfl : k = L := by omega
      have HM := Lib.hid (markST_all xs m)
      go_wp2
      go_ret
      refine ⟨rfl, ?_, HG.out⟩
      rw [← HL.out, ← HM.out, HL.out]
      exact hown

set_option maxHeartbeats 1600000 in
theorem heldStringS_any (v : Value) (m : Int) (L : Nat) (w : World) (h : IsStrs w v (seqT m L)) (hx : L ≤ 1100000) (hm0 : 0 ≤ m) (hm : m ≤ 10000000) :
    Calls Try.prog 39 #[v, .int .i64 m] w fun e w' => e = .returned (.int .i64 (m + L)) ∧ Below w.heap.size w w' := by
  obtain ⟨a, cap, rfl, ha1, ha2, ha⟩ := h
  unfold maxLen at ha2
  rw [seqT_length] at ha1 ⊢
  have HA := Lib.hid ha
  clear ha
  go_enter Try.func39, Try.ntmps39
  go_wp2
  go_loopw [1, 5] (fun q i wr => ∃ k : Nat, k ≤ L ∧ i = .int .i64 k ∧ q = .int .i64 (m + k) ∧ Below w.heap.size w wr) (fun _ i _ => L - (intOf i).toNat)
  case atStart => exact ⟨0, Nat.zero_le _, rfl, by go_num, Below.refl _ _⟩
  case round =>
    obtain ⟨k, hk, rfl, rfl, hbel⟩ := hrel
    by_cases hlt : k < L
    · obtain ⟨g, off, rfl, hg, hc⟩ := HA.out.resolve_left (fun h => by have := seqT_length m L; rw [h] at this; simp at this; omega)
      have hcell := hc k (by rw [seqT_length]; exact hlt)
      rw [seqT_get] at hcell
      have hcell1 := (hbel.cell (p := ⟨g, off + k, none⟩) hg).trans hcell
      have HCC := Lib.hid (fun W' (hb : Below w.heap.size w W') => (hb.cell (p := ⟨g, off + k, none⟩) hg).trans hcell)
      have HB := Lib.hid hbel
      clear hc hcell hbel
      go_wp2_with fail
      go_region_with (go_at_call 73; refine (markTextS_any (m + k) (by omega) _).mono ?_; rintro e w2 ⟨rfl, hb2⟩; have hcell2 := HCC.out _ (HB.out.drew.trans (hb2.mono HB.out.size)))
      all_goals
        go_wp2_with fail
        go_roundw
        case rel => exact ⟨k + 1, by omega, by go_num, by go_num, HB.out.drew.trans (hb2.mono HB.out.size)⟩
        case measure => simp [intOf]; omega
    · obtain rfl : k = L := by omega
      go_wp2
      go_ret
      exact ⟨rfl, hbel⟩
end Go.Proofs.Ytggohgkjdnnndaa
