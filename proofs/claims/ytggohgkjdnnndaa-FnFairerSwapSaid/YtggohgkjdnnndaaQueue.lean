/- A map that numbers keys in the order in which they came. No program, no condition. -/
import Derived.Test.YtggohgkjdnnndaaApart
namespace Go.Proofs.Ytggohgkjdnnndaa
open Go.RowKit Go.Maps

section
variable {H : Type} {α : Type}
/-- the keys with their numbers -/
def qD (key : α → Lit) (ks : List α) : DataW H := (ks.foldl (fun (p : Nat × DataW H) k => (p.1 + 1, p.2.put (key k) (.lit (.int .i64 (p.1 : Int))))) (0, .map [])).2
theorem qD_fold (key : α → Lit) (ks : List α) (p : Nat × DataW H) : (ks.foldl (fun (p : Nat × DataW H) k => (p.1 + 1, p.2.put (key k) (.lit (.int .i64 (p.1 : Int))))) p).1 = p.1 + ks.length := by
  induction ks generalizing p with
  | nil => rfl
  | cons k ks ih => rw [List.foldl_cons, ih]; simp; omega
theorem qD_nil (key : α → Lit) : qD (H := H) key [] = .map [] := rfl
theorem qD_snoc (key : α → Lit) (ks : List α) (k : α) : qD (H := H) key (ks ++ [k]) = (qD key ks).put (key k) (.lit (.int .i64 (ks.length : Int))) := by
  unfold qD
  rw [List.foldl_append, List.foldl_cons, List.foldl_nil, qD_fold]
  simp
theorem snoc_ind {P : List α → Prop} (h0 : P []) (h1 : ∀ l b, P l → P (l ++ [b])) (l : List α) : P l := by
  have : ∀ n (l : List α), l.length = n → P l := by
    intro n
    induction n with
    | zero => intro l h; rw [List.length_eq_zero_iff] at h; subst h; exact h0
    | succ n ih =>
      intro l h
      rcases List.eq_nil_or_concat l with rfl | ⟨l', b', rfl⟩
      · cases h
      · rw [List.concat_eq_append] at h ⊢
        exact h1 _ _ (ih l' (by simpa using h))
  exact this _ l rfl
theorem qD_isMap (key : α → Lit) (ks : List α) : IsMap (qD (H := H) key ks) := by
  induction ks using snoc_ind with
  | h0 => exact isMap_empty
  | h1 l b ih => rw [qD_snoc]; exact ih.put _ _
variable [DecidableEq α]
theorem qD_has (key : α → Lit) (hkey : ∀ x, WideAt.IsKeyLit (key x)) (ks : List α) (k : α) (hk : ∀ x ∈ ks, key k = key x → k = x) : has (qD (H := H) key ks) (key k) = decide (k ∈ ks) := by
  induction ks using snoc_ind with
  | h0 => simp [qD_nil, has_eq]
  | h1 l b ih =>
    rw [qD_snoc]
    by_cases e : k = b
    · subst e
      rw [has_put_same (qD_isMap _ _) (hkey _)]
      simp
    · rw [has_put_other (fun e2 => e (hk b (by simp) e2)), ih (fun x hx => hk x (by simp [hx]))]
      simp [e]
theorem qD_at (key : α → Lit) (hkey : ∀ x, WideAt.IsKeyLit (key x)) (ks : List α) (hn : ks.Nodup) (k : α) (hk : ∀ x ∈ ks, key k = key x → k = x) (hm : k ∈ ks) (z : DataW H) : (qD (H := H) key ks).atKey (key k) z = .lit (.int .i64 (ks.idxOf k : Int)) := by
  induction ks using snoc_ind with
  | h0 => cases hm
  | h1 l b ih =>
    rw [qD_snoc]
    have hnd := List.nodup_append.1 hn
    by_cases e : k = b
    · subst e
      have hni : k ∉ l := fun hx => hnd.2.2 k hx k (by simp) rfl
      rw [atKey_put_same (qD_isMap _ _) (hkey _), List.idxOf_append, if_neg hni]
      simp
    · have hm' : k ∈ l := by simpa [e] using hm
      rw [atKey_put_other (fun e2 => e (hk b (by simp) e2)), ih hnd.1 (fun x hx => hk x (by simp [hx])) hm', List.idxOf_append, if_pos hm']
end

/-- a key that a map's literal lays -/
theorem wpList_insert_own {H : Type} {P : Program} (w : World) {ops : Array Oper} {rest : List Oper} {o : Oper} {a : Act} {Q : Exit → Act → World → Prop}
    (hg : o.guard = none) (m x v : Operand) (t : TypeId) (hop : o.op = Op.insert t m x v)
    (k e : TypeId) (K : Keyed P k) (ht : P.underlying t = some (.map k e)) (R : Value → Option (DataW H × List MemPlace)) (b n : Nat) (D : DataW H)
    (hm : a.eval m = .map (some b)) (hown : w.ownsMap P k R b n D) (hn : n < maxLen) (key val : Value) (kl : Lit) (hx : a.eval x = key) (hv : a.eval v = val) (hkey : keyOf P k key = some kl)
    (d : DataW H) (ps : List MemPlace) (hval : R val = some (d, ps))
    (hK : ∀ w', w'.ownsMap P k R b (n + 1) (D.put kl d) → w.grownBy w' (some b) → wpList P ops Q rest (a.put o.dst undef) w') :
    wpList P ops Q (o :: rest) a w := by
  refine wpList_plain hg fun K' hK' => ?_
  obtain ⟨w2, e1, e2, e3⟩ := hown.update K ht hn hkey hval
  unfold Oper.wp
  simp [execOp, hop, hm, hx, hv, e1, Result.andThen]
  exact hK' _ _ (hK w2 e2 e3)

/-! things apart, by their place in the list -/
theorem set_perm {β : Type} : ∀ (ts : List β) (i : Nat), i < ts.length → ∀ t', (ts.set i t').Perm (t' :: ts.eraseIdx i)
  | _ :: _, 0, _, _ => List.Perm.refl _
  | t :: ts, i + 1, h, t' => ((set_perm ts i (by simpa using h) t').cons t).trans (List.Perm.swap _ _ _)
theorem Apart.sub {B : Nat} {ts us : List Thing} {w : World} (h : Apart B ts w) (s : us.Sublist ts) : Apart B us w := ⟨fun t ht => h.all t (s.mem ht), h.two.sublist s⟩
theorem Apart.at {B : Nat} {ts : List Thing} {w : World} (h : Apart B ts w) (i : Nat) (hi : i < ts.length) : ts[i].says w := (h.all _ (List.getElem_mem hi)).1
theorem Apart.ltAt {B : Nat} {ts : List Thing} {w : World} (h : Apart B ts w) (i : Nat) (hi : i < ts.length) : ∀ k, ts[i].blk = some k → B ≤ k ∧ k < w.heap.size := (h.all _ (List.getElem_mem hi)).2
theorem Apart.turnAt {B : Nat} {ts : List Thing} {w w' : World} (h : Apart B ts w) (i : Nat) (hi : i < ts.length) (hg : w.grownBy w' ts[i].blk) (t' : Thing) (ht : t'.says w') (hB : B ≤ w.heap.size)
    (hk : ∀ k, t'.blk = some k → (ts[i].blk = some k ∨ w.heap.size ≤ k) ∧ k < w'.heap.size) : Apart B (ts.set i t') w' := by
  have h1 : Apart B (ts[i] :: ts.eraseIdx i) w := h.perm (by have := set_perm ts i hi ts[i]; rwa [List.set_getElem_self] at this)
  exact (h1.turn hg t' ht hB hk).perm (set_perm ts i hi t').symm
theorem Apart.setAt {B b : Nat} {cs : Array Value} {t : TypeId} {ts : List Thing} {w : World} (h : Apart B ts w) (i : Nat) (hi : i < ts.length) (he : ts[i] = cellsT b cs t) (hB : B ≤ w.heap.size) (j : Nat) (u : Value) :
    Apart B (ts.set i (cellsT b (cs.setIfInBounds j u) t)) (w.setCell ⟨b, j, none⟩ u) := by
  have hs := h.at i hi
  have hl := h.ltAt i hi
  rw [he] at hs hl
  exact h.turnAt i hi (by rw [he]; exact grown_setCell w b j u) _ (cellsT_set hs j u) hB (fun k e => ⟨.inl (by rw [he]; exact e), by have := (hl k e).2; simpa using this⟩)
end Go.Proofs.Ytggohgkjdnnndaa
