/- Sequents as plain mathematics: letters, assignments, validity; what the laws of chapter 1 ask. -/
import Derived.Test.YtbglimlhffbddaaMathG
import Derived.Test.YtbglimlhffbddaaSeqVF
namespace Go.Proofs.Ytbglimlhffbddaa
set_option linter.unusedVariables false

theorem toBs (s : ByteArray) : (⟨s.data.toList.toArray⟩ : ByteArray) = s := rfl
theorem holds_ev (L : List ByteArray) : ∀ f : F, f.holds L = f.ev fun s => isIn ⟨s.toArray⟩ L
  | .lt s => rfl
  | .an a b => by rw [F.holds, F.ev, holds_ev L a, holds_ev L b]
  | .or a b => by rw [F.holds, F.ev, holds_ev L a, holds_ev L b]
  | .no a => by rw [F.holds, F.ev, holds_ev L a]

theorem mem_addL : ∀ (f : F) (acc : List ByteArray) (s : ByteArray), s ∈ addL acc f ↔ s ∈ acc ∨ s.data.toList ∈ f.lets
  | .lt t, acc, s => by
    rw [addL, F.lets, List.mem_singleton]
    split
    · rename_i h
      rw [isIn_iff] at h
      constructor
      · exact Or.inl
      · rintro (h1 | h1)
        · exact h1
        · rw [← h1] at h; exact h
    · rw [List.mem_append, List.mem_singleton]
      constructor
      · rintro (h1 | h1)
        · exact .inl h1
        · subst h1; exact .inr rfl
      · rintro (h1 | h1)
        · exact .inl h1
        · rw [← h1]; exact .inr rfl
  | .an a b, acc, s => by rw [addL, mem_addL b, mem_addL a, F.lets, List.mem_append, or_assoc]
  | .or a b, acc, s => by rw [addL, mem_addL b, mem_addL a, F.lets, List.mem_append, or_assoc]
  | .no a, acc, s => by rw [addL, mem_addL a, F.lets]
theorem nodup_addL : ∀ (f : F) {acc : List ByteArray}, acc.Nodup → (addL acc f).Nodup
  | .lt t, acc, h => by
    rw [addL]
    split
    · exact h
    · rename_i h1
      rw [isIn_iff] at h1
      rw [List.nodup_append]
      exact ⟨h, by simp, fun a ha b hb => by rw [List.mem_singleton] at hb; subst hb; exact fun e => h1 (e ▸ ha)⟩
  | .an a b, acc, h => nodup_addL b (nodup_addL a h)
  | .or a b, acc, h => nodup_addL b (nodup_addL a h)
  | .no a, acc, h => nodup_addL a h
theorem addL_same : ∀ (f : F) {acc : List ByteArray}, (∀ s ∈ f.lets, (⟨s.toArray⟩ : ByteArray) ∈ acc) → addL acc f = acc
  | .lt t, acc, h => by rw [addL, if_pos (isIn_iff.2 (h t (List.mem_singleton.2 rfl)))]
  | .an a b, acc, h => by rw [addL, addL_same a fun s hs => h s (List.mem_append_left _ hs), addL_same b fun s hs => h s (List.mem_append_right _ hs)]
  | .or a b, acc, h => by rw [addL, addL_same a fun s hs => h s (List.mem_append_left _ hs), addL_same b fun s hs => h s (List.mem_append_right _ hs)]
  | .no a, acc, h => addL_same a h

theorem mem_addAll (fs : List F) : ∀ (acc : List ByteArray) (s : ByteArray), s ∈ addAll acc fs ↔ s ∈ acc ∨ ∃ f ∈ fs, s.data.toList ∈ f.lets := by
  induction fs with
  | nil => intro acc s; simp [addAll]
  | cons f fs ih =>
    intro acc s
    have := ih (addL acc f) s
    simp only [addAll, List.foldl_cons] at this ⊢
    rw [this, mem_addL]
    simp [or_assoc]
theorem nodup_addAll (fs : List F) : ∀ {acc : List ByteArray}, acc.Nodup → (addAll acc fs).Nodup := by
  induction fs with
  | nil => intro acc h; exact h
  | cons f fs ih => intro acc h; exact ih (nodup_addL f h)
theorem mem_seqL (fs gs : List F) (s : ByteArray) : s ∈ seqL fs gs ↔ (∃ f ∈ fs, s.data.toList ∈ f.lets) ∨ ∃ g ∈ gs, s.data.toList ∈ g.lets := by
  rw [seqL, mem_addAll, mem_addAll]; simp
theorem nodup_seqL (fs gs : List F) : (seqL fs gs).Nodup := nodup_addAll _ (nodup_addAll _ List.nodup_nil)

/-! ### Assignments -/
theorem pick_shift (b : Nat) : ∀ (L : List ByteArray) (i : Nat), pick b (i + 1) L = pick (b / 2) i L
  | [], i => rfl
  | s :: r, i => by rw [pick, pick, pick_shift b r (i + 1), Nat.testBit_succ]
theorem pick_all (P : ByteArray → Bool) : ∀ (L : List ByteArray), ∃ b, b < 2 ^ L.length ∧ pick b 0 L = L.filter P
  | [] => ⟨0, by simp, rfl⟩
  | s :: r => by
    obtain ⟨b, hb, he⟩ := pick_all P r
    rw [List.length_cons, Nat.pow_succ]
    cases h : P s with
    | true =>
      refine ⟨2 * b + 1, by omega, ?_⟩
      rw [pick, pick_shift, show (2 * b + 1) / 2 = b by omega, he, List.filter_cons, if_pos h, if_pos]
      rw [Nat.testBit_zero]; simp
    | false =>
      refine ⟨2 * b, by omega, ?_⟩
      have h0 : ¬ (2 * b).testBit 0 = true := by rw [Nat.testBit_zero]; simp
      have h1 : ¬ P s = true := by rw [h]; decide
      rw [pick, pick_shift, show (2 * b) / 2 = b by omega, he, List.filter_cons, if_neg h0, if_neg h1]
theorem isIn_filter {P : ByteArray → Bool} {L : List ByteArray} {s : ByteArray} (h : s ∈ L) : isIn s (L.filter P) = P s := by
  rw [Bool.eq_iff_iff, isIn_iff, List.mem_filter]
  exact ⟨fun h => h.2, fun h1 => ⟨h, h1⟩⟩
theorem pick_sub (b : Nat) : ∀ (L : List ByteArray) (i : Nat), (pick b i L).Sublist L
  | [], i => List.Sublist.refl _
  | s :: r, i => by
    rw [pick]
    split
    · exact (pick_sub b r (i + 1)).cons_cons s
    · exact (pick_sub b r (i + 1)).cons s

/-- Whether a sequent holds. -/
def sqEv (v : Bs → Bool) (fs gs : List F) : Bool := fs.any (fun f => !f.ev v) || gs.any (fun g => g.ev v)
theorem seqHolds_ev (L : List ByteArray) (fs gs : List F) : seqHolds L fs gs = sqEv (fun s => isIn ⟨s.toArray⟩ L) fs gs := by
  unfold seqHolds sqEv
  simp only [holds_ev]
theorem any_eq {l : List F} {p q : F → Bool} (h : ∀ f ∈ l, p f = q f) : l.any p = l.any q := by
  induction l with
  | nil => rfl
  | cons f l ih => rw [List.any_cons, List.any_cons, h f List.mem_cons_self, ih fun g hg => h g (List.mem_cons_of_mem _ hg)]
theorem sqEv_eq {v u : Bs → Bool} {fs gs : List F} (h : ∀ s ∈ seqL fs gs, v s.data.toList = u s.data.toList) : sqEv v fs gs = sqEv u fs gs := by
  unfold sqEv
  congr 1
  · exact any_eq fun f hf => by rw [F.ev_eq fun s hs => h ⟨s.toArray⟩ ((mem_seqL _ _ _).2 (.inl ⟨f, hf, hs⟩))]
  · exact any_eq fun f hf => by rw [F.ev_eq fun s hs => h ⟨s.toArray⟩ ((mem_seqL _ _ _).2 (.inr ⟨f, hf, hs⟩))]
theorem ff_valid {fs gs : List F} (h : ff (seqL fs gs) fs gs = none) (v : Bs → Bool) : sqEv v fs gs = true := by
  obtain ⟨b, hb, he⟩ := pick_all (fun s => v s.data.toList) (seqL fs gs)
  unfold ff at h
  rw [List.find?_range_eq_none] at h
  have h := h b hb
  unfold failsAt at h
  rw [Bool.not_not, seqHolds_ev, he] at h
  rw [← h]
  exact sqEv_eq fun s hs => (isIn_filter (P := fun s => v s.data.toList) hs).symm
theorem valid_ff {fs gs : List F} (h : ∀ v, sqEv v fs gs = true) : ff (seqL fs gs) fs gs = none :=
  ff_none fun i hi => by unfold failsAt; rw [seqHolds_ev, h]; rfl
theorem ff_at {L : List ByteArray} {fs gs : List F} {b : Nat} (h : ff L fs gs = some b) : seqHolds (pick b 0 L) fs gs = false := by
  unfold ff at h
  have := List.find?_some h
  unfold failsAt at this
  simpa using this
theorem ffL_nodup (fs gs : List F) : (ffL (seqL fs gs) fs gs).Nodup := by
  unfold ffL
  split
  · exact (nodup_seqL fs gs).sublist (pick_sub _ _ _)
  · exact List.nodup_nil

theorem sq_dual {v : Bs → Bool} (fs gs : List F) : sqEv v (gs.map F.dual) (fs.map F.dual) = sqEv (fun s => !v s) fs gs := by
  have key : ∀ f : F, f.dual.ev v = !f.ev fun s => !v s := fun f => F.ev_dual fun s hs => by simp
  unfold sqEv
  rw [List.any_map, List.any_map, Bool.or_comm]
  congr 1
  · exact any_eq fun f hf => by rw [Function.comp, key]
  · exact any_eq fun f hf => by rw [Function.comp, key, Bool.not_not]
theorem seqL_dual (fs gs : List F) : (seqL (gs.map F.dual) (fs.map F.dual)).length = (seqL fs gs).length := by
  have key : ∀ s, s ∈ seqL (gs.map F.dual) (fs.map F.dual) ↔ s ∈ seqL fs gs := fun s => by
    rw [mem_seqL, mem_seqL, or_comm]
    simp only [List.mem_map]
    refine or_congr ?_ ?_
    all_goals
      constructor
      · rintro ⟨f, ⟨g, hg, rfl⟩, hs⟩; exact ⟨g, hg, by rw [F.lets_dual] at hs; exact hs⟩
      · rintro ⟨g, hg, hs⟩; exact ⟨_, ⟨g, hg, rfl⟩, by rw [F.lets_dual]; exact hs⟩
  exact Nat.le_antisymm ((nodup_seqL _ _).length_le_of_subset fun s hs => (key s).1 hs) ((nodup_seqL _ _).length_le_of_subset fun s hs => (key s).2 hs)
theorem valid_dual {fs gs : List F} (h : validO (some (fs, gs)) = true) : validO (some (gs.map F.dual, fs.map F.dual)) = true := by
  unfold validO at h ⊢
  simp only [Bool.and_eq_true, decide_eq_true_iff, Bool.not_eq_true', Option.isSome_eq_false_iff, Option.isNone_iff_eq_none] at h ⊢
  refine ⟨by rw [seqL_dual]; exact h.1, valid_ff fun v => ?_⟩
  rw [sq_dual]; exact ff_valid h.2 _
theorem valid_holds {fs gs : List F} (h : validO (some (fs, gs)) = true) (L : List ByteArray) : seqHolds L fs gs = true := by
  unfold validO at h
  simp only [Bool.and_eq_true, decide_eq_true_iff, Bool.not_eq_true', Option.isSome_eq_false_iff, Option.isNone_iff_eq_none] at h
  rw [seqHolds_ev]; exact ff_valid h.2 _

/-- A formula and what is pushed, both ways. -/
theorem valid_push {f : F} (h : (addL [] f).length ≤ 10) : validO (some ([f], [f.push false])) = true ∧ validO (some ([f.push false], [f])) = true := by
  have e1 : seqL [f] [f.push false] = addL [] f := by
    show addL (addL [] f) (f.push false) = addL [] f
    exact addL_same _ fun s hs => (mem_addL _ _ _).2 (.inr (by rw [F.lets_push] at hs; exact hs))
  have e2 : (seqL [f.push false] [f]).length ≤ 10 := by
    have key : ∀ s, s ∈ seqL [f.push false] [f] ↔ s ∈ addL [] f := fun s => by
      rw [mem_seqL, mem_addL]; simp [F.lets_push]
    exact Nat.le_trans ((nodup_seqL _ _).length_le_of_subset fun s hs => (key s).1 hs) h
  unfold validO
  simp only [Bool.and_eq_true, decide_eq_true_iff, Bool.not_eq_true', Option.isSome_eq_false_iff, Option.isNone_iff_eq_none]
  refine ⟨⟨by rw [e1]; exact h, valid_ff fun v => ?_⟩, ⟨e2, valid_ff fun v => ?_⟩⟩
  all_goals
    unfold sqEv
    simp only [List.any_cons, List.any_nil, F.ev_push]
    cases f.ev v <;> rfl

/-- A letter that is not there does not matter. -/
theorem holds_wider {f : F} {L : List ByteArray} {t : ByteArray} (h : isIn t (addL [] f) = false) : f.holds (L ++ [t]) = f.holds L := by
  rw [holds_ev, holds_ev]
  refine F.ev_eq fun s hs => ?_
  rw [Bool.eq_iff_iff, isIn_iff, isIn_iff, List.mem_append, List.mem_singleton]
  constructor
  · rintro (h1 | h1)
    · exact h1
    · exfalso
      subst h1
      have : isIn ⟨s.toArray⟩ (addL [] f) = true := isIn_iff.2 ((mem_addL _ _ _).2 (.inr hs))
      rw [h] at this; cases this
  · exact .inl
/-- The dual where the others hold. -/
theorem holds_dual {f : F} {L M : List ByteArray} (h : ∀ s ∈ addL [] f, isIn s L = !isIn s M) : f.dual.holds L = !f.holds M := by
  rw [holds_ev, holds_ev]
  exact F.ev_dual fun s hs => h ⟨s.toArray⟩ ((mem_addL _ _ _).2 (.inr hs))

end Go.Proofs.Ytbglimlhffbddaa
