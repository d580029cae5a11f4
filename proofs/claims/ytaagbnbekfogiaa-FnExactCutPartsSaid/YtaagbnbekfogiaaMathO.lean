/- What is renamed or put is a program again, if there are not too many names: plain mathematics. -/
import Derived.Test.YtaagbnbekfogiaaMathB
namespace Go.Proofs.Ytaagbnbekfogiaa
set_option linter.unusedVariables false

/-- A scope gives names of variables for variables, and of covariables for covariables. -/
def ScOk (sc : List (Bs × Bs)) : Prop := ∀ o n, (o, n) ∈ sc → isName n = true ∧ firstIs varB n = firstIs varB o
def ScNok (sc : List (Bs × Bs)) : Prop := ∀ o n, (o, n) ∈ sc → nmB n = true
theorem look_mem {sc : List (Bs × Bs)} {s n : Bs} (h : look sc s = some n) : (s, n) ∈ sc := by
  induction sc with
  | nil => cases h
  | cons e sc ih =>
    obtain ⟨o, m⟩ := e
    rw [look] at h
    split at h
    · rename_i e; injection h with h; subst e; subst h; simp
    · exact List.mem_cons_of_mem _ (ih h)
def GOk (free : List Bs) (g : Bs → St → P × St) : Prop := ∀ s st a, isName s = true → StOk free st a → a + (g s st).1.binders + free.length ≤ 998 → (g s st).1.ok = true ∧ (g s st).1.kind = (P.nm s).kind
def GNok (free : List Bs) (g : Bs → St → P × St) : Prop := ∀ s st a, nmB s = true → StOk free st a → a + (g s st).1.binders + free.length ≤ 900000 → (g s st).1.nok = true

theorem ren_ok {free : List Bs} {g : Bs → St → P × St} (hg : GOk free g) (hs : GSt free g) : ∀ (p : P) (sc : List (Bs × Bs)) (st : St) (a : Nat), p.ok = true → ScOk sc → StOk free st a → a + (p.ren free g sc st).1.binders + free.length ≤ 998 →
    (p.ren free g sc st).1.ok = true ∧ (p.ren free g sc st).1.kind = p.kind
  | .nm s, sc, st, a, hk, hsc, h, hb => by
    rw [P.ok] at hk
    rw [P.ren] at hb ⊢
    cases hl : look sc s with
    | none => rw [hl] at hb; exact hg s st a hk h hb
    | some n =>
      obtain ⟨h1, h2⟩ := hsc s n (look_mem hl)
      exact ⟨h1, by simp only [P.kind, h2]⟩
  | .f1 x p, sc, st, a, hk, hsc, h, hb => by
    rw [P.ok, Bool.and_eq_true, decide_eq_true_iff] at hk
    rw [P.ren, P.binders] at hb
    obtain ⟨h1, h2⟩ := ren_ok hg hs p sc st a hk.1 hsc h hb
    rw [P.ren]
    refine ⟨?_, rfl⟩
    rw [P.ok, h1, h2, Bool.true_and, decide_eq_true_iff]
    exact hk.2
  | .f2 x p q, sc, st, a, hk, hsc, h, hb => by
    rw [P.ok, Bool.and_eq_true, Bool.and_eq_true, decide_eq_true_iff] at hk
    rw [P.ren, P.binders] at hb
    obtain ⟨h1, h2⟩ := ren_ok hg hs p sc st a hk.1.1 hsc h (by omega)
    have hst := ren_st hs p sc st a h
    obtain ⟨g1, g2⟩ := ren_ok hg hs q sc _ _ hk.1.2 hsc hst (by omega)
    rw [P.ren]
    refine ⟨?_, rfl⟩
    rw [P.ok, h1, g1, h2, g2, Bool.true_and, Bool.true_and, decide_eq_true_iff]
    exact hk.2
  | .bd s b, sc, st, a, hk, hsc, h, hb => by
    rw [P.ok, Bool.and_eq_true, Bool.and_eq_true, decide_eq_true_iff] at hk
    rw [P.ren, P.binders] at hb
    have hp := (nxt_pot (h (firstIs varB s))).1
    have n1 := cname_name (v := firstIs varB s) (i := nxt free (firstIs varB s) (st.get (firstIs varB s))) (by omega)
    have n2 := cname_first (firstIs varB s) (nxt free (firstIs varB s) (st.get (firstIs varB s)))
    obtain ⟨g1, g2⟩ := ren_ok hg hs b ((s, cname (firstIs varB s) (nxt free (firstIs varB s) (st.get (firstIs varB s)))) :: sc) _ (a + 1) hk.1.2
      (fun o n hm => by rcases List.mem_cons.1 hm with e | hm; (injection e with e1 e2; subst e1; subst e2; exact ⟨n1, n2⟩); exact hsc o n hm) (stOk_next h (firstIs varB s)) (by omega)
    rw [P.ren]
    refine ⟨?_, ?_⟩
    · rw [P.ok, n1, g1, g2, hk.2]; rfl
    · rw [P.kind, P.kind, n2]
theorem ren_nok {free : List Bs} {g : Bs → St → P × St} (hg : GNok free g) (hs : GSt free g) : ∀ (p : P) (sc : List (Bs × Bs)) (st : St) (a : Nat), p.nok = true → ScNok sc → StOk free st a → a + (p.ren free g sc st).1.binders + free.length ≤ 900000 →
    (p.ren free g sc st).1.nok = true
  | .nm s, sc, st, a, hk, hsc, h, hb => by
    rw [P.nok] at hk
    rw [P.ren] at hb ⊢
    cases hl : look sc s with
    | none => rw [hl] at hb; exact hg s st a hk h hb
    | some n => exact hsc s n (look_mem hl)
  | .f1 x p, sc, st, a, hk, hsc, h, hb => by
    rw [P.nok] at hk
    rw [P.ren, P.binders] at hb
    exact ren_nok hg hs p sc st a hk hsc h hb
  | .f2 x p q, sc, st, a, hk, hsc, h, hb => by
    rw [P.nok, Bool.and_eq_true] at hk
    rw [P.ren, P.binders] at hb
    have h1 := ren_nok hg hs p sc st a hk.1 hsc h (by omega)
    have hst := ren_st hs p sc st a h
    have g1 := ren_nok hg hs q sc _ _ hk.2 hsc hst (by omega)
    rw [P.ren, P.nok, h1, g1]; rfl
  | .bd s b, sc, st, a, hk, hsc, h, hb => by
    rw [P.nok, Bool.and_eq_true] at hk
    rw [P.ren, P.binders] at hb
    have hp := (nxt_pot (h (firstIs varB s))).1
    have n1 := nmB_cname (v := firstIs varB s) (i := nxt free (firstIs varB s) (st.get (firstIs varB s))) (by omega)
    have g1 := ren_nok hg hs b ((s, cname (firstIs varB s) (nxt free (firstIs varB s) (st.get (firstIs varB s)))) :: sc) _ (a + 1) hk.2
      (fun o n hm => by rcases List.mem_cons.1 hm with e | hm; (injection e with e1 e2; subst e1; subst e2; exact n1); exact hsc o n hm) (stOk_next h (firstIs varB s)) (by omega)
    rw [P.ren, P.nok, n1, g1]; rfl
theorem gok_stay (free : List Bs) : GOk free stay := fun s st a h _ _ => ⟨h, rfl⟩
theorem gnok_stay (free : List Bs) : GNok free stay := fun s st a h _ _ => h
theorem gok_put {free : List Bs} {n : Bs} {q : P} (hq : q.ok = true) (hk : q.kind = (P.nm n).kind) : GOk free (putAt free (some (n, q))) := fun s st a h hst hb => by
  rw [putAt] at hb ⊢
  split
  · rename_i e
    subst e
    rw [if_pos rfl] at hb
    obtain ⟨h1, h2⟩ := ren_ok (gok_stay free) (gst_stay free) q [] st a hq (fun o n hm => by cases hm) hst hb
    exact ⟨h1, h2.trans hk⟩
  · exact ⟨h, rfl⟩
theorem gnok_put {free : List Bs} {n : Bs} {q : P} (hq : q.nok = true) : GNok free (putAt free (some (n, q))) := fun s st a h hst hb => by
  rw [putAt] at hb ⊢
  split
  · rename_i e
    subst e
    rw [if_pos rfl] at hb
    exact ren_nok (gnok_stay free) (gst_stay free) q [] st a hq (fun o n hm => by cases hm) hst hb
  · exact h

theorem canon_ok {p : P} (hok : p.ok = true) (hs : p.size ≤ 500) : p.canon.ok = true ∧ p.canon.kind = p.kind := by
  have h1 := p.canon.binders_size
  have h2 := p.binders_uses
  rw [p.canon_size] at h1
  exact ren_ok (gok_stay _) (gst_stay _) p [] ⟨0, 0⟩ 0 hok (fun o n hm => by cases hm) (stOk_zero _) (by
    have : (p.ren p.uses stay [] ⟨0, 0⟩).1.binders = p.canon.binders := rfl
    omega)
theorem canon_nok {p : P} (hok : p.nok = true) (hs : p.size ≤ 500000) : p.canon.nok = true := by
  have h1 := p.canon.binders_size
  have h2 := p.binders_uses
  rw [p.canon_size] at h1
  exact ren_nok (gnok_stay _) (gst_stay _) p [] ⟨0, 0⟩ 0 hok (fun o n hm => by cases hm) (stOk_zero _) (by
    have : (p.ren p.uses stay [] ⟨0, 0⟩).1.binders = p.canon.binders := rfl
    omega)

/-- The names that are free in what results, as the program lists them. -/
def putFree (p : P) (n : Bs) (q : P) : List Bs := if (minus p.uses n).length < p.uses.length then minus p.uses n ++ q.uses else minus p.uses n
/-- One put for a name. -/
def P.put (p : P) (n : Bs) (q : P) : P := (p.ren (putFree p n q) (putAt (putFree p n q) (some (n, q))) [] ⟨0, 0⟩).1

theorem minus_lt_iff {l : List Bs} {s : Bs} : (minus l s).length < l.length ↔ s ∈ l := by
  constructor
  · intro h
    rcases Decidable.em (s ∈ l) with hm | hm
    · exact hm
    · exfalso
      have : minus l s = l := by
        unfold minus
        rw [List.filter_eq_self]
        intro a ha
        rw [decide_eq_true_iff]
        intro e; subst e; exact hm ha
      rw [this] at h; omega
  · exact minus_lt
theorem B.cl_mono : ∀ (d : B) (k l : Nat), k ≤ l → d.cl k → d.cl l
  | .fr _, _, _, _, _ => True.intro
  | .bv i, k, l, h, hc => Nat.lt_of_lt_of_le hc h
  | .f1 _ d, k, l, h, hc => d.cl_mono k l h hc
  | .f2 _ d e, k, l, h, hc => ⟨d.cl_mono k l h hc.1, e.cl_mono k l h hc.2⟩
  | .bd _ d, k, l, h, hc => d.cl_mono (k + 1) (l + 1) (by omega) hc
theorem B.sub_cl (n : Bs) (e : B) (he : e.cl 0) : ∀ (d : B) (k : Nat), d.cl k → (d.sub n e).cl k
  | .fr s, k, h => by
    rw [B.sub]
    split
    · exact e.cl_mono 0 k (Nat.zero_le _) he
    · exact True.intro
  | .bv i, k, h => h
  | .f1 _ d, k, h => B.sub_cl n e he d k h
  | .f2 _ d d', k, h => ⟨B.sub_cl n e he d k h.1, B.sub_cl n e he d' k h.2⟩
  | .bd _ d, k, h => B.sub_cl n e he d (k + 1) h
theorem B.sub_frs (n : Bs) (e : B) : ∀ (d : B) (s : Bs), s ∈ (d.sub n e).frs → (s ∈ d.frs ∧ s ≠ n) ∨ (n ∈ d.frs ∧ s ∈ e.frs)
  | .fr t, s, h => by
    rw [B.sub] at h
    split at h
    · rename_i e; subst e; exact .inr ⟨by simp [B.frs], h⟩
    · rename_i e
      simp only [B.frs, List.mem_singleton] at h ⊢
      subst h
      exact .inl ⟨rfl, Ne.symm e⟩
  | .bv i, s, h => by cases h
  | .f1 _ d, s, h => B.sub_frs n e d s h
  | .f2 _ d d', s, h => by
    rw [B.sub, B.frs, List.mem_append] at h
    rw [B.frs, List.mem_append, List.mem_append]
    rcases h with h | h
    · rcases B.sub_frs n e d s h with h | h
      · exact .inl ⟨.inl h.1, h.2⟩
      · exact .inr ⟨.inl h.1, h.2⟩
    · rcases B.sub_frs n e d' s h with h | h
      · exact .inl ⟨.inr h.1, h.2⟩
      · exact .inr ⟨.inr h.1, h.2⟩
  | .bd _ d, s, h => B.sub_frs n e d s h

theorem P.put_db (p : P) (n : Bs) (q : P) : (p.put n q).db [] = (p.db []).sub n (q.db []) := by
  rw [P.put, P.put_nam]
  refine B.db_nam _ _ [] _ (given_nil _ _) (B.sub_cl n _ (q.db_cl []) _ 0 (p.db_cl [])) fun s hs => ?_
  unfold putFree
  rcases B.sub_frs _ _ _ _ hs with ⟨h1, h2⟩ | ⟨h1, h2⟩
  · rw [p.db_frs] at h1
    have hm : s ∈ minus p.uses n := mem_minus.2 ⟨h1.1, h2⟩
    split
    · exact List.mem_append.2 (.inl hm)
    · exact hm
  · rw [p.db_frs] at h1
    rw [q.db_frs] at h2
    rw [if_pos (minus_lt_iff.2 h1.1)]
    exact List.mem_append.2 (.inr h2.1)

def B.count (n : Bs) : B → Nat
  | .fr s => if s = n then 1 else 0
  | .bv _ => 0
  | .f1 _ d => B.count n d
  | .f2 _ d e => B.count n d + B.count n e
  | .bd _ d => B.count n d
theorem P.db_count (n : Bs) : ∀ (p : P) (ctx : List Bs), B.count n (p.db ctx) = if n ∈ ctx then 0 else p.count n
  | .nm s, ctx => by
    rw [P.db, P.count]
    cases h : idx ctx s with
    | none =>
      have hn := idx_none.1 h
      simp only [B.count]
      by_cases e : s = n
      · subst e; simp [hn]
      · simp [e]
    | some i =>
      have hm : s ∈ ctx := Decidable.byContradiction fun hn => by rw [idx_none.2 hn] at h; cases h
      simp only [B.count]
      by_cases e : s = n
      · subst e; simp [hm]
      · simp [e]
  | .f1 _ p, ctx => P.db_count n p ctx
  | .f2 _ p q, ctx => by
    rw [P.db, B.count, P.db_count n p ctx, P.db_count n q ctx, P.count]
    split <;> rfl
  | .bd s b, ctx => by
    rw [P.db, B.count, P.db_count n b (s :: ctx), P.count]
    by_cases e : s = n
    · subst e; simp
    · have : (n ∈ s :: ctx) ↔ n ∈ ctx := by simp [Ne.symm e]
      simp only [this, e, if_false]
theorem B.size_pos : ∀ d : B, 1 ≤ d.size
  | .fr _ => Nat.le_refl _
  | .bv _ => Nat.le_refl _
  | .f1 _ d => by rw [B.size]; omega
  | .f2 _ d e => by rw [B.size]; omega
  | .bd _ d => by rw [B.size]; omega
theorem B.sub_size (n : Bs) (e : B) : ∀ d : B, (d.sub n e).size = d.size + B.count n d * (e.size - 1)
  | .fr s => by
    have := e.size_pos
    rw [B.sub, B.count]
    by_cases h : n = s
    · subst h; simp [B.size]; omega
    · rw [if_neg h, if_neg (Ne.symm h)]; simp
  | .bv i => by simp [B.sub, B.count]
  | .f1 _ d => by rw [B.sub, B.size, B.sub_size n e d, B.size, B.count]; omega
  | .f2 _ d d' => by rw [B.sub, B.size, B.sub_size n e d, B.sub_size n e d', B.size, B.count, Nat.add_mul]; omega
  | .bd _ d => by rw [B.sub, B.size, B.sub_size n e d, B.size, B.count]; omega
theorem P.put_size (p : P) (n : Bs) (q : P) : (p.put n q).size = p.size + p.count n * (q.size - 1) := by
  rw [← (p.put n q).db_size [], P.put_db, B.sub_size, p.db_size, q.db_size, P.db_count]; simp

theorem putFree_len (p : P) (n : Bs) (q : P) : (putFree p n q).length ≤ p.uses.length + q.uses.length := by
  unfold putFree
  have := minus_len p.uses n
  split
  · rw [List.length_append]; omega
  · omega
/-- What is put in a program of at most 500 atoms is a program again, if it has at most 500 atoms. -/
theorem put_ok {p : P} {n : Bs} {q : P} (hp : p.ok = true) (hq : q.ok = true) (hk : q.kind = (P.nm n).kind) (hs : p.size + q.size ≤ 500) (h5 : (p.put n q).size ≤ 500) : (p.put n q).ok = true ∧ (p.put n q).kind = p.kind := by
  have h1 := (p.put n q).binders_size
  have h2 := p.uses_len
  have h3 := q.uses_len
  have h4 := putFree_len p n q
  exact ren_ok (gok_put hq hk) (gst_put _ _) p [] ⟨0, 0⟩ 0 hp (fun o n hm => by cases hm) (stOk_zero _) (by
    have : (p.ren (putFree p n q) (putAt (putFree p n q) (some (n, q))) [] ⟨0, 0⟩).1.binders = (p.put n q).binders := rfl
    omega)
theorem put_nok {p : P} {n : Bs} {q : P} (hp : p.nok = true) (hq : q.nok = true) (hs : p.size + q.size ≤ 500) (h5 : (p.put n q).size ≤ 500000) : (p.put n q).nok = true := by
  have h1 := (p.put n q).binders_size
  have h2 := p.uses_len
  have h3 := q.uses_len
  have h4 := putFree_len p n q
  exact ren_nok (gnok_put hq) (gst_put _ _) p [] ⟨0, 0⟩ 0 hp (fun o n hm => by cases hm) (stOk_zero _) (by
    have : (p.ren (putFree p n q) (putAt (putFree p n q) (some (n, q))) [] ⟨0, 0⟩).1.binders = (p.put n q).binders := rfl
    omega)
theorem mul_le (a b : Nat) (h : a + b ≤ 500) : a * b ≤ 62500 := by
  have key : ∀ x : Fin 501, x.val * (500 - x.val) ≤ 62500 := by decide +kernel
  have h1 := key ⟨a, by omega⟩
  simp only at h1
  have h2 := Nat.mul_le_mul_left a (show b ≤ 500 - a by omega)
  omega
theorem put_small {p : P} {n : Bs} {q : P} (hs : p.size + q.size ≤ 500) : (p.put n q).size ≤ 63000 := by
  rw [P.put_size]
  have h1 : p.count n ≤ p.size := by have := p.uses_count n; have := p.uses_len; omega
  have h2 : p.count n * (q.size - 1) ≤ p.size * q.size := Nat.mul_le_mul h1 (by omega)
  have h3 := mul_le p.size q.size hs
  omega

end Go.Proofs.Ytaagbnbekfogiaa
