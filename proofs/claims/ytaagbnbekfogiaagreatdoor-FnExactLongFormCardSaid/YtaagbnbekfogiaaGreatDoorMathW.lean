/- Programs with bound names as numbers: what is alike is equal there. Naming them gives the canonical programs. What is renamed or put is a program again, if there are not too many names: plain mathematics. Values and covalues, as plain mathematics. The model's way of putting, and duals: with bound names as numbers they are the same. Plain mathematics. Steps by value and by name, of the program and of the model: plain mathematics. The step by name is the dual of the step by value: plain mathematics. Sizes and shapes of what results. Steps of statements, one after another: plain mathematics. -/
import Derived.Test.YtaagbnbekfogiaaGreatDoorMathC
import Derived.Test.YtaagbnbekfogiaaGreatDoorMathU
namespace Go.Proofs.YtaagbnbekfogiaaGreatDoor
set_option linter.unusedVariables false

/-- A free name, a bound one by the number of binders between, forms, a binder of a variable or of a covariable. -/
inductive B where
  | fr (s : Bs)
  | bv (i : Nat)
  | f1 (h : Bs) (d : B)
  | f2 (h : Bs) (d e : B)
  | bd (v : Bool) (d : B)

def idx : List Bs → Bs → Option Nat
  | [], _ => none
  | o :: ctx, s => if o = s then some 0 else (idx ctx s).map (· + 1)
def P.db : List Bs → P → B
  | ctx, .nm s => match idx ctx s with
    | some i => .bv i
    | none => .fr s
  | ctx, .f1 h p => .f1 h (p.db ctx)
  | ctx, .f2 h p q => .f2 h (p.db ctx) (q.db ctx)
  | ctx, .bd s b => .bd (firstIs varB s) (b.db (s :: ctx))

def B.nam (free : List Bs) : List Bs → B → St → P × St
  | _, .fr s, st => (.nm s, st)
  | ctx, .bv i, st => (.nm (ctx.getD i []), st)
  | ctx, .f1 h d, st => (.f1 h (d.nam free ctx st).1, (d.nam free ctx st).2)
  | ctx, .f2 h d e, st => (.f2 h (d.nam free ctx st).1 (e.nam free ctx (d.nam free ctx st).2).1, (e.nam free ctx (d.nam free ctx st).2).2)
  | ctx, .bd v d, st =>
    let r := d.nam free (cname v (nxt free v (st.get v)) :: ctx) (st.put v (nxt free v (st.get v) + 1))
    (.bd (cname v (nxt free v (st.get v))) r.1, r.2)

/-- A closed e is put for a free name. -/
def B.sub : B → Bs → B → B
  | .fr s, n, e => if n = s then e else .fr s
  | .bv i, n, e => .bv i
  | .f1 h d, n, e => .f1 h (d.sub n e)
  | .f2 h d d', n, e => .f2 h (d.sub n e) (d'.sub n e)
  | .bd v d, n, e => .bd v (d.sub n e)
def B.frs : B → List Bs
  | .fr s => [s]
  | .bv _ => []
  | .f1 _ d => d.frs
  | .f2 _ d e => d.frs ++ e.frs
  | .bd _ d => d.frs
/-- Numbers are below k and the binders around. -/
def B.cl : Nat → B → Prop
  | _, .fr _ => True
  | k, .bv i => i < k
  | k, .f1 _ d => d.cl k
  | k, .f2 _ d e => d.cl k ∧ e.cl k
  | k, .bd _ d => d.cl (k + 1)
def B.size : B → Nat
  | .fr _ => 1
  | .bv _ => 1
  | .f1 _ d => 1 + d.size
  | .f2 _ d e => 1 + d.size + e.size
  | .bd _ d => 2 + d.size

theorem idx_lt : ∀ {ctx : List Bs} {s : Bs} {i : Nat}, idx ctx s = some i → i < ctx.length
  | [], s, i, h => by cases h
  | o :: ctx, s, i, h => by
    rw [idx] at h
    split at h
    · injection h with h; subst h; simp
    · cases hi : idx ctx s with
      | none => rw [hi] at h; cases h
      | some j => rw [hi] at h; injection h with h; have := idx_lt hi; subst h; simp; omega
theorem idx_none {ctx : List Bs} {s : Bs} : idx ctx s = none ↔ s ∉ ctx := by
  induction ctx with
  | nil => simp [idx]
  | cons o ctx ih =>
    rw [idx]
    by_cases h : o = s
    · subst h; simp
    · rw [if_neg h]
      cases hi : idx ctx s with
      | none => simp [ih.1 hi, Ne.symm h]
      | some j =>
        have : ¬ (s ∉ ctx) := fun hn => by rw [ih.2 hn] at hi; cases hi
        simp at this
        simp [this]
theorem idx_get : ∀ {ctx : List Bs} {i : Nat}, ctx.Nodup → i < ctx.length → idx ctx (ctx.getD i []) = some i
  | [], i, _, h => by simp at h
  | o :: ctx, 0, _, _ => if_pos rfl
  | o :: ctx, i + 1, hn, h => by
    rw [List.nodup_cons] at hn
    have hl : i < ctx.length := by simpa using h
    have ih := idx_get hn.2 hl
    have e : (o :: ctx).getD (i + 1) [] = ctx.getD i [] := by simp
    rw [e]
    have hne : ¬ o = ctx.getD i [] := fun he => hn.1 (by rw [he, List.getD_eq_getElem?_getD, List.getElem?_eq_getElem hl]; exact List.getElem_mem hl)
    show (if o = ctx.getD i [] then some 0 else (idx ctx (ctx.getD i [])).map (· + 1)) = some (i + 1)
    rw [if_neg hne, ih]
    rfl
theorem look_idx : ∀ (sc : List (Bs × Bs)) (s : Bs), look sc s = (idx (sc.map (·.1)) s).map fun i => (sc.map (·.2)).getD i []
  | [], s => rfl
  | (o, n) :: sc, s => by
    show (if o = s then some n else look sc s) = (if o = s then some 0 else (idx (sc.map (·.1)) s).map (· + 1)).map fun i => (n :: sc.map (·.2)).getD i []
    by_cases h : o = s
    · subst h; simp
    · rw [if_neg h, if_neg h, look_idx sc s]
      cases idx (sc.map (·.1)) s with
      | none => rfl
      | some i => simp

theorem P.db_cl : ∀ (p : P) (ctx : List Bs), (p.db ctx).cl ctx.length
  | .nm s, ctx => by
    rw [P.db]
    split
    · rename_i i h; exact idx_lt h
    · exact True.intro
  | .f1 _ p, ctx => p.db_cl ctx
  | .f2 _ p q, ctx => ⟨p.db_cl ctx, q.db_cl ctx⟩
  | .bd s b, ctx => b.db_cl (s :: ctx)

/-- What is closed is named without regard to what is around. -/
theorem B.nam_ctx (free : List Bs) : ∀ (d : B) (a c c' : List Bs) (st : St), d.cl a.length → d.nam free (a ++ c) st = d.nam free (a ++ c') st
  | .fr s, a, c, c', st, h => rfl
  | .bv i, a, c, c', st, h => by
    have h : i < a.length := h
    simp [B.nam, List.getD_eq_getElem?_getD, List.getElem?_append_left h]
  | .f1 _ d, a, c, c', st, h => by rw [B.nam, B.nam, d.nam_ctx free a c c' st h]
  | .f2 _ d e, a, c, c', st, h => by rw [B.nam, B.nam, d.nam_ctx free a c c' st h.1, e.nam_ctx free a c c' _ h.2]
  | .bd v d, a, c, c', st, h => by
    rw [B.nam, B.nam]
    have := d.nam_ctx free (cname v (nxt free v (st.get v)) :: a) c c' (st.put v (nxt free v (st.get v) + 1)) h
    rw [List.cons_append, List.cons_append] at this
    rw [this]

/-- Renaming is naming. -/
theorem P.ren_nam (free : List Bs) : ∀ (p : P) (sc : List (Bs × Bs)) (st : St), p.ren free stay sc st = (p.db (sc.map (·.1))).nam free (sc.map (·.2)) st
  | .nm s, sc, st => by
    rw [P.ren, P.db, look_idx]
    cases idx (sc.map (·.1)) s with
    | none => rfl
    | some i => rfl
  | .f1 _ p, sc, st => by rw [P.ren, P.db, B.nam, p.ren_nam free sc st]
  | .f2 _ p q, sc, st => by rw [P.ren, P.db, B.nam, p.ren_nam free sc st, q.ren_nam free sc _]
  | .bd s b, sc, st => by
    rw [P.ren, P.db, B.nam]
    have := b.ren_nam free ((s, cname (firstIs varB s) (nxt free (firstIs varB s) (st.get (firstIs varB s)))) :: sc) (st.put (firstIs varB s) (nxt free (firstIs varB s) (st.get (firstIs varB s)) + 1))
    rw [List.map_cons, List.map_cons] at this
    simp only [this]
theorem P.put_nam (free : List Bs) (n : Bs) (q : P) : ∀ (p : P) (sc : List (Bs × Bs)) (st : St), p.ren free (putAt free (some (n, q))) sc st = ((p.db (sc.map (·.1))).sub n (q.db [])).nam free (sc.map (·.2)) st
  | .nm s, sc, st => by
    rw [P.ren, P.db, look_idx]
    cases idx (sc.map (·.1)) s with
    | some i => rfl
    | none =>
      simp only [Option.map_none]
      rw [putAt, B.sub]
      by_cases h : n = s
      · rw [if_pos h, if_pos h, q.ren_nam free [] st]
        exact B.nam_ctx free (q.db []) [] [] (sc.map (·.2)) st (q.db_cl [])
      · rw [if_neg h, if_neg h]; rfl
  | .f1 _ p, sc, st => by rw [P.ren, P.db, B.sub, B.nam, P.put_nam free n q p sc st]
  | .f2 _ p p', sc, st => by rw [P.ren, P.db, B.sub, B.nam, P.put_nam free n q p sc st, P.put_nam free n q p' sc _]
  | .bd s b, sc, st => by
    rw [P.ren, P.db, B.sub, B.nam]
    have := P.put_nam free n q b ((s, cname (firstIs varB s) (nxt free (firstIs varB s) (st.get (firstIs varB s)))) :: sc) (st.put (firstIs varB s) (nxt free (firstIs varB s) (st.get (firstIs varB s)) + 1))
    rw [List.map_cons, List.map_cons] at this
    simp only [this]

theorem B.nam_mono (free : List Bs) : ∀ (d : B) (ctx : List Bs) (st : St) (v : Bool), st.get v ≤ (d.nam free ctx st).2.get v
  | .fr s, ctx, st, v => Nat.le_refl _
  | .bv i, ctx, st, v => Nat.le_refl _
  | .f1 _ d, ctx, st, v => d.nam_mono free ctx st v
  | .f2 _ d e, ctx, st, v => Nat.le_trans (d.nam_mono free ctx st v) (e.nam_mono free ctx _ v)
  | .bd u d, ctx, st, v => by
    have h := d.nam_mono free (cname u (nxt free u (st.get u)) :: ctx) (st.put u (nxt free u (st.get u) + 1)) v
    have h2 := (nxt_least free u (st.get u)).2.1
    refine Nat.le_trans ?_ h
    by_cases e : v = u
    · subst e; rw [St.get_same]; omega
    · rw [St.get_other _ _ _ _ e]; exact Nat.le_refl _

/-- What has been given out so far: not free, each once, and below the counts. -/
structure Given (free : List Bs) (ctx : List Bs) (st : St) : Prop where
  nodup : ctx.Nodup
  out : ∀ s ∈ ctx, s ∉ free ∧ ∃ v j, s = cname v j ∧ j < st.get v
theorem Given.next {free ctx : List Bs} {st : St} (h : Given free ctx st) (v : Bool) : Given free (cname v (nxt free v (st.get v)) :: ctx) (st.put v (nxt free v (st.get v) + 1)) := by
  obtain ⟨k1, k2, -⟩ := nxt_least free v (st.get v)
  constructor
  · rw [List.nodup_cons]
    refine ⟨fun hm => ?_, h.nodup⟩
    obtain ⟨-, u, j, e, hj⟩ := h.out _ hm
    obtain ⟨rfl, rfl⟩ := cname_kinds e
    omega
  · intro s hs
    rcases List.mem_cons.1 hs with rfl | hs
    · exact ⟨k1, v, _, rfl, by rw [St.get_same]; omega⟩
    · obtain ⟨h1, u, j, e, hj⟩ := h.out s hs
      refine ⟨h1, u, j, e, ?_⟩
      by_cases e : u = v
      · subst e; rw [St.get_same]; omega
      · rw [St.get_other _ _ _ _ e]; exact hj
theorem Given.mono {free ctx : List Bs} {st st' : St} (h : Given free ctx st) (hm : ∀ v, st.get v ≤ st'.get v) : Given free ctx st' :=
  ⟨h.nodup, fun s hs => by obtain ⟨h1, v, j, e, hj⟩ := h.out s hs; exact ⟨h1, v, j, e, Nat.lt_of_lt_of_le hj (hm v)⟩⟩
theorem given_nil (free : List Bs) (st : St) : Given free [] st := ⟨List.nodup_nil, fun s hs => by cases hs⟩

/-- What was named is read back. -/
theorem B.db_nam (free : List Bs) : ∀ (d : B) (ctx : List Bs) (st : St), Given free ctx st → d.cl ctx.length → (∀ s ∈ d.frs, s ∈ free) → ((d.nam free ctx st).1).db ctx = d
  | .fr s, ctx, st, hg, hc, hf => by
    rw [B.nam, P.db]
    have hn : idx ctx s = none := idx_none.2 fun hm => (hg.out s hm).1 (hf s (by simp [B.frs]))
    simp only [hn]
  | .bv i, ctx, st, hg, hc, hf => by
    rw [B.nam, P.db]
    simp only [idx_get hg.nodup hc]
  | .f1 _ d, ctx, st, hg, hc, hf => by rw [B.nam, P.db, d.db_nam free ctx st hg hc hf]
  | .f2 _ d e, ctx, st, hg, hc, hf => by
    rw [B.nam, P.db, d.db_nam free ctx st hg hc.1 (fun s hs => hf s (by simp [B.frs, hs])), e.db_nam free ctx _ (hg.mono fun v => d.nam_mono free ctx st v) hc.2 (fun s hs => hf s (by simp [B.frs, hs]))]
  | .bd v d, ctx, st, hg, hc, hf => by
    rw [B.nam, P.db, d.db_nam free _ _ (hg.next v) hc hf, cname_first]

theorem P.db_frs : ∀ (p : P) (ctx : List Bs) (s : Bs), s ∈ (p.db ctx).frs ↔ s ∈ p.uses ∧ s ∉ ctx
  | .nm t, ctx, s => by
    rw [P.db, P.uses]
    cases h : idx ctx t with
    | none =>
      have := idx_none.1 h
      simp only [B.frs, List.mem_singleton]
      constructor
      · rintro rfl; exact ⟨rfl, this⟩
      · exact fun h => h.1
    | some i =>
      have : ¬ (t ∉ ctx) := fun hn => by rw [idx_none.2 hn] at h; cases h
      simp only [B.frs, List.not_mem_nil, List.mem_singleton, false_iff]
      rintro ⟨rfl, h2⟩; exact this h2
  | .f1 _ p, ctx, s => p.db_frs ctx s
  | .f2 _ p q, ctx, s => by
    rw [P.db, B.frs, P.uses, List.mem_append, List.mem_append, p.db_frs ctx s, q.db_frs ctx s]
    constructor
    · rintro (h | h)
      · exact ⟨.inl h.1, h.2⟩
      · exact ⟨.inr h.1, h.2⟩
    · rintro ⟨h | h, h2⟩
      · exact .inl ⟨h, h2⟩
      · exact .inr ⟨h, h2⟩
  | .bd t b, ctx, s => by
    rw [P.db, B.frs, P.uses, b.db_frs (t :: ctx) s, mem_minus]
    simp only [List.mem_cons, not_or]
    constructor
    · rintro ⟨h1, h2, h3⟩; exact ⟨⟨h1, h2⟩, h3⟩
    · rintro ⟨⟨h1, h2⟩, h3⟩; exact ⟨h1, h2, h3⟩
theorem P.db_free (p : P) (s : Bs) : s ∈ (p.db []).frs ↔ s ∈ p.uses := by rw [p.db_frs]; simp

theorem B.nam_same {free free' : List Bs} (h : ∀ s, s ∈ free ↔ s ∈ free') : ∀ (d : B) (ctx : List Bs) (st : St), d.nam free ctx st = d.nam free' ctx st
  | .fr s, ctx, st => rfl
  | .bv i, ctx, st => rfl
  | .f1 _ d, ctx, st => by rw [B.nam, B.nam, d.nam_same h ctx st]
  | .f2 _ d e, ctx, st => by rw [B.nam, B.nam, d.nam_same h ctx st, e.nam_same h ctx _]
  | .bd v d, ctx, st => by rw [B.nam, B.nam, nxt_same h v, d.nam_same h _ _]

/-- The canonical program. -/
def P.canon (p : P) : P := (p.ren p.uses stay [] ⟨0, 0⟩).1
theorem P.canon_nam (p : P) : p.canon = ((p.db []).nam p.uses [] ⟨0, 0⟩).1 := by rw [P.canon, P.ren_nam]; rfl
theorem P.canon_db (p : P) : p.canon.db [] = p.db [] := by
  rw [P.canon_nam]
  exact B.db_nam _ _ [] _ (given_nil _ _) (p.db_cl []) fun s hs => (p.db_free s).1 hs
theorem P.canon_same {p q : P} (h : p.db [] = q.db []) : p.canon = q.canon := by
  rw [P.canon_nam, P.canon_nam, h]
  have hs : ∀ s, s ∈ p.uses ↔ s ∈ q.uses := fun s => by rw [← p.db_free, ← q.db_free, h]
  rw [B.nam_same hs]
theorem P.canon_free (p : P) (free : List Bs) (h : ∀ s, s ∈ free ↔ s ∈ p.uses) : (p.ren free stay [] ⟨0, 0⟩).1 = p.canon := by
  rw [P.canon_nam, P.ren_nam, List.map_nil, List.map_nil, B.nam_same h]

theorem P.db_size : ∀ (p : P) (ctx : List Bs), (p.db ctx).size = p.size
  | .nm s, ctx => by rw [P.db, P.size]; split <;> rfl
  | .f1 _ p, ctx => by rw [P.db, B.size, P.size, p.db_size]
  | .f2 _ p q, ctx => by rw [P.db, B.size, P.size, p.db_size, q.db_size]
  | .bd s b, ctx => by rw [P.db, B.size, P.size, b.db_size]
theorem P.size_same {p q : P} (h : p.db [] = q.db []) : p.size = q.size := by rw [← p.db_size [], ← q.db_size [], h]
theorem P.canon_size (p : P) : p.canon.size = p.size := P.size_same p.canon_db
theorem P.uses_same {p q : P} (h : p.db [] = q.db []) (s : Bs) : s ∈ p.uses ↔ s ∈ q.uses := by rw [← p.db_free, ← q.db_free, h]

end Go.Proofs.YtaagbnbekfogiaaGreatDoor

namespace Go.Proofs.YtaagbnbekfogiaaGreatDoor
set_option linter.unusedVariables false

/-- A scope gives names of variables for variables, and of covariables for covariables. -/
def ScOk (sc : List (Bs × Bs)) : Prop := ∀ o n, (o, n) ∈ sc → isName n = true ∧ firstIs varB n = firstIs varB o
def ScNok (sc : List (Bs × Bs)) : Prop := ∀ o n, (o, n) ∈ sc → nmB n = true
theorem look_mem {sc : List (Bs × Bs)} {s n : Bs} (h : look sc s = some n) : (s, n) ∈ sc := by
  induction sc with
  | nil => cases h
  | cons e sc ih =>
    obtain ⟨o, m⟩ := e
    rw [look] at h
    split at h
    · rename_i e; injection h with h; subst e; subst h; simp
    · exact List.mem_cons_of_mem _ (ih h)
def GOk (free : List Bs) (g : Bs → St → P × St) : Prop := ∀ s st a, isName s = true → StOk free st a → a + (g s st).1.binders + free.length ≤ 998 → (g s st).1.ok = true ∧ (g s st).1.kind = (P.nm s).kind
def GNok (free : List Bs) (g : Bs → St → P × St) : Prop := ∀ s st a, nmB s = true → StOk free st a → a + (g s st).1.binders + free.length ≤ 900000 → (g s st).1.nok = true

theorem ren_ok {free : List Bs} {g : Bs → St → P × St} (hg : GOk free g) (hs : GSt free g) : ∀ (p : P) (sc : List (Bs × Bs)) (st : St) (a : Nat), p.ok = true → ScOk sc → StOk free st a → a + (p.ren free g sc st).1.binders + free.length ≤ 998 →
    (p.ren free g sc st).1.ok = true ∧ (p.ren free g sc st).1.kind = p.kind
  | .nm s, sc, st, a, hk, hsc, h, hb => by
    rw [P.ok] at hk
    rw [P.ren] at hb ⊢
    cases hl : look sc s with
    | none => rw [hl] at hb; exact hg s st a hk h hb
    | some n =>
      obtain ⟨h1, h2⟩ := hsc s n (look_mem hl)
      exact ⟨h1, by simp only [P.kind, h2]⟩
  | .f1 x p, sc, st, a, hk, hsc, h, hb => by
    rw [P.ok, Bool.and_eq_true, decide_eq_true_iff] at hk
    rw [P.ren, P.binders] at hb
    obtain ⟨h1, h2⟩ := ren_ok hg hs p sc st a hk.1 hsc h hb
    rw [P.ren]
    refine ⟨?_, rfl⟩
    rw [P.ok, h1, h2, Bool.true_and, decide_eq_true_iff]
    exact hk.2
  | .f2 x p q, sc, st, a, hk, hsc, h, hb => by
    rw [P.ok, Bool.and_eq_true, Bool.and_eq_true, decide_eq_true_iff] at hk
    rw [P.ren, P.binders] at hb
    obtain ⟨h1, h2⟩ := ren_ok hg hs p sc st a hk.1.1 hsc h (by omega)
    have hst := ren_st hs p sc st a h
    obtain ⟨g1, g2⟩ := ren_ok hg hs q sc _ _ hk.1.2 hsc hst (by omega)
    rw [P.ren]
    refine ⟨?_, rfl⟩
    rw [P.ok, h1, g1, h2, g2, Bool.true_and, Bool.true_and, decide_eq_true_iff]
    exact hk.2
  | .bd s b, sc, st, a, hk, hsc, h, hb => by
    rw [P.ok, Bool.and_eq_true, Bool.and_eq_true, decide_eq_true_iff] at hk
    rw [P.ren, P.binders] at hb
    have hp := (nxt_pot (h (firstIs varB s))).1
    have n1 := cname_name (v := firstIs varB s) (i := nxt free (firstIs varB s) (st.get (firstIs varB s))) (by omega)
    have n2 := cname_first (firstIs varB s) (nxt free (firstIs varB s) (st.get (firstIs varB s)))
    obtain ⟨g1, g2⟩ := ren_ok hg hs b ((s, cname (firstIs varB s) (nxt free (firstIs varB s) (st.get (firstIs varB s)))) :: sc) _ (a + 1) hk.1.2
      (fun o n hm => by rcases List.mem_cons.1 hm with e | hm; (injection e with e1 e2; subst e1; subst e2; exact ⟨n1, n2⟩); exact hsc o n hm) (stOk_next h (firstIs varB s)) (by omega)
    rw [P.ren]
    refine ⟨?_, ?_⟩
    · rw [P.ok, n1, g1, g2, hk.2]; rfl
    · rw [P.kind, P.kind, n2]
theorem ren_nok {free : List Bs} {g : Bs → St → P × St} (hg : GNok free g) (hs : GSt free g) : ∀ (p : P) (sc : List (Bs × Bs)) (st : St) (a : Nat), p.nok = true → ScNok sc → StOk free st a → a + (p.ren free g sc st).1.binders + free.length ≤ 900000 →
    (p.ren free g sc st).1.nok = true
  | .nm s, sc, st, a, hk, hsc, h, hb => by
    rw [P.nok] at hk
    rw [P.ren] at hb ⊢
    cases hl : look sc s with
    | none => rw [hl] at hb; exact hg s st a hk h hb
    | some n => exact hsc s n (look_mem hl)
  | .f1 x p, sc, st, a, hk, hsc, h, hb => by
    rw [P.nok] at hk
    rw [P.ren, P.binders] at hb
    exact ren_nok hg hs p sc st a hk hsc h hb
  | .f2 x p q, sc, st, a, hk, hsc, h, hb => by
    rw [P.nok, Bool.and_eq_true] at hk
    rw [P.ren, P.binders] at hb
    have h1 := ren_nok hg hs p sc st a hk.1 hsc h (by omega)
    have hst := ren_st hs p sc st a h
    have g1 := ren_nok hg hs q sc _ _ hk.2 hsc hst (by omega)
    rw [P.ren, P.nok, h1, g1]; rfl
  | .bd s b, sc, st, a, hk, hsc, h, hb => by
    rw [P.nok, Bool.and_eq_true] at hk
    rw [P.ren, P.binders] at hb
    have hp := (nxt_pot (h (firstIs varB s))).1
    have n1 := nmB_cname (v := firstIs varB s) (i := nxt free (firstIs varB s) (st.get (firstIs varB s))) (by omega)
    have g1 := ren_nok hg hs b ((s, cname (firstIs varB s) (nxt free (firstIs varB s) (st.get (firstIs varB s)))) :: sc) _ (a + 1) hk.2
      (fun o n hm => by rcases List.mem_cons.1 hm with e | hm; (injection e with e1 e2; subst e1; subst e2; exact n1); exact hsc o n hm) (stOk_next h (firstIs varB s)) (by omega)
    rw [P.ren, P.nok, n1, g1]; rfl
theorem gok_stay (free : List Bs) : GOk free stay := fun s st a h _ _ => ⟨h, rfl⟩
theorem gnok_stay (free : List Bs) : GNok free stay := fun s st a h _ _ => h
theorem gok_put {free : List Bs} {n : Bs} {q : P} (hq : q.ok = true) (hk : q.kind = (P.nm n).kind) : GOk free (putAt free (some (n, q))) := fun s st a h hst hb => by
  rw [putAt] at hb ⊢
  split
  · rename_i e
    subst e
    rw [if_pos rfl] at hb
    obtain ⟨h1, h2⟩ := ren_ok (gok_stay free) (gst_stay free) q [] st a hq (fun o n hm => by cases hm) hst hb
    exact ⟨h1, h2.trans hk⟩
  · exact ⟨h, rfl⟩
theorem gnok_put {free : List Bs} {n : Bs} {q : P} (hq : q.nok = true) : GNok free (putAt free (some (n, q))) := fun s st a h hst hb => by
  rw [putAt] at hb ⊢
  split
  · rename_i e
    subst e
    rw [if_pos rfl] at hb
    exact ren_nok (gnok_stay free) (gst_stay free) q [] st a hq (fun o n hm => by cases hm) hst hb
  · exact h

theorem canon_ok {p : P} (hok : p.ok = true) (hs : p.size ≤ 500) : p.canon.ok = true ∧ p.canon.kind = p.kind := by
  have h1 := p.canon.binders_size
  have h2 := p.binders_uses
  rw [p.canon_size] at h1
  exact ren_ok (gok_stay _) (gst_stay _) p [] ⟨0, 0⟩ 0 hok (fun o n hm => by cases hm) (stOk_zero _) (by
    have : (p.ren p.uses stay [] ⟨0, 0⟩).1.binders = p.canon.binders := rfl
    omega)
theorem canon_nok {p : P} (hok : p.nok = true) (hs : p.size ≤ 500000) : p.canon.nok = true := by
  have h1 := p.canon.binders_size
  have h2 := p.binders_uses
  rw [p.canon_size] at h1
  exact ren_nok (gnok_stay _) (gst_stay _) p [] ⟨0, 0⟩ 0 hok (fun o n hm => by cases hm) (stOk_zero _) (by
    have : (p.ren p.uses stay [] ⟨0, 0⟩).1.binders = p.canon.binders := rfl
    omega)

/-- The names that are free in what results, as the program lists them. -/
def putFree (p : P) (n : Bs) (q : P) : List Bs := if (minus p.uses n).length < p.uses.length then minus p.uses n ++ q.uses else minus p.uses n
/-- One put for a name. -/
def P.put (p : P) (n : Bs) (q : P) : P := (p.ren (putFree p n q) (putAt (putFree p n q) (some (n, q))) [] ⟨0, 0⟩).1

theorem minus_lt_iff {l : List Bs} {s : Bs} : (minus l s).length < l.length ↔ s ∈ l := by
  constructor
  · intro h
    rcases Decidable.em (s ∈ l) with hm | hm
    · exact hm
    · exfalso
      have : minus l s = l := by
        unfold minus
        rw [List.filter_eq_self]
        intro a ha
        rw [decide_eq_true_iff]
        intro e; subst e; exact hm ha
      rw [this] at h; omega
  · exact minus_lt
theorem B.cl_mono : ∀ (d : B) (k l : Nat), k ≤ l → d.cl k → d.cl l
  | .fr _, _, _, _, _ => True.intro
  | .bv i, k, l, h, hc => Nat.lt_of_lt_of_le hc h
  | .f1 _ d, k, l, h, hc => d.cl_mono k l h hc
  | .f2 _ d e, k, l, h, hc => ⟨d.cl_mono k l h hc.1, e.cl_mono k l h hc.2⟩
  | .bd _ d, k, l, h, hc => d.cl_mono (k + 1) (l + 1) (by omega) hc
theorem B.sub_cl (n : Bs) (e : B) (he : e.cl 0) : ∀ (d : B) (k : Nat), d.cl k → (d.sub n e).cl k
  | .fr s, k, h => by
    rw [B.sub]
    split
    · exact e.cl_mono 0 k (Nat.zero_le _) he
    · exact True.intro
  | .bv i, k, h => h
  | .f1 _ d, k, h => B.sub_cl n e he d k h
  | .f2 _ d d', k, h => ⟨B.sub_cl n e he d k h.1, B.sub_cl n e he d' k h.2⟩
  | .bd _ d, k, h => B.sub_cl n e he d (k + 1) h
theorem B.sub_frs (n : Bs) (e : B) : ∀ (d : B) (s : Bs), s ∈ (d.sub n e).frs → (s ∈ d.frs ∧ s ≠ n) ∨ (n ∈ d.frs ∧ s ∈ e.frs)
  | .fr t, s, h => by
    rw [B.sub] at h
    split at h
    · rename_i e; subst e; exact .inr ⟨by simp [B.frs], h⟩
    · rename_i e
      simp only [B.frs, List.mem_singleton] at h ⊢
      subst h
      exact .inl ⟨rfl, Ne.symm e⟩
  | .bv i, s, h => by cases h
  | .f1 _ d, s, h => B.sub_frs n e d s h
  | .f2 _ d d', s, h => by
    rw [B.sub, B.frs, List.mem_append] at h
    rw [B.frs, List.mem_append, List.mem_append]
    rcases h with h | h
    · rcases B.sub_frs n e d s h with h | h
      · exact .inl ⟨.inl h.1, h.2⟩
      · exact .inr ⟨.inl h.1, h.2⟩
    · rcases B.sub_frs n e d' s h with h | h
      · exact .inl ⟨.inr h.1, h.2⟩
      · exact .inr ⟨.inr h.1, h.2⟩
  | .bd _ d, s, h => B.sub_frs n e d s h

theorem P.put_db (p : P) (n : Bs) (q : P) : (p.put n q).db [] = (p.db []).sub n (q.db []) := by
  rw [P.put, P.put_nam]
  refine B.db_nam _ _ [] _ (given_nil _ _) (B.sub_cl n _ (q.db_cl []) _ 0 (p.db_cl [])) fun s hs => ?_
  unfold putFree
  rcases B.sub_frs _ _ _ _ hs with ⟨h1, h2⟩ | ⟨h1, h2⟩
  · rw [p.db_frs] at h1
    have hm : s ∈ minus p.uses n := mem_minus.2 ⟨h1.1, h2⟩
    split
    · exact List.mem_append.2 (.inl hm)
    · exact hm
  · rw [p.db_frs] at h1
    rw [q.db_frs] at h2
    rw [if_pos (minus_lt_iff.2 h1.1)]
    exact List.mem_append.2 (.inr h2.1)

def B.count (n : Bs) : B → Nat
  | .fr s => if s = n then 1 else 0
  | .bv _ => 0
  | .f1 _ d => B.count n d
  | .f2 _ d e => B.count n d + B.count n e
  | .bd _ d => B.count n d
theorem P.db_count (n : Bs) : ∀ (p : P) (ctx : List Bs), B.count n (p.db ctx) = if n ∈ ctx then 0 else p.count n
  | .nm s, ctx => by
    rw [P.db, P.count]
    cases h : idx ctx s with
    | none =>
      have hn := idx_none.1 h
      simp only [B.count]
      by_cases e : s = n
      · subst e; simp [hn]
      · simp [e]
    | some i =>
      have hm : s ∈ ctx := Decidable.byContradiction fun hn => by rw [idx_none.2 hn] at h; cases h
      simp only [B.count]
      by_cases e : s = n
      · subst e; simp [hm]
      · simp [e]
  | .f1 _ p, ctx => P.db_count n p ctx
  | .f2 _ p q, ctx => by
    rw [P.db, B.count, P.db_count n p ctx, P.db_count n q ctx, P.count]
    split <;> rfl
  | .bd s b, ctx => by
    rw [P.db, B.count, P.db_count n b (s :: ctx), P.count]
    by_cases e : s = n
    · subst e; simp
    · have : (n ∈ s :: ctx) ↔ n ∈ ctx := by simp [Ne.symm e]
      simp only [this, e, if_false]
theorem B.size_pos : ∀ d : B, 1 ≤ d.size
  | .fr _ => Nat.le_refl _
  | .bv _ => Nat.le_refl _
  | .f1 _ d => by rw [B.size]; omega
  | .f2 _ d e => by rw [B.size]; omega
  | .bd _ d => by rw [B.size]; omega
theorem B.sub_size (n : Bs) (e : B) : ∀ d : B, (d.sub n e).size = d.size + B.count n d * (e.size - 1)
  | .fr s => by
    have := e.size_pos
    rw [B.sub, B.count]
    by_cases h : n = s
    · subst h; simp [B.size]; omega
    · rw [if_neg h, if_neg (Ne.symm h)]; simp
  | .bv i => by simp [B.sub, B.count]
  | .f1 _ d => by rw [B.sub, B.size, B.sub_size n e d, B.size, B.count]; omega
  | .f2 _ d d' => by rw [B.sub, B.size, B.sub_size n e d, B.sub_size n e d', B.size, B.count, Nat.add_mul]; omega
  | .bd _ d => by rw [B.sub, B.size, B.sub_size n e d, B.size, B.count]; omega
theorem P.put_size (p : P) (n : Bs) (q : P) : (p.put n q).size = p.size + p.count n * (q.size - 1) := by
  rw [← (p.put n q).db_size [], P.put_db, B.sub_size, p.db_size, q.db_size, P.db_count]; simp

theorem putFree_len (p : P) (n : Bs) (q : P) : (putFree p n q).length ≤ p.uses.length + q.uses.length := by
  unfold putFree
  have := minus_len p.uses n
  split
  · rw [List.length_append]; omega
  · omega
/-- What is put in a program of at most 500 atoms is a program again, if it has at most 500 atoms. -/
theorem put_ok {p : P} {n : Bs} {q : P} (hp : p.ok = true) (hq : q.ok = true) (hk : q.kind = (P.nm n).kind) (hs : p.size + q.size ≤ 500) (h5 : (p.put n q).size ≤ 500) : (p.put n q).ok = true ∧ (p.put n q).kind = p.kind := by
  have h1 := (p.put n q).binders_size
  have h2 := p.uses_len
  have h3 := q.uses_len
  have h4 := putFree_len p n q
  exact ren_ok (gok_put hq hk) (gst_put _ _) p [] ⟨0, 0⟩ 0 hp (fun o n hm => by cases hm) (stOk_zero _) (by
    have : (p.ren (putFree p n q) (putAt (putFree p n q) (some (n, q))) [] ⟨0, 0⟩).1.binders = (p.put n q).binders := rfl
    omega)
theorem put_nok {p : P} {n : Bs} {q : P} (hp : p.nok = true) (hq : q.nok = true) (hs : p.size + q.size ≤ 500) (h5 : (p.put n q).size ≤ 500000) : (p.put n q).nok = true := by
  have h1 := (p.put n q).binders_size
  have h2 := p.uses_len
  have h3 := q.uses_len
  have h4 := putFree_len p n q
  exact ren_nok (gnok_put hq) (gst_put _ _) p [] ⟨0, 0⟩ 0 hp (fun o n hm => by cases hm) (stOk_zero _) (by
    have : (p.ren (putFree p n q) (putAt (putFree p n q) (some (n, q))) [] ⟨0, 0⟩).1.binders = (p.put n q).binders := rfl
    omega)
theorem mul_le (a b : Nat) (h : a + b ≤ 500) : a * b ≤ 62500 := by
  have key : ∀ x : Fin 501, x.val * (500 - x.val) ≤ 62500 := by decide +kernel
  have h1 := key ⟨a, by omega⟩
  simp only at h1
  have h2 := Nat.mul_le_mul_left a (show b ≤ 500 - a by omega)
  omega
theorem put_small {p : P} {n : Bs} {q : P} (hs : p.size + q.size ≤ 500) : (p.put n q).size ≤ 63000 := by
  rw [P.put_size]
  have h1 : p.count n ≤ p.size := by have := p.uses_count n; have := p.uses_len; omega
  have h2 : p.count n * (q.size - 1) ≤ p.size * q.size := Nat.mul_le_mul h1 (by omega)
  have h3 := mul_le p.size q.size hs
  omega

end Go.Proofs.YtaagbnbekfogiaaGreatDoor

namespace Go.Proofs.YtaagbnbekfogiaaGreatDoor
set_option linter.unusedVariables false

def inlB : Bs := [105, 110, 108]
def inrB : Bs := [105, 110, 114]
def notB : Bs := [110, 111, 116]
def pairB : Bs := [112, 97, 105, 114]
def fstB : Bs := [102, 115, 116]
def sndB : Bs := [115, 110, 100]
def negB : Bs := [110, 101, 103]
def caseB : Bs := [99, 97, 115, 101]

/-- A value. -/
def P.val : P → Bool
  | .nm s => firstIs varB s
  | .f1 h p => if h = inlB ∨ h = inrB then p.val else decide (h = notB)
  | .f2 h p q => decide (h = pairB) && (p.val && q.val)
  | .bd _ _ => false
/-- A covalue. -/
def P.cov : P → Bool
  | .nm s => !firstIs varB s
  | .f1 h p => if h = fstB ∨ h = sndB then p.cov else decide (h = negB)
  | .f2 h p q => decide (h = caseB) && (p.cov && q.cov)
  | .bd _ _ => false

theorem val_heads1 {h : Bs} {r : K × K} (e : hd1 h = some r) (b : Bool) : (if dword h = inlB ∨ dword h = inrB then b else decide (dword h = notB)) = (if h = fstB ∨ h = sndB then b else decide (h = negB)) ∧
    (if dword h = fstB ∨ dword h = sndB then b else decide (dword h = negB)) = (if h = inlB ∨ h = inrB then b else decide (h = notB)) := by
  unfold hd1 at e
  repeat' split at e
  all_goals first | (rename_i hh; subst hh; revert b; decide) | cases e
theorem val_heads2 {h : Bs} {r : K × K × K} (e : hd2 h = some r) (hc : h ≠ cutB) (b : Bool) : (decide (dword h = pairB) && b) = (decide (h = caseB) && b) ∧ (decide (dword h = caseB) && b) = (decide (h = pairB) && b) := by
  unfold hd2 at e
  repeat' split at e
  all_goals first | (rename_i hh; subst hh; first | exact absurd rfl hc | (revert b; decide)) | cases e
theorem P.val_dual : ∀ {p : P}, p.ok = true → p.dual.val = p.cov ∧ p.dual.cov = p.val
  | .nm s, h => by
    rw [P.ok] at h
    have := (swapB_name h).2
    rw [P.dual, P.val, P.cov, P.cov, P.val, this]
    simp
  | .bd s b, h => ⟨rfl, rfl⟩
  | .f1 x p, h => by
    rw [P.ok, Bool.and_eq_true, decide_eq_true_iff] at h
    obtain ⟨h1, h2⟩ := P.val_dual h.1
    rw [P.dual, P.val, P.cov, P.cov, P.val, h1, h2]
    exact ⟨(val_heads1 h.2 _).1, (val_heads1 h.2 _).2⟩
  | .f2 x p q, h => by
    rw [P.ok, Bool.and_eq_true, Bool.and_eq_true, decide_eq_true_iff] at h
    obtain ⟨h1, h2⟩ := P.val_dual h.1.1
    obtain ⟨h3, h4⟩ := P.val_dual h.1.2
    rw [P.dual]
    by_cases hc : x = cutB
    · subst hc; rw [if_pos rfl, P.val, P.cov, P.cov, P.val]; exact ⟨rfl, rfl⟩
    · rw [if_neg hc, P.val, P.cov, P.cov, P.val, h1, h2, h3, h4]
      exact ⟨(val_heads2 h.2 hc _).1, (val_heads2 h.2 hc _).2⟩

end Go.Proofs.YtaagbnbekfogiaaGreatDoor

namespace Go.Proofs.YtaagbnbekfogiaaGreatDoor
set_option linter.unusedVariables false

/-- The names that the model lists. -/
def P.freeL (p : P) : List Bs := p.free [] []
theorem P.freeL_mem (p : P) (s : Bs) : s ∈ p.freeL ↔ s ∈ p.uses := by
  unfold P.freeL
  rw [P.free_top, foldl_mem]
  simp
/-- Put as it stands, below binders too. -/
def P.nput : P → Bs → P → P
  | .nm s, n, q => if s = n then q else .nm s
  | .f1 h p, n, q => .f1 h (p.nput n q)
  | .f2 h p p', n, q => .f2 h (p.nput n q) (p'.nput n q)
  | .bd s b, n, q => if s = n then .bd s b else .bd s (b.nput n q)
/-- Bound names renamed, so that none is of a list. -/
def P.apart (p : P) (F : List Bs) : P := (p.ren F stay [] ⟨0, 0⟩).1
def subFree (p : P) (n : Bs) (q : P) : List Bs := p.freeL ++ q.freeL ++ [n]
def P.ssub (p : P) (n : Bs) (q : P) : P := (p.apart (subFree p n q)).nput n q

def P.bout (F : List Bs) : P → Prop
  | .nm _ => True
  | .f1 _ p => p.bout F
  | .f2 _ p q => p.bout F ∧ q.bout F
  | .bd s b => s ∉ F ∧ b.bout F
theorem B.nam_bout (F : List Bs) : ∀ (d : B) (ctx : List Bs) (st : St), ((d.nam F ctx st).1).bout F
  | .fr s, ctx, st => True.intro
  | .bv i, ctx, st => True.intro
  | .f1 _ d, ctx, st => d.nam_bout F ctx st
  | .f2 _ d e, ctx, st => ⟨d.nam_bout F ctx st, e.nam_bout F ctx _⟩
  | .bd v d, ctx, st => ⟨(nxt_least F v (st.get v)).1, d.nam_bout F _ _⟩
theorem idx_append : ∀ (a c : List Bs) (s : Bs), s ∉ c → idx (a ++ c) s = idx a s
  | [], c, s, h => by rw [List.nil_append]; exact idx_none.2 h
  | o :: a, c, s, h => by
    show (if o = s then some 0 else (idx (a ++ c) s).map (· + 1)) = (if o = s then some 0 else (idx a s).map (· + 1))
    rw [idx_append a c s h]
theorem P.db_out : ∀ (p : P) (a c : List Bs), (∀ s ∈ p.uses, s ∉ a → s ∉ c) → p.db (a ++ c) = p.db a
  | .nm s, a, c, h => by
    rw [P.db, P.db]
    by_cases hs : s ∈ a
    · have : idx (a ++ c) s = idx a s := by
        clear h
        induction a with
        | nil => cases hs
        | cons o a ih =>
          show (if o = s then some 0 else (idx (a ++ c) s).map (· + 1)) = (if o = s then some 0 else (idx a s).map (· + 1))
          by_cases e : o = s
          · rw [if_pos e, if_pos e]
          · rw [if_neg e, if_neg e, ih (by rcases List.mem_cons.1 hs with h | h; exact absurd h.symm e; exact h)]
      rw [this]
    · rw [idx_append a c s (h s (by simp [P.uses]) hs)]
  | .f1 _ p, a, c, h => by rw [P.db, P.db, P.db_out p a c h]
  | .f2 _ p q, a, c, h => by
    rw [P.db, P.db, P.db_out p a c (fun s hs => h s (by rw [P.uses, List.mem_append]; exact .inl hs)), P.db_out q a c (fun s hs => h s (by rw [P.uses, List.mem_append]; exact .inr hs))]
  | .bd s b, a, c, h => by
    have := P.db_out b (s :: a) c (fun t ht hta => by
      simp only [List.mem_cons, not_or] at hta
      exact h t (by rw [P.uses, mem_minus]; exact ⟨ht, hta.1⟩) hta.2)
    rw [List.cons_append] at this
    rw [P.db, P.db, this]
theorem P.db_nil (p : P) (c : List Bs) (h : ∀ s ∈ p.uses, s ∉ c) : p.db c = p.db [] := by
  have := p.db_out [] c (fun s hs _ => h s hs)
  rwa [List.nil_append] at this

theorem P.nput_db (F : List Bs) (n : Bs) (q : P) (hq : ∀ s ∈ q.uses, s ∈ F) (hn : n ∈ F) : ∀ (p : P) (ctx : List Bs), p.bout F → (∀ s ∈ ctx, s ∉ F) → (p.nput n q).db ctx = (p.db ctx).sub n (q.db [])
  | .nm s, ctx, hb, hc => by
    rw [P.nput]
    by_cases e : s = n
    · subst e
      have h1 : idx ctx s = none := idx_none.2 fun h => hc s h hn
      rw [if_pos rfl, P.db, h1, q.db_nil ctx (fun t ht h => hc t h (hq t ht))]
      show _ = (B.fr s).sub s _
      rw [B.sub, if_pos rfl]
    · rw [if_neg e, P.db]
      cases idx ctx s with
      | none => show _ = (B.fr s).sub n _; rw [B.sub, if_neg (Ne.symm e)]
      | some i => rfl
  | .f1 _ p, ctx, hb, hc => by rw [P.nput, P.db, P.db, B.sub, P.nput_db F n q hq hn p ctx hb hc]
  | .f2 _ p p', ctx, hb, hc => by rw [P.nput, P.db, P.db, B.sub, P.nput_db F n q hq hn p ctx hb.1 hc, P.nput_db F n q hq hn p' ctx hb.2 hc]
  | .bd s b, ctx, hb, hc => by
    have hs : s ≠ n := fun e => hb.1 (e ▸ hn)
    rw [P.nput, if_neg hs, P.db, P.db, B.sub, P.nput_db F n q hq hn b (s :: ctx) hb.2 (fun t ht => by rcases List.mem_cons.1 ht with rfl | ht; exact hb.1; exact hc t ht)]
theorem P.apart_db (p : P) (F : List Bs) (h : ∀ s ∈ p.uses, s ∈ F) : (p.apart F).db [] = p.db [] := by
  rw [P.apart, P.ren_nam]
  exact B.db_nam _ _ [] _ (given_nil _ _) (p.db_cl []) fun s hs => h s ((p.db_free s).1 hs)
theorem P.apart_bout (p : P) (F : List Bs) : (p.apart F).bout F := by rw [P.apart, P.ren_nam]; exact B.nam_bout F _ _ _
theorem P.ssub_db (p : P) (n : Bs) (q : P) : (p.ssub n q).db [] = (p.db []).sub n (q.db []) := by
  rw [P.ssub, P.nput_db (subFree p n q) n q (fun s hs => by simp [subFree, P.freeL_mem, hs]) (by simp [subFree]) _ [] (P.apart_bout _ _) (fun s hs => by cases hs)]
  rw [P.apart_db _ _ (fun s hs => by simp [subFree, P.freeL_mem, hs])]
theorem P.ssub_put (p : P) (n : Bs) (q : P) : (p.ssub n q).db [] = (p.put n q).db [] := by rw [P.ssub_db, P.put_db]
theorem P.freeL_len (p : P) : p.freeL.length ≤ p.size := by have := p.free_len [] []; simpa [P.freeL] using this

/-- Which names are bound, and what stands within, is as well shaped as what it is made of. -/
theorem nput_ok {n : Bs} {q : P} (hq : q.ok = true) (hk : q.kind = (P.nm n).kind) : ∀ {p : P}, p.ok = true → (p.nput n q).ok = true ∧ (p.nput n q).kind = p.kind
  | .nm s, h => by
    rw [P.nput]
    split
    · rename_i e; subst e; exact ⟨hq, hk⟩
    · exact ⟨h, rfl⟩
  | .f1 x p, h => by
    rw [P.ok, Bool.and_eq_true, decide_eq_true_iff] at h
    obtain ⟨h1, h2⟩ := nput_ok hq hk h.1
    rw [P.nput]
    refine ⟨?_, rfl⟩
    rw [P.ok, h1, h2, Bool.true_and, decide_eq_true_iff]
    exact h.2
  | .f2 x p p', h => by
    rw [P.ok, Bool.and_eq_true, Bool.and_eq_true, decide_eq_true_iff] at h
    obtain ⟨h1, h2⟩ := nput_ok hq hk h.1.1
    obtain ⟨g1, g2⟩ := nput_ok hq hk h.1.2
    rw [P.nput]
    refine ⟨?_, rfl⟩
    rw [P.ok, h1, g1, h2, g2, Bool.true_and, Bool.true_and, decide_eq_true_iff]
    exact h.2
  | .bd s b, h => by
    rw [P.nput]
    split
    · exact ⟨h, rfl⟩
    · rw [P.ok, Bool.and_eq_true, Bool.and_eq_true, decide_eq_true_iff] at h
      obtain ⟨h1, h2⟩ := nput_ok hq hk h.1.2
      refine ⟨?_, rfl⟩
      rw [P.ok, h.1.1, h1, h2, h.2]; rfl
theorem apart_ok {p : P} (hok : p.ok = true) (F : List Bs) (hs : p.size ≤ 500) (hF : F.length ≤ 700) : (p.apart F).ok = true ∧ (p.apart F).kind = p.kind ∧ (p.apart F).size = p.size := by
  have hsz : (p.apart F).size = p.size := by
    rw [P.apart, P.ren_nam]
    have := B.db_nam
    have key : ∀ (d : B) (ctx : List Bs) (st : St), ((d.nam F ctx st).1).size = d.size := by
      intro d
      induction d with
      | fr s => intro ctx st; rfl
      | bv i => intro ctx st; rfl
      | f1 h d ih => intro ctx st; rw [B.nam, P.size, ih, B.size]
      | f2 h d e ih ih' => intro ctx st; rw [B.nam, P.size, ih, ih', B.size]
      | bd v d ih => intro ctx st; rw [B.nam, P.size, ih, B.size]
    rw [key]; exact p.db_size []
  have h1 := (p.apart F).binders_size
  have h2 := ren_ok (gok_stay F) (gst_stay F) p [] ⟨0, 0⟩ 0 hok (fun o n hm => by cases hm) (stOk_zero _) (by
    have : (p.ren F stay [] ⟨0, 0⟩).1.binders = (p.apart F).binders := rfl
    omega)
  exact ⟨h2.1, h2.2, hsz⟩
theorem ssub_ok {p : P} {n : Bs} {q : P} (hp : p.ok = true) (hq : q.ok = true) (hk : q.kind = (P.nm n).kind) (hs : p.size + q.size ≤ 500) : (p.ssub n q).ok = true ∧ (p.ssub n q).kind = p.kind := by
  have h1 := p.freeL_len
  have h2 := q.freeL_len
  obtain ⟨a1, a2, -⟩ := apart_ok hp (subFree p n q) (by omega) (by simp [subFree]; omega)
  obtain ⟨b1, b2⟩ := nput_ok (n := n) hq hk a1
  exact ⟨b1, b2.trans a2⟩

/- duals -/
def B.dual : B → B
  | .fr s => .fr (swapB s)
  | .bv i => .bv i
  | .f1 h d => .f1 (dword h) d.dual
  | .f2 h d e => if h = cutB then .f2 h e.dual d.dual else .f2 (dword h) d.dual e.dual
  | .bd v d => .bd (!v) d.dual
theorem swapC_two (c : UInt8) : swapC (swapC c) = c := by
  unfold swapC
  by_cases h1 : c = 120
  · subst h1; decide
  by_cases h2 : c = 121
  · subst h2; decide
  by_cases h3 : c = 122
  · subst h3; decide
  by_cases h4 : c = 107
  · subst h4; decide
  by_cases h5 : c = 108
  · subst h5; decide
  by_cases h6 : c = 109
  · subst h6; decide
  simp [h1, h2, h3, h4, h5, h6]
theorem swapB_two (s : Bs) : swapB (swapB s) = s := by
  cases s with
  | nil => rfl
  | cons c d => simp only [swapB]; rw [swapC_two]
theorem swapB_inj {s t : Bs} (h : swapB s = swapB t) : s = t := by rw [← swapB_two s, h, swapB_two]
theorem swapB_first {s : Bs} (h : nmB s = true) : firstIs varB (swapB s) = !firstIs varB s := by
  cases s with
  | nil => cases h
  | cons c d =>
    have hv := nmB_or h
    obtain ⟨-, h1, h2⟩ := swapC_swapC hv
    have hx : varB c = !covB c := by
      unfold varB covB at hv ⊢
      simp only [Bool.or_eq_true, beq_iff_eq] at hv
      rcases hv with ((h | h) | h) | ((h | h) | h) <;> subst h <;> decide
    simp only [firstIs, swapB]
    rw [h1, hx]; simp
theorem idx_swap : ∀ (ctx : List Bs) (s : Bs), idx (ctx.map swapB) (swapB s) = idx ctx s
  | [], s => rfl
  | o :: ctx, s => by
    show (if swapB o = swapB s then some 0 else (idx (ctx.map swapB) (swapB s)).map (· + 1)) = (if o = s then some 0 else (idx ctx s).map (· + 1))
    rw [idx_swap ctx s]
    by_cases h : o = s
    · rw [if_pos h, if_pos (by rw [h])]
    · rw [if_neg h, if_neg (fun e => h (swapB_inj e))]
theorem P.dual_db : ∀ {p : P}, p.nok = true → ∀ ctx : List Bs, p.dual.db (ctx.map swapB) = (p.db ctx).dual
  | .nm s, h, ctx => by
    rw [P.dual, P.db, idx_swap, P.db]
    cases idx ctx s with
    | none => rfl
    | some i => rfl
  | .f1 _ p, h, ctx => by rw [P.nok] at h; rw [P.dual, P.db, P.dual_db h ctx, P.db, B.dual]
  | .f2 x p q, h, ctx => by
    rw [P.nok, Bool.and_eq_true] at h
    rw [P.dual, P.db, B.dual]
    split
    · rw [P.db, P.dual_db h.1 ctx, P.dual_db h.2 ctx]
    · rw [P.db, P.dual_db h.1 ctx, P.dual_db h.2 ctx]
  | .bd s b, h, ctx => by
    rw [P.nok, Bool.and_eq_true] at h
    have := P.dual_db h.2 (s :: ctx)
    rw [List.map_cons] at this
    rw [P.dual, P.db, this, swapB_first h.1, P.db, B.dual]
theorem P.dual_db0 {p : P} (h : p.nok = true) : p.dual.db [] = (p.db []).dual := P.dual_db h []
theorem B.sub_dual (n : Bs) (e : B) : ∀ d : B, (d.sub n e).dual = d.dual.sub (swapB n) e.dual
  | .fr s => by
    rw [B.sub, B.dual, B.sub]
    by_cases h : n = s
    · subst h; rw [if_pos rfl, if_pos rfl]
    · rw [if_neg h, if_neg (fun e => h (swapB_inj e)), B.dual]
  | .bv i => rfl
  | .f1 _ d => by rw [B.sub, B.dual, B.dual, B.sub, B.sub_dual n e d]
  | .f2 x d d' => by
    rw [B.sub, B.dual, B.dual, B.sub_dual n e d, B.sub_dual n e d']
    split <;> rw [B.sub]
  | .bd v d => by rw [B.sub, B.dual, B.dual, B.sub, B.sub_dual n e d]
theorem P.dual_count {n : Bs} : ∀ {p : P}, p.dual.count (swapB n) = p.count n
  | .nm s => by
    rw [P.dual, P.count, P.count]
    by_cases h : s = n
    · rw [if_pos h, if_pos (by rw [h])]
    · rw [if_neg h, if_neg (fun e => h (swapB_inj e))]
  | .f1 _ p => by rw [P.dual, P.count, P.count, P.dual_count]
  | .f2 x p q => by
    rw [P.dual, P.count]
    split
    · rw [P.count, P.dual_count, P.dual_count]; omega
    · rw [P.count, P.dual_count, P.dual_count]
  | .bd s b => by
    rw [P.dual, P.count, P.count]
    by_cases h : s = n
    · rw [if_pos h, if_pos (by rw [h])]
    · rw [if_neg h, if_neg (fun e => h (swapB_inj e)), P.dual_count]
theorem P.dual_uses : ∀ {p : P} {s : Bs}, swapB s ∈ p.dual.uses ↔ s ∈ p.uses
  | .nm t, s => by
    rw [P.dual, P.uses, P.uses, List.mem_singleton, List.mem_singleton]
    exact ⟨fun h => swapB_inj h, fun h => by rw [h]⟩
  | .f1 _ p, s => by rw [P.dual, P.uses, P.uses, P.dual_uses]
  | .f2 x p q, s => by
    rw [P.dual, P.uses, List.mem_append]
    split
    · rw [P.uses, List.mem_append, P.dual_uses, P.dual_uses, or_comm]
    · rw [P.uses, List.mem_append, P.dual_uses, P.dual_uses]
  | .bd t b, s => by
    rw [P.dual, P.uses, P.uses, mem_minus, mem_minus, P.dual_uses]
    exact ⟨fun h => ⟨h.1, fun e => h.2 (by rw [e])⟩, fun h => ⟨h.1, fun e => h.2 (swapB_inj e)⟩⟩
/-- Putting in duals. -/
theorem P.ssub_dual {p : P} {n : Bs} {q : P} (hp : p.ok = true) (hq : q.ok = true) (hr : (p.dual.ssub (swapB n) q.dual).nok = true) : (p.dual.ssub (swapB n) q.dual).dual.db [] = (p.put n q).db [] := by
  rw [P.dual_db0 hr, P.ssub_db, B.sub_dual, swapB_two, ← P.dual_db0 (P.nok_ok (P.dual_ok hp)), ← P.dual_db0 (P.nok_ok (P.dual_ok hq)), P.dual_dual hp, P.dual_dual hq, P.put_db]

end Go.Proofs.YtaagbnbekfogiaaGreatDoor

namespace Go.Proofs.YtaagbnbekfogiaaGreatDoor
set_option linter.unusedVariables false

/-- A cut of a first and a second side. -/
def mkcut (v : Bool) (a b : P) : P := if v then .f2 cutB a b else .f2 cutB b a
/-- What a head is called on the value's side. -/
def sideH (v : Bool) (h : Bs) : Bs := if v then h else dword h
def isval (v : Bool) (p : P) : Bool := if v then p.val else p.cov
def meet (v : Bool) : P → P → Option P
  | .f2 h p q, .f1 h' l => if sideH v h = pairB ∧ sideH v h' = fstB then some (mkcut v p l) else if sideH v h = pairB ∧ sideH v h' = sndB then some (mkcut v q l) else none
  | .f1 h p, .f2 h' l r => if sideH v h = inlB ∧ sideH v h' = caseB then some (mkcut v p l) else if sideH v h = inrB ∧ sideH v h' = caseB then some (mkcut v p r) else none
  | .f1 h l, .f1 h' n => if sideH v h = notB ∧ sideH v h' = negB then some (mkcut v n l) else none
  | _, _ => none
def rest (v : Bool) (f : P) : P → Option P
  | .bd x s => some (s.put x f)
  | .nm s => meet v f (.nm s)
  | .f1 h p => meet v f (.f1 h p)
  | .f2 h p q => meet v f (.f2 h p q)
def newN (v : Bool) (f g : P) : Bs := cname v (nxt (f.uses ++ g.uses) v 0)
def laterAt (v : Bool) (x : Bs) : P → P → Option P
  | .f1 h p, g => some (mkcut v p (.bd x (mkcut v (.f1 h (.nm x)) g)))
  | .f2 h p q, g => if isval v p then some (mkcut v q (.bd x (mkcut v (.f2 h p (.nm x)) g))) else some (mkcut v p (.bd x (mkcut v (.f2 h (.nm x) q) g)))
  | _, _ => none
def later (v : Bool) (f g : P) : Option P := laterAt v (newN v f g) f g
/-- The step of a kind, of the first and the second side; v: by value. -/
def stepG (v : Bool) : P → P → Option P
  | .bd a s, g => some (s.put a g)
  | .nm s, g => rest v (.nm s) g
  | .f1 h p, g => if isval v (.f1 h p) then rest v (.f1 h p) g else later v (.f1 h p) g
  | .f2 h p q, g => if isval v (.f2 h p q) then rest v (.f2 h p q) g else later v (.f2 h p q) g
def stepC (v : Bool) (m k : P) : Option P := if v then stepG true m k else stepG false k m
def stepP (v : Bool) : P → Option P
  | .f2 h m k => if h = cutB then stepC v m k else none
  | _ => none

/-- The model's step: none for no step, some none if the result is too large. -/
def sput (t : P) (n : Bs) (q : P) : Option P := if t.size + t.count n * (q.size - 1) ≤ 500 then some (t.ssub n q) else none
def srest (m : P) : P → Option (Option P)
  | .bd x s => some (sput s x m)
  | .nm s => (meet true m (.nm s)).map some
  | .f1 h p => (meet true m (.f1 h p)).map some
  | .f2 h p q => (meet true m (.f2 h p q)).map some
def slater (m k : P) : Option P := laterAt true (cname true (nxt (P.f2 cutB m k).freeL true 0)) m k
def sstep : P → P → Option (Option P)
  | .bd a s, k => some (sput s a k)
  | .nm s, k => srest (.nm s) k
  | .f1 h p, k => if (P.f1 h p).val then srest (.f1 h p) k else (slater (.f1 h p) k).map some
  | .f2 h p q, k => if (P.f2 h p q).val then srest (.f2 h p q) k else (slater (.f2 h p q) k).map some
def sany (v : Bool) (m k : P) : Option (Option P) := if v then sstep m k else (sstep k.dual m.dual).map (Option.map P.dual)

/-- Both steps are the same but for bound names, if the result is not too large. -/
def SRel : Option P → Option (Option P) → Prop
  | none, none => True
  | some q, some none => 500 < q.size
  | some q, some (some q') => q'.db [] = q.db [] ∧ q'.ok = true ∧ q'.kind = .s
  | _, _ => False

/-- A term m and a coterm k. -/
structure MK (m k : P) : Prop where
  mok : m.ok = true
  kok : k.ok = true
  mt : m.kind = .t
  kc : k.kind = .c
  sz : 1 + m.size + k.size ≤ 500

theorem cut_ok {m k : P} (hm : m.ok = true) (hk : k.ok = true) (h1 : m.kind = .t) (h2 : k.kind = .c) : (P.f2 cutB m k).ok = true ∧ (P.f2 cutB m k).kind = .s := by
  have hd : hd2 cutB = some (.s, .t, .c) := by decide
  have hkd : (P.f2 cutB m k).kind = .s := by rw [P.kind, hd]
  refine ⟨?_, hkd⟩
  rw [P.ok, hm, hk, hkd, h1, h2]; decide
theorem MK.of {m k : P} (h : (P.f2 cutB m k).ok = true) (hs : (P.f2 cutB m k).size ≤ 500) : MK m k := by
  rw [P.ok, Bool.and_eq_true, Bool.and_eq_true, decide_eq_true_iff] at h
  obtain ⟨-, h1, h2⟩ := cut_hd2 h.2
  exact ⟨h.1.1, h.1.2, h1, h2, hs⟩
theorem MK.dual {m k : P} (h : MK m k) : MK k.dual m.dual :=
  ⟨P.dual_ok h.kok, P.dual_ok h.mok, by rw [P.dual_kind h.kok, h.kc]; rfl, by rw [P.dual_kind h.mok, h.mt]; rfl, by rw [P.dual_size, P.dual_size]; have := h.sz; omega⟩

theorem put_rel {s : P} {n : Bs} {q : P} (hs : s.ok = true) (hss : s.kind = .s) (hq : q.ok = true) (hk : q.kind = (P.nm n).kind) (hz : s.size + q.size ≤ 500) : SRel (some (s.put n q)) (some (sput s n q)) := by
  unfold sput
  split
  · obtain ⟨h1, h2⟩ := ssub_ok hs hq hk hz
    exact ⟨P.ssub_put s n q, h1, h2.trans hss⟩
  · show 500 < (s.put n q).size
    rw [P.put_size]; omega
theorem bd_parts {s : Bs} {b : P} (h : (P.bd s b).ok = true) : isName s = true ∧ b.ok = true ∧ b.kind = .s := by
  rw [P.ok, Bool.and_eq_true, Bool.and_eq_true, decide_eq_true_iff] at h
  exact ⟨h.1.1, h.1.2, h.2⟩
theorem nm_kind_t {s : Bs} {b : P} (h : (P.bd s b).kind = .t) : (P.nm s).kind = .c := by
  simp only [P.kind] at h ⊢
  cases hf : firstIs varB s
  · rfl
  · rw [hf] at h; cases h
theorem nm_kind_c {s : Bs} {b : P} (h : (P.bd s b).kind = .c) : (P.nm s).kind = .t := by
  simp only [P.kind] at h ⊢
  cases hf : firstIs varB s
  · rw [hf] at h; cases h
  · rfl

/-- What meets gives a statement. -/
theorem meet_true {m k q : P} (h : MK m k) (e : meet true m k = some q) : q.ok = true ∧ q.kind = .s ∧ q.size ≤ m.size + k.size := by
  obtain ⟨h1, h2, h3, h4, h5⟩ := h
  match m, k, e, h1, h2, h3, h4 with
  | .f2 x p r, .f1 y l, e, h1, h2, h3, h4 =>
    rw [P.ok, Bool.and_eq_true, Bool.and_eq_true, decide_eq_true_iff, h3] at h1
    rw [P.ok, Bool.and_eq_true, decide_eq_true_iff, h4] at h2
    simp only [meet, sideH, if_true, mkcut] at e
    split at e
    · rename_i hh
      injection e with e; subst e
      have e1 := h1.2; have e2 := h2.2
      rw [hh.1, show hd2 pairB = some (.t, .t, .t) from by decide] at e1
      rw [hh.2, show hd1 fstB = some (.c, .c) from by decide] at e2
      injection e1 with e1; injection e1 with _ e1; injection e1 with e1 e1'
      injection e2 with e2; injection e2 with _ e2
      obtain ⟨c1, c2⟩ := cut_ok h1.1.1 h2.1 e1.symm e2.symm
      exact ⟨c1, c2, by simp only [P.size]; omega⟩
    · split at e
      · rename_i hh
        injection e with e; subst e
        have e1 := h1.2; have e2 := h2.2
        rw [hh.1, show hd2 pairB = some (.t, .t, .t) from by decide] at e1
        rw [hh.2, show hd1 sndB = some (.c, .c) from by decide] at e2
        injection e1 with e1; injection e1 with _ e1; injection e1 with e1 e1'
        injection e2 with e2; injection e2 with _ e2
        obtain ⟨c1, c2⟩ := cut_ok h1.1.2 h2.1 e1'.symm e2.symm
        exact ⟨c1, c2, by simp only [P.size]; omega⟩
      · cases e
  | .f1 x p, .f2 y l r, e, h1, h2, h3, h4 =>
    rw [P.ok, Bool.and_eq_true, decide_eq_true_iff, h3] at h1
    rw [P.ok, Bool.and_eq_true, Bool.and_eq_true, decide_eq_true_iff, h4] at h2
    simp only [meet, sideH, if_true, mkcut] at e
    split at e
    · rename_i hh
      injection e with e; subst e
      have e1 := h1.2; have e2 := h2.2
      rw [hh.1, show hd1 inlB = some (.t, .t) from by decide] at e1
      rw [hh.2, show hd2 caseB = some (.c, .c, .c) from by decide] at e2
      injection e1 with e1; injection e1 with _ e1
      injection e2 with e2; injection e2 with _ e2; injection e2 with e2 e2'
      obtain ⟨c1, c2⟩ := cut_ok h1.1 h2.1.1 e1.symm e2.symm
      exact ⟨c1, c2, by simp only [P.size]; omega⟩
    · split at e
      · rename_i hh
        injection e with e; subst e
        have e1 := h1.2; have e2 := h2.2
        rw [hh.1, show hd1 inrB = some (.t, .t) from by decide] at e1
        rw [hh.2, show hd2 caseB = some (.c, .c, .c) from by decide] at e2
        injection e1 with e1; injection e1 with _ e1
        injection e2 with e2; injection e2 with _ e2; injection e2 with e2 e2'
        obtain ⟨c1, c2⟩ := cut_ok h1.1 h2.1.2 e1.symm e2'.symm
        exact ⟨c1, c2, by simp only [P.size]; omega⟩
      · cases e
  | .f1 x l, .f1 y n, e, h1, h2, h3, h4 =>
    rw [P.ok, Bool.and_eq_true, decide_eq_true_iff, h3] at h1
    rw [P.ok, Bool.and_eq_true, decide_eq_true_iff, h4] at h2
    simp only [meet, sideH, if_true, mkcut] at e
    split at e
    · rename_i hh
      injection e with e; subst e
      have e1 := h1.2; have e2 := h2.2
      rw [hh.1, show hd1 notB = some (.t, .c) from by decide] at e1
      rw [hh.2, show hd1 negB = some (.c, .t) from by decide] at e2
      injection e1 with e1; injection e1 with _ e1
      injection e2 with e2; injection e2 with _ e2
      obtain ⟨c1, c2⟩ := cut_ok h2.1 h1.1 e2.symm e1.symm
      exact ⟨c1, c2, by simp only [P.size]; omega⟩
    · cases e
  | .nm _, _, e, _, _, _, _ => simp [meet] at e
  | .bd _ _, _, e, _, _, _, _ => simp [meet] at e
  | .f2 _ _ _, .nm _, e, _, _, _, _ => simp [meet] at e
  | .f2 _ _ _, .bd _ _, e, _, _, _, _ => simp [meet] at e
  | .f2 _ _ _, .f2 _ _ _, e, _, _, _, _ => simp [meet] at e
  | .f1 _ _, .nm _, e, _, _, _, _ => simp [meet] at e
  | .f1 _ _, .bd _ _, e, _, _, _, _ => simp [meet] at e

theorem newN_name {v : Bool} {f g : P} (h : f.size + g.size ≤ 500) : isName (newN v f g) = true := by
  have h1 := f.uses_len
  have h2 := g.uses_len
  have h3 := (nxt_pot (free := f.uses ++ g.uses) (v := v) (a := 0) (c := 0) (Nat.zero_le _)).1
  exact cname_name (by rw [List.length_append] at h3; omega)
theorem f1_ok {h : Bs} {p q : P} (hok : (P.f1 h p).ok = true) (hq : q.ok = true) (hk : q.kind = p.kind) : (P.f1 h q).ok = true ∧ (P.f1 h q).kind = (P.f1 h p).kind := by
  rw [P.ok, Bool.and_eq_true, decide_eq_true_iff] at hok
  have : (P.f1 h q).kind = (P.f1 h p).kind := rfl
  refine ⟨?_, this⟩
  rw [P.ok, hq, this, hk, hok.2]; simp
theorem f2_ok {h : Bs} {p q p' q' : P} (hok : (P.f2 h p q).ok = true) (hp : p'.ok = true) (hq : q'.ok = true) (hpk : p'.kind = p.kind) (hqk : q'.kind = q.kind) : (P.f2 h p' q').ok = true ∧ (P.f2 h p' q').kind = (P.f2 h p q).kind := by
  rw [P.ok, Bool.and_eq_true, Bool.and_eq_true, decide_eq_true_iff] at hok
  have : (P.f2 h p' q').kind = (P.f2 h p q).kind := rfl
  refine ⟨?_, this⟩
  rw [P.ok, hp, hq, this, hpk, hqk, hok.2]; simp
/-- A part that is a value no sooner than it is taken out is a term. -/
theorem part_t1 {h : Bs} {p : P} (hok : (P.f1 h p).ok = true) (hk : (P.f1 h p).kind = .t) (hv : (P.f1 h p).val = false) : p.ok = true ∧ p.kind = .t := by
  rw [P.ok, Bool.and_eq_true, decide_eq_true_iff, hk] at hok
  refine ⟨hok.1, ?_⟩
  have e := hok.2
  unfold hd1 at e
  rw [P.val] at hv
  repeat' split at e
  all_goals first
    | (rename_i hh; subst hh; injection e with e; injection e with e1 e2; first | exact e2.symm | (cases e1; done) | (exfalso; revert hv; simp [inlB, inrB, notB]; done))
    | (cases e; done)
theorem part_t2 {h : Bs} {p q : P} (hok : (P.f2 h p q).ok = true) (hk : (P.f2 h p q).kind = .t) : p.ok = true ∧ q.ok = true ∧ p.kind = .t ∧ q.kind = .t := by
  rw [P.ok, Bool.and_eq_true, Bool.and_eq_true, decide_eq_true_iff, hk] at hok
  have e := hok.2
  unfold hd2 at e
  repeat' split at e
  all_goals first
    | (rename_i hh; subst hh; injection e with e; injection e with e1 e2; injection e2 with e2 e3; first | exact ⟨hok.1.1, hok.1.2, e2.symm, e3.symm⟩ | (cases e1; done))
    | (cases e; done)
theorem cname_kind (v : Bool) (i : Nat) : (P.nm (cname v i)).kind = if v then .t else .c := by rw [P.kind, cname_first]

/-- What is taken out by value. -/
theorem laterAt_true {m k q : P} {i : Nat} (h : MK m k) (hi : i < 1000) (hv : m.val = false) (e : laterAt true (cname true i) m k = some q) : q.ok = true ∧ q.kind = .s ∧ q.size ≤ m.size + k.size + 6 := by
  obtain ⟨h1, h2, h3, h4, h5⟩ := h
  have hn : isName (cname true i) = true := cname_name hi
  have hnk : (P.nm (cname true i)).kind = .t := cname_kind true i
  have hbk : ∀ b : P, (P.bd (cname true i) b).kind = .c := fun b => by rw [P.kind, cname_first]; rfl
  have hbo : ∀ b : P, b.ok = true → b.kind = .s → (P.bd (cname true i) b).ok = true := fun b hb hk => by rw [P.ok, hn, hb, hk]; rfl
  match m, e, h1, h3, hv with
  | .f1 x p, e, h1, h3, hv =>
    simp only [laterAt, mkcut, if_true] at e
    injection e with e; subst e
    obtain ⟨p1, p2⟩ := part_t1 h1 h3 hv
    obtain ⟨f1, f2⟩ := f1_ok (q := .nm (cname true i)) h1 hn (hnk.trans p2.symm)
    obtain ⟨c1, c2⟩ := cut_ok f1 h2 (f2.trans h3) h4
    obtain ⟨d1, d2⟩ := cut_ok p1 (hbo _ c1 c2) p2 (hbk _)
    refine ⟨d1, d2, ?_⟩
    simp only [P.size]; omega
  | .f2 x p r, e, h1, h3, hv =>
    simp only [laterAt, mkcut, if_true] at e
    obtain ⟨p1, p2, p3, p4⟩ := part_t2 h1 h3
    split at e
    · injection e with e; subst e
      obtain ⟨f1, f2⟩ := f2_ok (p' := p) (q' := .nm (cname true i)) h1 p1 hn rfl (hnk.trans p4.symm)
      obtain ⟨c1, c2⟩ := cut_ok f1 h2 (f2.trans h3) h4
      obtain ⟨d1, d2⟩ := cut_ok p2 (hbo _ c1 c2) p4 (hbk _)
      refine ⟨d1, d2, ?_⟩
      simp only [P.size]; omega
    · injection e with e; subst e
      obtain ⟨f1, f2⟩ := f2_ok (p' := .nm (cname true i)) (q' := r) h1 hn p2 (hnk.trans p3.symm) rfl
      obtain ⟨c1, c2⟩ := cut_ok f1 h2 (f2.trans h3) h4
      obtain ⟨d1, d2⟩ := cut_ok p1 (hbo _ c1 c2) p3 (hbk _)
      refine ⟨d1, d2, ?_⟩
      simp only [P.size]; omega
  | .nm _, e, _, _, _ => simp [laterAt] at e
  | .bd _ _, e, _, _, _ => simp [laterAt] at e

theorem newN_free (m k : P) : cname true (nxt (P.f2 cutB m k).freeL true 0) = newN true m k := by
  unfold newN
  have hs : ∀ s, s ∈ (P.f2 cutB m k).freeL ↔ s ∈ m.uses ++ k.uses := fun s => by rw [P.freeL_mem, P.uses]
  rw [nxt_same hs]

theorem meet_rel {m k : P} (h : MK m k) : SRel (meet true m k) ((meet true m k).map some) := by
  cases e : meet true m k with
  | none => exact True.intro
  | some q => obtain ⟨h1, h2, -⟩ := meet_true h e; exact ⟨rfl, h1, h2⟩
theorem rest_rel {m k : P} (h : MK m k) : SRel (rest true m k) (srest m k) := by
  cases k with
  | bd x s =>
    obtain ⟨b1, b2, b3⟩ := bd_parts h.kok
    have hs := h.sz
    rw [P.size] at hs
    exact put_rel b2 b3 h.mok (h.mt.trans (nm_kind_c h.kc).symm) (by omega)
  | nm s => exact meet_rel h
  | f1 x p => exact meet_rel h
  | f2 x p q => exact meet_rel h
theorem later_rel {m k : P} (h : MK m k) (hv : m.val = false) : SRel (later true m k) ((slater m k).map some) := by
  unfold later slater
  rw [newN_free]
  cases e : laterAt true (newN true m k) m k with
  | none => exact True.intro
  | some q =>
    have h1 := m.uses_len
    have h2 := k.uses_len
    have h3 := (nxt_pot (free := m.uses ++ k.uses) (v := true) (a := 0) (c := 0) (Nat.zero_le _)).1
    have hs := h.sz
    obtain ⟨h1, h2, -⟩ := laterAt_true h (by rw [List.length_append] at h3; omega) hv e
    exact ⟨rfl, h1, h2⟩
theorem step_rel_t {m k : P} (h : MK m k) : SRel (stepG true m k) (sstep m k) := by
  cases m with
  | bd a s =>
    obtain ⟨b1, b2, b3⟩ := bd_parts h.mok
    have hs := h.sz
    rw [P.size] at hs
    exact put_rel b2 b3 h.kok (h.kc.trans (nm_kind_t h.mt).symm) (by omega)
  | nm s => exact rest_rel h
  | f1 x p =>
    rw [stepG, sstep, show isval true (.f1 x p) = (P.f1 x p).val from rfl]
    cases hv : (P.f1 x p).val
    · rw [if_neg (by decide), if_neg (by decide)]; exact later_rel h hv
    · rw [if_pos rfl, if_pos rfl]; exact rest_rel h
  | f2 x p q =>
    rw [stepG, sstep, show isval true (.f2 x p q) = (P.f2 x p q).val from rfl]
    cases hv : (P.f2 x p q).val
    · rw [if_neg (by decide), if_neg (by decide)]; exact later_rel h hv
    · rw [if_pos rfl, if_pos rfl]; exact rest_rel h

end Go.Proofs.YtaagbnbekfogiaaGreatDoor

namespace Go.Proofs.YtaagbnbekfogiaaGreatDoor
set_option linter.unusedVariables false

/-- The second one has the dual of the first one's step. -/
def DRel : Option P → Option P → Prop
  | none, none => True
  | some q, some r => q.db [] = (r.db []).dual
  | _, _ => False

theorem put_dual {s : P} {x : Bs} {m : P} (hs : s.ok = true) (hm : m.ok = true) : (s.put x m).db [] = ((s.dual.put (swapB x) m.dual).db []).dual := by
  rw [P.put_db, P.put_db, B.sub_dual, swapB_two, ← P.dual_db0 (P.nok_ok (P.dual_ok hs)), ← P.dual_db0 (P.nok_ok (P.dual_ok hm)), P.dual_dual hs, P.dual_dual hm]
theorem hd1_dword {h : Bs} {p : P} (hok : (P.f1 h p).ok = true) : dword (dword h) = h := by
  rw [P.ok, Bool.and_eq_true, decide_eq_true_iff] at hok
  exact (dual_hd1 hok.2).2
theorem hd2_side {h : Bs} {p q : P} (hok : (P.f2 h p q).ok = true) (hk : (P.f2 h p q).kind ≠ .s) : h ≠ cutB ∧ dword (dword h) = h := by
  rw [P.ok, Bool.and_eq_true, Bool.and_eq_true, decide_eq_true_iff] at hok
  have hc : h ≠ cutB := fun e => by
    subst e
    exact hk (cut_hd2 hok.2).1
  exact ⟨hc, (dual_hd2 hok.2 hc).2.1⟩
theorem cut_dual (a b : P) : (P.f2 cutB a b).dual = .f2 cutB b.dual a.dual := by rw [P.dual, if_pos rfl]
theorem parts1 {h : Bs} {p : P} (hok : (P.f1 h p).ok = true) : p.ok = true := by rw [P.ok, Bool.and_eq_true] at hok; exact hok.1
theorem parts2 {h : Bs} {p q : P} (hok : (P.f2 h p q).ok = true) : p.ok = true ∧ q.ok = true := by rw [P.ok, Bool.and_eq_true, Bool.and_eq_true] at hok; exact hok.1

theorem dual_f2 {h : Bs} (hc : h ≠ cutB) (p q : P) : (P.f2 h p q).dual = .f2 (dword h) p.dual q.dual := by rw [P.dual, if_neg hc]
theorem dual_f1 (h : Bs) (p : P) : (P.f1 h p).dual = .f1 (dword h) p.dual := rfl

theorem meet_dual {m k : P} (h : MK m k) : (meet true k.dual m.dual).map P.dual = meet false k m := by
  obtain ⟨h1, h2, h3, h4, h5⟩ := h
  match k, m, h1, h2, h3, h4 with
  | .f2 x p q, .f1 y l, h1, h2, h3, h4 =>
    obtain ⟨hc, hd⟩ := hd2_side h2 (by rw [h4]; decide)
    have hl := P.dual_dual (parts1 h1)
    have hp := P.dual_dual (parts2 h2).1
    have hq := P.dual_dual (parts2 h2).2
    rw [dual_f2 hc, dual_f1]
    simp only [meet, sideH, if_true, if_false, Bool.false_eq_true, mkcut]
    by_cases e1 : dword x = pairB ∧ dword y = fstB
    · rw [if_pos e1, if_pos e1, Option.map_some, cut_dual, hl, hp]
    · rw [if_neg e1, if_neg e1]
      by_cases e2 : dword x = pairB ∧ dword y = sndB
      · rw [if_pos e2, if_pos e2, Option.map_some, cut_dual, hl, hq]
      · rw [if_neg e2, if_neg e2]; rfl
  | .f1 x p, .f2 y l r, h1, h2, h3, h4 =>
    obtain ⟨hc, hd⟩ := hd2_side h1 (by rw [h3]; decide)
    have hp := P.dual_dual (parts1 h2)
    have hl := P.dual_dual (parts2 h1).1
    have hr := P.dual_dual (parts2 h1).2
    rw [dual_f1, dual_f2 hc]
    simp only [meet, sideH, if_true, if_false, Bool.false_eq_true, mkcut]
    by_cases e1 : dword x = inlB ∧ dword y = caseB
    · rw [if_pos e1, if_pos e1, Option.map_some, cut_dual, hl, hp]
    · rw [if_neg e1, if_neg e1]
      by_cases e2 : dword x = inrB ∧ dword y = caseB
      · rw [if_pos e2, if_pos e2, Option.map_some, cut_dual, hr, hp]
      · rw [if_neg e2, if_neg e2]; rfl
  | .f1 x l, .f1 y n, h1, h2, h3, h4 =>
    have hl := P.dual_dual (parts1 h2)
    have hn := P.dual_dual (parts1 h1)
    rw [P.dual, P.dual]
    simp only [meet, sideH, if_true, if_false, Bool.false_eq_true, mkcut]
    by_cases e1 : dword x = notB ∧ dword y = negB
    · rw [if_pos e1, if_pos e1, Option.map_some, cut_dual, hl, hn]
    · rw [if_neg e1, if_neg e1]; rfl
  | .f2 x p q, .f2 y l r, h1, h2, h3, h4 =>
    rw [dual_f2 (hd2_side h2 (by rw [h4]; decide)).1, dual_f2 (hd2_side h1 (by rw [h3]; decide)).1]
    rfl
  | .f2 x p q, .nm _, h1, h2, h3, h4 =>
    rw [dual_f2 (hd2_side h2 (by rw [h4]; decide)).1]; rfl
  | .f2 x p q, .bd _ _, h1, h2, h3, h4 =>
    rw [dual_f2 (hd2_side h2 (by rw [h4]; decide)).1]; rfl
  | .nm _, _, _, _, _, _ => rfl
  | .bd _ _, _, _, _, _, _ => rfl
  | .f1 _ _, .nm _, _, _, _, _ => rfl
  | .f1 _ _, .bd _ _, _, _, _, _ => rfl

theorem drel_map {o : Option P} (h : ∀ r, o = some r → r.ok = true) : DRel (o.map P.dual) o := by
  cases o with
  | none => exact True.intro
  | some r => exact P.dual_db0 (P.nok_ok (h r rfl))
theorem rest_dual {m k : P} (h : MK m k) : DRel (rest false k m) (rest true k.dual m.dual) := by
  have hm := meet_dual h
  have key : DRel (meet false k m) (meet true k.dual m.dual) := by
    rw [← hm]
    exact drel_map fun r hr => (meet_true h.dual hr).1
  cases m with
  | bd a s =>
    obtain ⟨b1, b2, b3⟩ := bd_parts h.mok
    exact put_dual b2 h.kok
  | nm s => exact key
  | f1 x p => exact key
  | f2 x p q =>
    have hc := (hd2_side h.mok (by rw [h.mt]; decide)).1
    rw [P.dual, if_neg hc] at key ⊢
    exact key
theorem nxt_dual (m k : P) : nxt (k.dual.uses ++ m.dual.uses) true 0 = nxt (k.uses ++ m.uses) false 0 := by
  have hsw : ∀ i, swapB (cname false i) = cname true i := fun i => rfl
  have hiff : ∀ i, cname true i ∈ k.dual.uses ++ m.dual.uses ↔ cname false i ∈ k.uses ++ m.uses := fun i => by
    rw [List.mem_append, List.mem_append, ← hsw i, P.dual_uses, P.dual_uses]
  obtain ⟨k1, k2, k3⟩ := nxt_least (k.uses ++ m.uses) false 0
  exact nxt_is (fun h => k1 ((hiff _).1 h)) k2 (fun i h1 h2 => (hiff i).2 (k3 i h1 h2))
theorem laterAt_dual {m k : P} (h : MK m k) (i : Nat) (hv : k.cov = false) : (laterAt true (cname true i) k.dual m.dual).map P.dual = laterAt false (cname false i) k m := by
  have hsw : swapB (cname true i) = cname false i := rfl
  have hmd := P.dual_dual h.mok
  cases k with
  | bd a s => rfl
  | nm s => rfl
  | f1 x p =>
    have hx := hd1_dword h.kok
    have hp := P.dual_dual (parts1 h.kok)
    rw [P.dual]
    simp only [laterAt, mkcut, if_true, if_false, Bool.false_eq_true, Option.map_some]
    rw [cut_dual, P.dual, cut_dual, P.dual, P.dual, hsw, hx, hp, hmd]
  | f2 x p q =>
    obtain ⟨hc, hx⟩ := hd2_side h.kok (by rw [h.kc]; decide)
    have hp := P.dual_dual (parts2 h.kok).1
    have hq := P.dual_dual (parts2 h.kok).2
    have hdc : dword x ≠ cutB := by
      have := h.kok
      rw [P.ok, Bool.and_eq_true, Bool.and_eq_true, decide_eq_true_iff] at this
      exact (dual_hd2 this.2 hc).2.2
    have hpv := (P.val_dual (parts2 h.kok).1).1
    rw [P.dual, if_neg hc]
    simp only [laterAt, mkcut, if_true, if_false, Bool.false_eq_true, isval, hpv]
    cases p.cov
    · simp only [if_false, Bool.false_eq_true, Option.map_some]
      rw [cut_dual, P.dual, cut_dual, P.dual, if_neg hdc, P.dual, hsw, hx, hp, hq, hmd]
    · simp only [if_true, Option.map_some]
      rw [cut_dual, P.dual, cut_dual, P.dual, if_neg hdc, P.dual, hsw, hx, hp, hq, hmd]
theorem later_dual {m k : P} (h : MK m k) (hv : k.cov = false) : DRel (later false k m) (later true k.dual m.dual) := by
  have h1 := k.uses_len
  have h2 := m.uses_len
  have h3 := (nxt_pot (free := k.uses ++ m.uses) (v := false) (a := 0) (c := 0) (Nat.zero_le _)).1
  have hs := h.sz
  unfold later newN
  rw [nxt_dual, ← laterAt_dual h _ hv]
  refine drel_map fun r hr => ?_
  exact (laterAt_true h.dual (by rw [List.length_append] at h3; omega) (by rw [(P.val_dual h.kok).1, hv]) hr).1
theorem step_dual {m k : P} (h : MK m k) : DRel (stepG false k m) (stepG true k.dual m.dual) := by
  have hr := rest_dual h
  have hl := later_dual h
  have hvd := (P.val_dual h.kok).1
  cases k with
  | bd x s =>
    obtain ⟨b1, b2, b3⟩ := bd_parts h.kok
    exact put_dual b2 h.mok
  | nm s => exact hr
  | f1 x p =>
    rw [P.dual] at hr hl hvd ⊢
    rw [stepG, stepG, show isval false (.f1 x p) = (P.f1 x p).cov from rfl, show isval true (.f1 (dword x) p.dual) = (P.f1 (dword x) p.dual).val from rfl, hvd]
    cases hv : (P.f1 x p).cov
    · rw [if_neg (by decide), if_neg (by decide)]; exact hl hv
    · rw [if_pos rfl, if_pos rfl]; exact hr
  | f2 x p q =>
    have hc := (hd2_side h.kok (by rw [h.kc]; decide)).1
    rw [P.dual, if_neg hc] at hr hl hvd ⊢
    rw [stepG, stepG, show isval false (.f2 x p q) = (P.f2 x p q).cov from rfl, show isval true (.f2 (dword x) p.dual q.dual) = (P.f2 (dword x) p.dual q.dual).val from rfl, hvd]
    cases hv : (P.f2 x p q).cov
    · rw [if_neg (by decide), if_neg (by decide)]; exact hl hv
    · rw [if_pos rfl, if_pos rfl]; exact hr
theorem B.dual_size : ∀ d : B, d.dual.size = d.size
  | .fr _ => rfl
  | .bv _ => rfl
  | .f1 _ d => by rw [B.dual, B.size, B.size, B.dual_size d]
  | .f2 x d e => by
    rw [B.dual]
    split
    · rw [B.size, B.size, B.dual_size d, B.dual_size e]; omega
    · rw [B.size, B.size, B.dual_size d, B.dual_size e]
  | .bd _ d => by rw [B.dual, B.size, B.size, B.dual_size d]
theorem step_rel {m k : P} (h : MK m k) (v : Bool) : SRel (stepC v m k) (sany v m k) := by
  cases v
  · have hd := step_dual h
    have ht := step_rel_t h.dual
    unfold stepC sany
    rw [if_neg (by decide), if_neg (by decide)]
    cases e1 : stepG false k m with
    | none =>
      cases e2 : stepG true k.dual m.dual with
      | none =>
        rw [e2] at ht
        cases e3 : sstep k.dual m.dual with
        | none => exact True.intro
        | some o => rw [e3] at ht; exact ht.elim
      | some r => rw [e1, e2] at hd; exact hd.elim
    | some q =>
      cases e2 : stepG true k.dual m.dual with
      | none => rw [e1, e2] at hd; exact hd.elim
      | some r =>
        rw [e1, e2] at hd
        rw [e2] at ht
        have hd : q.db [] = (r.db []).dual := hd
        have hsz : q.size = r.size := by rw [← q.db_size [], hd, B.dual_size, r.db_size]
        cases e3 : sstep k.dual m.dual with
        | none => rw [e3] at ht; exact ht.elim
        | some o =>
          rw [e3] at ht
          cases o with
          | none =>
            have ht : 500 < r.size := ht
            show 500 < q.size
            omega
          | some q' =>
            obtain ⟨h1, h2, h3⟩ := (ht : q'.db [] = r.db [] ∧ q'.ok = true ∧ q'.kind = .s)
            refine ⟨?_, P.dual_ok h2, by rw [P.dual_kind h2, h3]; rfl⟩
            rw [P.dual_db0 (P.nok_ok h2), h1, hd]
  · exact step_rel_t h

/-- What a step makes is well named and not too large, and a statement if it is small enough. -/
structure Next (q : P) : Prop where
  nok : q.nok = true
  size : q.size ≤ 64000
  good : q.size ≤ 500 → q.ok = true ∧ q.kind = .s
theorem next_put {s : P} {n : Bs} {q : P} (hs : s.ok = true) (hss : s.kind = .s) (hq : q.ok = true) (hk : q.kind = (P.nm n).kind) (hz : s.size + q.size ≤ 500) : Next (s.put n q) := by
  have h1 := put_small (p := s) (n := n) (q := q) hz
  refine ⟨put_nok (P.nok_ok hs) (P.nok_ok hq) hz (by omega), by omega, fun h5 => ?_⟩
  obtain ⟨a1, a2⟩ := put_ok hs hq hk hz h5
  exact ⟨a1, a2.trans hss⟩
theorem next_ok {q : P} (h1 : q.ok = true) (h2 : q.kind = .s) (h3 : q.size ≤ 64000) : Next q := ⟨P.nok_ok h1, h3, fun _ => ⟨h1, h2⟩⟩
theorem next_dual {q : P} (h1 : q.ok = true) (h2 : q.kind = .s) (h3 : q.size ≤ 64000) : Next q.dual := next_ok (P.dual_ok h1) (by rw [P.dual_kind h1, h2]; rfl) (by rw [P.dual_size]; exact h3)
theorem next_rest_t {m k q : P} (h : MK m k) (e : rest true m k = some q) : Next q := by
  have key : ∀ {q}, meet true m k = some q → Next q := fun {q} e => by
    obtain ⟨h1, h2, h3⟩ := meet_true h e
    have := h.sz
    exact next_ok h1 h2 (by omega)
  cases k with
  | bd x s =>
    obtain ⟨b1, b2, b3⟩ := bd_parts h.kok
    have hs := h.sz
    rw [P.size] at hs
    injection e with e; subst e
    exact next_put b2 b3 h.mok (h.mt.trans (nm_kind_c h.kc).symm) (by omega)
  | nm s => exact key e
  | f1 x p => exact key e
  | f2 x p q => exact key e
theorem next_rest_n {m k q : P} (h : MK m k) (e : rest false k m = some q) : Next q := by
  have key : ∀ {q}, meet false k m = some q → Next q := fun {q} e => by
    rw [← meet_dual h] at e
    obtain ⟨r, hr, rfl⟩ := Option.map_eq_some_iff.1 e
    obtain ⟨h1, h2, h3⟩ := meet_true h.dual hr
    have := h.sz
    rw [P.dual_size, P.dual_size] at h3
    exact next_dual h1 h2 (by omega)
  cases m with
  | bd x s =>
    obtain ⟨b1, b2, b3⟩ := bd_parts h.mok
    have hs := h.sz
    rw [P.size] at hs
    injection e with e; subst e
    exact next_put b2 b3 h.kok (h.kc.trans (nm_kind_t h.mt).symm) (by omega)
  | nm s => exact key e
  | f1 x p => exact key e
  | f2 x p q => exact key e
theorem new_lt (v : Bool) (f g : P) (h : f.size + g.size ≤ 500) : nxt (f.uses ++ g.uses) v 0 < 1000 := by
  have h1 := f.uses_len
  have h2 := g.uses_len
  have h3 := (nxt_pot (free := f.uses ++ g.uses) (v := v) (a := 0) (c := 0) (Nat.zero_le _)).1
  rw [List.length_append] at h3; omega
theorem next_later_t {m k q : P} (h : MK m k) (hv : m.val = false) (e : later true m k = some q) : Next q := by
  have hs := h.sz
  obtain ⟨h1, h2, h3⟩ := laterAt_true h (new_lt true m k (by omega)) hv e
  exact next_ok h1 h2 (by omega)
theorem next_later_n {m k q : P} (h : MK m k) (hv : k.cov = false) (e : later false k m = some q) : Next q := by
  have hs := h.sz
  unfold later newN at e
  rw [← laterAt_dual h _ hv] at e
  obtain ⟨r, hr, rfl⟩ := Option.map_eq_some_iff.1 e
  obtain ⟨h1, h2, h3⟩ := laterAt_true h.dual (new_lt false k m (by omega)) (by rw [(P.val_dual h.kok).1, hv]) hr
  rw [P.dual_size, P.dual_size] at h3
  exact next_dual h1 h2 (by omega)
theorem next_step {m k q : P} (h : MK m k) {v : Bool} (e : stepC v m k = some q) : Next q := by
  cases v
  · unfold stepC at e
    rw [if_neg (by decide)] at e
    cases k with
    | bd x s =>
      obtain ⟨b1, b2, b3⟩ := bd_parts h.kok
      have hs := h.sz
      rw [P.size] at hs
      injection e with e; subst e
      exact next_put b2 b3 h.mok (h.mt.trans (nm_kind_c h.kc).symm) (by omega)
    | nm s => exact next_rest_n h e
    | f1 x p =>
      rw [stepG, show isval false (.f1 x p) = (P.f1 x p).cov from rfl] at e
      cases hv : (P.f1 x p).cov
      · rw [hv, if_neg (by decide)] at e; exact next_later_n h hv e
      · rw [hv, if_pos rfl] at e; exact next_rest_n h e
    | f2 x p q =>
      rw [stepG, show isval false (.f2 x p q) = (P.f2 x p q).cov from rfl] at e
      cases hv : (P.f2 x p q).cov
      · rw [hv, if_neg (by decide)] at e; exact next_later_n h hv e
      · rw [hv, if_pos rfl] at e; exact next_rest_n h e
  · unfold stepC at e
    rw [if_pos rfl] at e
    cases m with
    | bd x s =>
      obtain ⟨b1, b2, b3⟩ := bd_parts h.mok
      have hs := h.sz
      rw [P.size] at hs
      injection e with e; subst e
      exact next_put b2 b3 h.kok (h.kc.trans (nm_kind_t h.mt).symm) (by omega)
    | nm s => exact next_rest_t h e
    | f1 x p =>
      rw [stepG, show isval true (.f1 x p) = (P.f1 x p).val from rfl] at e
      cases hv : (P.f1 x p).val
      · rw [hv, if_neg (by decide)] at e; exact next_later_t h hv e
      · rw [hv, if_pos rfl] at e; exact next_rest_t h e
    | f2 x p q =>
      rw [stepG, show isval true (.f2 x p q) = (P.f2 x p q).val from rfl] at e
      cases hv : (P.f2 x p q).val
      · rw [hv, if_neg (by decide)] at e; exact next_later_t h hv e
      · rw [hv, if_pos rfl] at e; exact next_rest_t h e

end Go.Proofs.YtaagbnbekfogiaaGreatDoor

namespace Go.Proofs.YtaagbnbekfogiaaGreatDoor
set_option linter.unusedVariables false

/-- Is the text of a program one again? -/
def writeB (p : P) : Bool := decide (p.size ≤ 500) && (readP p.text).isSome
def writeT (p : P) : Bs := if writeB p = true then p.text else []

/-- A statement of a program's size. -/
structure Stm (p : P) : Prop where
  ok : p.ok = true
  kd : p.kind = .s
  sz : p.size ≤ 500
theorem stm_cut {p : P} (h : Stm p) : ∃ m k, p = .f2 cutB m k ∧ MK m k := by
  obtain ⟨h1, h2, h3⟩ := h
  cases p with
  | nm s => simp only [P.kind] at h2; split at h2 <;> cases h2
  | bd s b => simp only [P.kind] at h2; split at h2 <;> cases h2
  | f1 x p =>
    exfalso
    rw [P.ok, Bool.and_eq_true, decide_eq_true_iff, h2] at h1
    have e := h1.2
    unfold hd1 at e
    repeat' split at e
    all_goals first | (injection e with e; injection e with e; cases e; done) | (cases e; done)
  | f2 x p q =>
    have h1' := h1
    rw [P.ok, Bool.and_eq_true, Bool.and_eq_true, decide_eq_true_iff, h2] at h1
    have e := h1.2
    have hx : x = cutB := by
      unfold hd2 at e
      repeat' split at e
      all_goals first | (injection e with e; injection e with e; cases e; done) | (cases e; done) | (rename_i hh; rw [hh]; rfl)
    subst hx
    exact ⟨p, q, rfl, MK.of h1' h3⟩

/-- The step to a canonical statement. -/
def canStep (v : Bool) (p : P) : Option P := (stepP v p).map P.canon
/-- What is behind one step. -/
theorem canStep_next {v : Bool} {p c : P} (h : Stm p) (e : canStep v p = some c) : c.nok = true ∧ c.size ≤ 64000 ∧ (c.size ≤ 500 → Stm c) := by
  obtain ⟨m, k, rfl, hmk⟩ := stm_cut h
  obtain ⟨q, hq, rfl⟩ := Option.map_eq_some_iff.1 e
  have hn := next_step hmk (v := v) (show stepC v m k = some q from by have := hq; rw [stepP, if_pos rfl] at this; exact this)
  have hsz := q.canon_size
  refine ⟨canon_nok hn.nok (by have := hn.size; omega), by rw [hsz]; exact hn.size, fun h5 => ?_⟩
  rw [hsz] at h5
  obtain ⟨h1, h2⟩ := hn.good h5
  obtain ⟨h3, h4⟩ := canon_ok h1 h5
  exact ⟨h3, h4.trans h2, by rw [hsz]; exact h5⟩
theorem writeB_size {p : P} (h : writeB p = true) : p.size ≤ 500 ∧ (readP p.text).isSome = true := by
  unfold writeB at h
  rw [Bool.and_eq_true, decide_eq_true_iff] at h
  exact h
theorem writeB_read {p : P} (hok : p.ok = true) (h : writeB p = true) : readP p.text = some p := by
  obtain ⟨h1, h2⟩ := writeB_size h
  cases e : readP p.text with
  | none => rw [e] at h2; cases h2
  | some q =>
    have h3 := readP_back e
    have e2 : p.tree.text = q.tree.text := h3.1
    have ht := fun (r : P) (hr : r.ok = true) (hn : r.tree.nest ≤ max p.tree.nest q.tree.nest) => rd_text (max p.tree.nest q.tree.nest) r.tree [] (P.good_tree hr) hn (fun c r h => by cases h)
    have h4 := ht p hok (Nat.le_max_left _ _)
    have h5 := ht q h3.2.2.1 (Nat.le_max_right _ _)
    rw [e2, h5] at h4
    injection h4 with h4
    injection h4 with h4 _
    have h6 := tree_toP h3.2.2.1
    rw [h4, tree_toP hok] at h6
    exact h6.symm

/-- At most so many steps: what is behind them, their number, and whether it is stuck. -/
def redu (v : Bool) : Nat → P → P × Nat × Bool
  | 0, p => (p, 0, (canStep v p).isNone)
  | n + 1, p => match canStep v p with
    | none => (p, 0, true)
    | some c => if writeB c then ((redu v n c).1, (redu v n c).2.1 + 1, (redu v n c).2.2) else (p, 0, false)
theorem redu_stm (v : Bool) : ∀ (n : Nat) (p : P), Stm p → Stm (redu v n p).1
  | 0, p, h => h
  | n + 1, p, h => by
    rw [redu]
    cases e : canStep v p with
    | none => exact h
    | some c =>
      simp only
      split
      · rename_i hw
        exact redu_stm v n c ((canStep_next h e).2.2 (writeB_size hw).1)
      · exact h
theorem redu_le (v : Bool) : ∀ (n : Nat) (p : P), (redu v n p).2.1 ≤ n
  | 0, p => Nat.le_refl _
  | n + 1, p => by
    rw [redu]
    cases e : canStep v p with
    | none => exact Nat.zero_le _
    | some c =>
      simp only
      split
      · have := redu_le v n c
        show (redu v n c).2.1 + 1 ≤ n + 1
        omega
      · exact Nat.zero_le _
/-- It is stuck if nothing is left to do. -/
theorem redu_stuck (v : Bool) : ∀ (n : Nat) (p : P), (redu v n p).2.2 = (canStep v (redu v n p).1).isNone
  | 0, p => rfl
  | n + 1, p => by
    rw [redu]
    cases e : canStep v p with
    | none => simp only; rw [e]; rfl
    | some c =>
      simp only
      split
      · exact redu_stuck v n c
      · simp only; rw [e]; rfl

/-- The kind of steps that a text is. -/
def kindOf (b : Bs) : Option Bool := if b = [110, 97, 109, 101] then some false else if b = [118, 97, 108, 117, 101] then some true else none
def kname (v : Bool) : Bs := if v then [118, 97, 108, 117, 101] else [110, 97, 109, 101]
theorem kindOf_some {b : Bs} {v : Bool} (h : kindOf b = some v) : b = kname v := by
  unfold kindOf at h
  split at h
  · rename_i e; injection h with h; subst h; exact e
  · split at h
    · rename_i e; injection h with h; subst h; exact e
    · cases h
/-- The statement that a text is. -/
def readS (b : Bs) : Option P := match readP b with
  | none => none
  | some p => if p.kind = .s then some p else none
theorem readS_stm {b : Bs} {p : P} (h : readS b = some p) : Stm p ∧ readP b = some p := by
  unfold readS at h
  cases e : readP b with
  | none => rw [e] at h; cases h
  | some q =>
    rw [e] at h
    simp only at h
    split at h
    · rename_i hk
      injection h with h; subst h
      exact ⟨⟨(readP_ok e).1, hk, (readP_ok e).2.1⟩, rfl⟩
    · cases h

end Go.Proofs.YtaagbnbekfogiaaGreatDoor
