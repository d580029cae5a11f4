/- Programs with bound names as numbers: what is alike is equal there. Naming them gives the canonical programs. -/
import Derived.Test.YtaagbnbekfogiaaMathC
namespace Go.Proofs.Ytaagbnbekfogiaa
set_option linter.unusedVariables false

/-- A free name, a bound one by the number of binders between, forms, a binder of a variable or of a covariable. -/
inductive B where
  | fr (s : Bs)
  | bv (i : Nat)
  | f1 (h : Bs) (d : B)
  | f2 (h : Bs) (d e : B)
  | bd (v : Bool) (d : B)

def idx : List Bs → Bs → Option Nat
  | [], _ => none
  | o :: ctx, s => if o = s then some 0 else (idx ctx s).map (· + 1)
def P.db : List Bs → P → B
  | ctx, .nm s => match idx ctx s with
    | some i => .bv i
    | none => .fr s
  | ctx, .f1 h p => .f1 h (p.db ctx)
  | ctx, .f2 h p q => .f2 h (p.db ctx) (q.db ctx)
  | ctx, .bd s b => .bd (firstIs varB s) (b.db (s :: ctx))

def B.nam (free : List Bs) : List Bs → B → St → P × St
  | _, .fr s, st => (.nm s, st)
  | ctx, .bv i, st => (.nm (ctx.getD i []), st)
  | ctx, .f1 h d, st => (.f1 h (d.nam free ctx st).1, (d.nam free ctx st).2)
  | ctx, .f2 h d e, st => (.f2 h (d.nam free ctx st).1 (e.nam free ctx (d.nam free ctx st).2).1, (e.nam free ctx (d.nam free ctx st).2).2)
  | ctx, .bd v d, st =>
    let r := d.nam free (cname v (nxt free v (st.get v)) :: ctx) (st.put v (nxt free v (st.get v) + 1))
    (.bd (cname v (nxt free v (st.get v))) r.1, r.2)

/-- A closed e is put for a free name. -/
def B.sub : B → Bs → B → B
  | .fr s, n, e => if n = s then e else .fr s
  | .bv i, n, e => .bv i
  | .f1 h d, n, e => .f1 h (d.sub n e)
  | .f2 h d d', n, e => .f2 h (d.sub n e) (d'.sub n e)
  | .bd v d, n, e => .bd v (d.sub n e)
def B.frs : B → List Bs
  | .fr s => [s]
  | .bv _ => []
  | .f1 _ d => d.frs
  | .f2 _ d e => d.frs ++ e.frs
  | .bd _ d => d.frs
/-- Numbers are below k and the binders around. -/
def B.cl : Nat → B → Prop
  | _, .fr _ => True
  | k, .bv i => i < k
  | k, .f1 _ d => d.cl k
  | k, .f2 _ d e => d.cl k ∧ e.cl k
  | k, .bd _ d => d.cl (k + 1)
def B.size : B → Nat
  | .fr _ => 1
  | .bv _ => 1
  | .f1 _ d => 1 + d.size
  | .f2 _ d e => 1 + d.size + e.size
  | .bd _ d => 2 + d.size

theorem idx_lt : ∀ {ctx : List Bs} {s : Bs} {i : Nat}, idx ctx s = some i → i < ctx.length
  | [], s, i, h => by cases h
  | o :: ctx, s, i, h => by
    rw [idx] at h
    split at h
    · injection h with h; subst h; simp
    · cases hi : idx ctx s with
      | none => rw [hi] at h; cases h
      | some j => rw [hi] at h; injection h with h; have := idx_lt hi; subst h; simp; omega
theorem idx_none {ctx : List Bs} {s : Bs} : idx ctx s = none ↔ s ∉ ctx := by
  induction ctx with
  | nil => simp [idx]
  | cons o ctx ih =>
    rw [idx]
    by_cases h : o = s
    · subst h; simp
    · rw [if_neg h]
      cases hi : idx ctx s with
      | none => simp [ih.1 hi, Ne.symm h]
      | some j =>
        have : ¬ (s ∉ ctx) := fun hn => by rw [ih.2 hn] at hi; cases hi
        simp at this
        simp [this]
theorem idx_get : ∀ {ctx : List Bs} {i : Nat}, ctx.Nodup → i < ctx.length → idx ctx (ctx.getD i []) = some i
  | [], i, _, h => by simp at h
  | o :: ctx, 0, _, _ => if_pos rfl
  | o :: ctx, i + 1, hn, h => by
    rw [List.nodup_cons] at hn
    have hl : i < ctx.length := by simpa using h
    have ih := idx_get hn.2 hl
    have e : (o :: ctx).getD (i + 1) [] = ctx.getD i [] := by simp
    rw [e]
    have hne : ¬ o = ctx.getD i [] := fun he => hn.1 (by rw [he, List.getD_eq_getElem?_getD, List.getElem?_eq_getElem hl]; exact List.getElem_mem hl)
    show (if o = ctx.getD i [] then some 0 else (idx ctx (ctx.getD i [])).map (· + 1)) = some (i + 1)
    rw [if_neg hne, ih]
    rfl
theorem look_idx : ∀ (sc : List (Bs × Bs)) (s : Bs), look sc s = (idx (sc.map (·.1)) s).map fun i => (sc.map (·.2)).getD i []
  | [], s => rfl
  | (o, n) :: sc, s => by
    show (if o = s then some n else look sc s) = (if o = s then some 0 else (idx (sc.map (·.1)) s).map (· + 1)).map fun i => (n :: sc.map (·.2)).getD i []
    by_cases h : o = s
    · subst h; simp
    · rw [if_neg h, if_neg h, look_idx sc s]
      cases idx (sc.map (·.1)) s with
      | none => rfl
      | some i => simp

theorem P.db_cl : ∀ (p : P) (ctx : List Bs), (p.db ctx).cl ctx.length
  | .nm s, ctx => by
    rw [P.db]
    split
    · rename_i i h; exact idx_lt h
    · exact True.intro
  | .f1 _ p, ctx => p.db_cl ctx
  | .f2 _ p q, ctx => ⟨p.db_cl ctx, q.db_cl ctx⟩
  | .bd s b, ctx => b.db_cl (s :: ctx)

/-- What is closed is named without regard to what is around. -/
theorem B.nam_ctx (free : List Bs) : ∀ (d : B) (a c c' : List Bs) (st : St), d.cl a.length → d.nam free (a ++ c) st = d.nam free (a ++ c') st
  | .fr s, a, c, c', st, h => rfl
  | .bv i, a, c, c', st, h => by
    have h : i < a.length := h
    simp [B.nam, List.getD_eq_getElem?_getD, List.getElem?_append_left h]
  | .f1 _ d, a, c, c', st, h => by rw [B.nam, B.nam, d.nam_ctx free a c c' st h]
  | .f2 _ d e, a, c, c', st, h => by rw [B.nam, B.nam, d.nam_ctx free a c c' st h.1, e.nam_ctx free a c c' _ h.2]
  | .bd v d, a, c, c', st, h => by
    rw [B.nam, B.nam]
    have := d.nam_ctx free (cname v (nxt free v (st.get v)) :: a) c c' (st.put v (nxt free v (st.get v) + 1)) h
    rw [List.cons_append, List.cons_append] at this
    rw [this]

/-- Renaming is naming. -/
theorem P.ren_nam (free : List Bs) : ∀ (p : P) (sc : List (Bs × Bs)) (st : St), p.ren free stay sc st = (p.db (sc.map (·.1))).nam free (sc.map (·.2)) st
  | .nm s, sc, st => by
    rw [P.ren, P.db, look_idx]
    cases idx (sc.map (·.1)) s with
    | none => rfl
    | some i => rfl
  | .f1 _ p, sc, st => by rw [P.ren, P.db, B.nam, p.ren_nam free sc st]
  | .f2 _ p q, sc, st => by rw [P.ren, P.db, B.nam, p.ren_nam free sc st, q.ren_nam free sc _]
  | .bd s b, sc, st => by
    rw [P.ren, P.db, B.nam]
    have := b.ren_nam free ((s, cname (firstIs varB s) (nxt free (firstIs varB s) (st.get (firstIs varB s)))) :: sc) (st.put (firstIs varB s) (nxt free (firstIs varB s) (st.get (firstIs varB s)) + 1))
    rw [List.map_cons, List.map_cons] at this
    simp only [this]
theorem P.put_nam (free : List Bs) (n : Bs) (q : P) : ∀ (p : P) (sc : List (Bs × Bs)) (st : St), p.ren free (putAt free (some (n, q))) sc st = ((p.db (sc.map (·.1))).sub n (q.db [])).nam free (sc.map (·.2)) st
  | .nm s, sc, st => by
    rw [P.ren, P.db, look_idx]
    cases idx (sc.map (·.1)) s with
    | some i => rfl
    | none =>
      simp only [Option.map_none]
      rw [putAt, B.sub]
      by_cases h : n = s
      · rw [if_pos h, if_pos h, q.ren_nam free [] st]
        exact B.nam_ctx free (q.db []) [] [] (sc.map (·.2)) st (q.db_cl [])
      · rw [if_neg h, if_neg h]; rfl
  | .f1 _ p, sc, st => by rw [P.ren, P.db, B.sub, B.nam, P.put_nam free n q p sc st]
  | .f2 _ p p', sc, st => by rw [P.ren, P.db, B.sub, B.nam, P.put_nam free n q p sc st, P.put_nam free n q p' sc _]
  | .bd s b, sc, st => by
    rw [P.ren, P.db, B.sub, B.nam]
    have := P.put_nam free n q b ((s, cname (firstIs varB s) (nxt free (firstIs varB s) (st.get (firstIs varB s)))) :: sc) (st.put (firstIs varB s) (nxt free (firstIs varB s) (st.get (firstIs varB s)) + 1))
    rw [List.map_cons, List.map_cons] at this
    simp only [this]

theorem B.nam_mono (free : List Bs) : ∀ (d : B) (ctx : List Bs) (st : St) (v : Bool), st.get v ≤ (d.nam free ctx st).2.get v
  | .fr s, ctx, st, v => Nat.le_refl _
  | .bv i, ctx, st, v => Nat.le_refl _
  | .f1 _ d, ctx, st, v => d.nam_mono free ctx st v
  | .f2 _ d e, ctx, st, v => Nat.le_trans (d.nam_mono free ctx st v) (e.nam_mono free ctx _ v)
  | .bd u d, ctx, st, v => by
    have h := d.nam_mono free (cname u (nxt free u (st.get u)) :: ctx) (st.put u (nxt free u (st.get u) + 1)) v
    have h2 := (nxt_least free u (st.get u)).2.1
    refine Nat.le_trans ?_ h
    by_cases e : v = u
    · subst e; rw [St.get_same]; omega
    · rw [St.get_other _ _ _ _ e]; exact Nat.le_refl _

/-- What has been given out so far: not free, each once, and below the counts. -/
structure Given (free : List Bs) (ctx : List Bs) (st : St) : Prop where
  nodup : ctx.Nodup
  out : ∀ s ∈ ctx, s ∉ free ∧ ∃ v j, s = cname v j ∧ j < st.get v
theorem Given.next {free ctx : List Bs} {st : St} (h : Given free ctx st) (v : Bool) : Given free (cname v (nxt free v (st.get v)) :: ctx) (st.put v (nxt free v (st.get v) + 1)) := by
  obtain ⟨k1, k2, -⟩ := nxt_least free v (st.get v)
  constructor
  · rw [List.nodup_cons]
    refine ⟨fun hm => ?_, h.nodup⟩
    obtain ⟨-, u, j, e, hj⟩ := h.out _ hm
    obtain ⟨rfl, rfl⟩ := cname_kinds e
    omega
  · intro s hs
    rcases List.mem_cons.1 hs with rfl | hs
    · exact ⟨k1, v, _, rfl, by rw [St.get_same]; omega⟩
    · obtain ⟨h1, u, j, e, hj⟩ := h.out s hs
      refine ⟨h1, u, j, e, ?_⟩
      by_cases e : u = v
      · subst e; rw [St.get_same]; omega
      · rw [St.get_other _ _ _ _ e]; exact hj
theorem Given.mono {free ctx : List Bs} {st st' : St} (h : Given free ctx st) (hm : ∀ v, st.get v ≤ st'.get v) : Given free ctx st' :=
  ⟨h.nodup, fun s hs => by obtain ⟨h1, v, j, e, hj⟩ := h.out s hs; exact ⟨h1, v, j, e, Nat.lt_of_lt_of_le hj (hm v)⟩⟩
theorem given_nil (free : List Bs) (st : St) : Given free [] st := ⟨List.nodup_nil, fun s hs => by cases hs⟩

/-- What was named is read back. -/
theorem B.db_nam (free : List Bs) : ∀ (d : B) (ctx : List Bs) (st : St), Given free ctx st → d.cl ctx.length → (∀ s ∈ d.frs, s ∈ free) → ((d.nam free ctx st).1).db ctx = d
  | .fr s, ctx, st, hg, hc, hf => by
    rw [B.nam, P.db]
    have hn : idx ctx s = none := idx_none.2 fun hm => (hg.out s hm).1 (hf s (by simp [B.frs]))
    simp only [hn]
  | .bv i, ctx, st, hg, hc, hf => by
    rw [B.nam, P.db]
    simp only [idx_get hg.nodup hc]
  | .f1 _ d, ctx, st, hg, hc, hf => by rw [B.nam, P.db, d.db_nam free ctx st hg hc hf]
  | .f2 _ d e, ctx, st, hg, hc, hf => by
    rw [B.nam, P.db, d.db_nam free ctx st hg hc.1 (fun s hs => hf s (by simp [B.frs, hs])), e.db_nam free ctx _ (hg.mono fun v => d.nam_mono free ctx st v) hc.2 (fun s hs => hf s (by simp [B.frs, hs]))]
  | .bd v d, ctx, st, hg, hc, hf => by
    rw [B.nam, P.db, d.db_nam free _ _ (hg.next v) hc hf, cname_first]

theorem P.db_frs : ∀ (p : P) (ctx : List Bs) (s : Bs), s ∈ (p.db ctx).frs ↔ s ∈ p.uses ∧ s ∉ ctx
  | .nm t, ctx, s => by
    rw [P.db, P.uses]
    cases h : idx ctx t with
    | none =>
      have := idx_none.1 h
      simp only [B.frs, List.mem_singleton]
      constructor
      · rintro rfl; exact ⟨rfl, this⟩
      · exact fun h => h.1
    | some i =>
      have : ¬ (t ∉ ctx) := fun hn => by rw [idx_none.2 hn] at h; cases h
      simp only [B.frs, List.not_mem_nil, List.mem_singleton, false_iff]
      rintro ⟨rfl, h2⟩; exact this h2
  | .f1 _ p, ctx, s => p.db_frs ctx s
  | .f2 _ p q, ctx, s => by
    rw [P.db, B.frs, P.uses, List.mem_append, List.mem_append, p.db_frs ctx s, q.db_frs ctx s]
    constructor
    · rintro (h | h)
      · exact ⟨.inl h.1, h.2⟩
      · exact ⟨.inr h.1, h.2⟩
    · rintro ⟨h | h, h2⟩
      · exact .inl ⟨h, h2⟩
      · exact .inr ⟨h, h2⟩
  | .bd t b, ctx, s => by
    rw [P.db, B.frs, P.uses, b.db_frs (t :: ctx) s, mem_minus]
    simp only [List.mem_cons, not_or]
    constructor
    · rintro ⟨h1, h2, h3⟩; exact ⟨⟨h1, h2⟩, h3⟩
    · rintro ⟨⟨h1, h2⟩, h3⟩; exact ⟨h1, h2, h3⟩
theorem P.db_free (p : P) (s : Bs) : s ∈ (p.db []).frs ↔ s ∈ p.uses := by rw [p.db_frs]; simp

theorem B.nam_same {free free' : List Bs} (h : ∀ s, s ∈ free ↔ s ∈ free') : ∀ (d : B) (ctx : List Bs) (st : St), d.nam free ctx st = d.nam free' ctx st
  | .fr s, ctx, st => rfl
  | .bv i, ctx, st => rfl
  | .f1 _ d, ctx, st => by rw [B.nam, B.nam, d.nam_same h ctx st]
  | .f2 _ d e, ctx, st => by rw [B.nam, B.nam, d.nam_same h ctx st, e.nam_same h ctx _]
  | .bd v d, ctx, st => by rw [B.nam, B.nam, nxt_same h v, d.nam_same h _ _]

/-- The canonical program. -/
def P.canon (p : P) : P := (p.ren p.uses stay [] ⟨0, 0⟩).1
theorem P.canon_nam (p : P) : p.canon = ((p.db []).nam p.uses [] ⟨0, 0⟩).1 := by rw [P.canon, P.ren_nam]; rfl
theorem P.canon_db (p : P) : p.canon.db [] = p.db [] := by
  rw [P.canon_nam]
  exact B.db_nam _ _ [] _ (given_nil _ _) (p.db_cl []) fun s hs => (p.db_free s).1 hs
theorem P.canon_same {p q : P} (h : p.db [] = q.db []) : p.canon = q.canon := by
  rw [P.canon_nam, P.canon_nam, h]
  have hs : ∀ s, s ∈ p.uses ↔ s ∈ q.uses := fun s => by rw [← p.db_free, ← q.db_free, h]
  rw [B.nam_same hs]
theorem P.canon_free (p : P) (free : List Bs) (h : ∀ s, s ∈ free ↔ s ∈ p.uses) : (p.ren free stay [] ⟨0, 0⟩).1 = p.canon := by
  rw [P.canon_nam, P.ren_nam, List.map_nil, List.map_nil, B.nam_same h]

theorem P.db_size : ∀ (p : P) (ctx : List Bs), (p.db ctx).size = p.size
  | .nm s, ctx => by rw [P.db, P.size]; split <;> rfl
  | .f1 _ p, ctx => by rw [P.db, B.size, P.size, p.db_size]
  | .f2 _ p q, ctx => by rw [P.db, B.size, P.size, p.db_size, q.db_size]
  | .bd s b, ctx => by rw [P.db, B.size, P.size, b.db_size]
theorem P.size_same {p q : P} (h : p.db [] = q.db []) : p.size = q.size := by rw [← p.db_size [], ← q.db_size [], h]
theorem P.canon_size (p : P) : p.canon.size = p.size := P.size_same p.canon_db
theorem P.uses_same {p q : P} (h : p.db [] = q.db []) (s : Bs) : s ∈ p.uses ↔ s ∈ q.uses := by rw [← p.db_free, ← q.db_free, h]

end Go.Proofs.Ytaagbnbekfogiaa
