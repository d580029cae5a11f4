/- The model's way of putting, and duals: with bound names as numbers they are the same. Plain mathematics. -/
import Derived.Test.YtaagbnbekfogiaaMathO
import Derived.Test.YtaagbnbekfogiaaMathV
namespace Go.Proofs.Ytaagbnbekfogiaa
set_option linter.unusedVariables false

/-- The names that the model lists. -/
def P.freeL (p : P) : List Bs := p.free [] []
theorem P.freeL_mem (p : P) (s : Bs) : s ∈ p.freeL ↔ s ∈ p.uses := by
  unfold P.freeL
  rw [P.free_top, foldl_mem]
  simp
/-- Put as it stands, below binders too. -/
def P.nput : P → Bs → P → P
  | .nm s, n, q => if s = n then q else .nm s
  | .f1 h p, n, q => .f1 h (p.nput n q)
  | .f2 h p p', n, q => .f2 h (p.nput n q) (p'.nput n q)
  | .bd s b, n, q => if s = n then .bd s b else .bd s (b.nput n q)
/-- Bound names renamed, so that none is of a list. -/
def P.apart (p : P) (F : List Bs) : P := (p.ren F stay [] ⟨0, 0⟩).1
def subFree (p : P) (n : Bs) (q : P) : List Bs := p.freeL ++ q.freeL ++ [n]
def P.ssub (p : P) (n : Bs) (q : P) : P := (p.apart (subFree p n q)).nput n q

def P.bout (F : List Bs) : P → Prop
  | .nm _ => True
  | .f1 _ p => p.bout F
  | .f2 _ p q => p.bout F ∧ q.bout F
  | .bd s b => s ∉ F ∧ b.bout F
theorem B.nam_bout (F : List Bs) : ∀ (d : B) (ctx : List Bs) (st : St), ((d.nam F ctx st).1).bout F
  | .fr s, ctx, st => True.intro
  | .bv i, ctx, st => True.intro
  | .f1 _ d, ctx, st => d.nam_bout F ctx st
  | .f2 _ d e, ctx, st => ⟨d.nam_bout F ctx st, e.nam_bout F ctx _⟩
  | .bd v d, ctx, st => ⟨(nxt_least F v (st.get v)).1, d.nam_bout F _ _⟩
theorem idx_append : ∀ (a c : List Bs) (s : Bs), s ∉ c → idx (a ++ c) s = idx a s
  | [], c, s, h => by rw [List.nil_append]; exact idx_none.2 h
  | o :: a, c, s, h => by
    show (if o = s then some 0 else (idx (a ++ c) s).map (· + 1)) = (if o = s then some 0 else (idx a s).map (· + 1))
    rw [idx_append a c s h]
theorem P.db_out : ∀ (p : P) (a c : List Bs), (∀ s ∈ p.uses, s ∉ a → s ∉ c) → p.db (a ++ c) = p.db a
  | .nm s, a, c, h => by
    rw [P.db, P.db]
    by_cases hs : s ∈ a
    · have : idx (a ++ c) s = idx a s := by
        clear h
        induction a with
        | nil => cases hs
        | cons o a ih =>
          show (if o = s then some 0 else (idx (a ++ c) s).map (· + 1)) = (if o = s then some 0 else (idx a s).map (· + 1))
          by_cases e : o = s
          · rw [if_pos e, if_pos e]
          · rw [if_neg e, if_neg e, ih (by rcases List.mem_cons.1 hs with h | h; exact absurd h.symm e; exact h)]
      rw [this]
    · rw [idx_append a c s (h s (by simp [P.uses]) hs)]
  | .f1 _ p, a, c, h => by rw [P.db, P.db, P.db_out p a c h]
  | .f2 _ p q, a, c, h => by
    rw [P.db, P.db, P.db_out p a c (fun s hs => h s (by rw [P.uses, List.mem_append]; exact .inl hs)), P.db_out q a c (fun s hs => h s (by rw [P.uses, List.mem_append]; exact .inr hs))]
  | .bd s b, a, c, h => by
    have := P.db_out b (s :: a) c (fun t ht hta => by
      simp only [List.mem_cons, not_or] at hta
      exact h t (by rw [P.uses, mem_minus]; exact ⟨ht, hta.1⟩) hta.2)
    rw [List.cons_append] at this
    rw [P.db, P.db, this]
theorem P.db_nil (p : P) (c : List Bs) (h : ∀ s ∈ p.uses, s ∉ c) : p.db c = p.db [] := by
  have := p.db_out [] c (fun s hs _ => h s hs)
  rwa [List.nil_append] at this

theorem P.nput_db (F : List Bs) (n : Bs) (q : P) (hq : ∀ s ∈ q.uses, s ∈ F) (hn : n ∈ F) : ∀ (p : P) (ctx : List Bs), p.bout F → (∀ s ∈ ctx, s ∉ F) → (p.nput n q).db ctx = (p.db ctx).sub n (q.db [])
  | .nm s, ctx, hb, hc => by
    rw [P.nput]
    by_cases e : s = n
    · subst e
      have h1 : idx ctx s = none := idx_none.2 fun h => hc s h hn
      rw [if_pos rfl, P.db, h1, q.db_nil ctx (fun t ht h => hc t h (hq t ht))]
      show _ = (B.fr s).sub s _
      rw [B.sub, if_pos rfl]
    · rw [if_neg e, P.db]
      cases idx ctx s with
      | none => show _ = (B.fr s).sub n _; rw [B.sub, if_neg (Ne.symm e)]
      | some i => rfl
  | .f1 _ p, ctx, hb, hc => by rw [P.nput, P.db, P.db, B.sub, P.nput_db F n q hq hn p ctx hb hc]
  | .f2 _ p p', ctx, hb, hc => by rw [P.nput, P.db, P.db, B.sub, P.nput_db F n q hq hn p ctx hb.1 hc, P.nput_db F n q hq hn p' ctx hb.2 hc]
  | .bd s b, ctx, hb, hc => by
    have hs : s ≠ n := fun e => hb.1 (e ▸ hn)
    rw [P.nput, if_neg hs, P.db, P.db, B.sub, P.nput_db F n q hq hn b (s :: ctx) hb.2 (fun t ht => by rcases List.mem_cons.1 ht with rfl | ht; exact hb.1; exact hc t ht)]
theorem P.apart_db (p : P) (F : List Bs) (h : ∀ s ∈ p.uses, s ∈ F) : (p.apart F).db [] = p.db [] := by
  rw [P.apart, P.ren_nam]
  exact B.db_nam _ _ [] _ (given_nil _ _) (p.db_cl []) fun s hs => h s ((p.db_free s).1 hs)
theorem P.apart_bout (p : P) (F : List Bs) : (p.apart F).bout F := by rw [P.apart, P.ren_nam]; exact B.nam_bout F _ _ _
theorem P.ssub_db (p : P) (n : Bs) (q : P) : (p.ssub n q).db [] = (p.db []).sub n (q.db []) := by
  rw [P.ssub, P.nput_db (subFree p n q) n q (fun s hs => by simp [subFree, P.freeL_mem, hs]) (by simp [subFree]) _ [] (P.apart_bout _ _) (fun s hs => by cases hs)]
  rw [P.apart_db _ _ (fun s hs => by simp [subFree, P.freeL_mem, hs])]
theorem P.ssub_put (p : P) (n : Bs) (q : P) : (p.ssub n q).db [] = (p.put n q).db [] := by rw [P.ssub_db, P.put_db]
theorem P.freeL_len (p : P) : p.freeL.length ≤ p.size := by have := p.free_len [] []; simpa [P.freeL] using this

/-- Which names are bound, and what stands within, is as well shaped as what it is made of. -/
theorem nput_ok {n : Bs} {q : P} (hq : q.ok = true) (hk : q.kind = (P.nm n).kind) : ∀ {p : P}, p.ok = true → (p.nput n q).ok = true ∧ (p.nput n q).kind = p.kind
  | .nm s, h => by
    rw [P.nput]
    split
    · rename_i e; subst e; exact ⟨hq, hk⟩
    · exact ⟨h, rfl⟩
  | .f1 x p, h => by
    rw [P.ok, Bool.and_eq_true, decide_eq_true_iff] at h
    obtain ⟨h1, h2⟩ := nput_ok hq hk h.1
    rw [P.nput]
    refine ⟨?_, rfl⟩
    rw [P.ok, h1, h2, Bool.true_and, decide_eq_true_iff]
    exact h.2
  | .f2 x p p', h => by
    rw [P.ok, Bool.and_eq_true, Bool.and_eq_true, decide_eq_true_iff] at h
    obtain ⟨h1, h2⟩ := nput_ok hq hk h.1.1
    obtain ⟨g1, g2⟩ := nput_ok hq hk h.1.2
    rw [P.nput]
    refine ⟨?_, rfl⟩
    rw [P.ok, h1, g1, h2, g2, Bool.true_and, Bool.true_and, decide_eq_true_iff]
    exact h.2
  | .bd s b, h => by
    rw [P.nput]
    split
    · exact ⟨h, rfl⟩
    · rw [P.ok, Bool.and_eq_true, Bool.and_eq_true, decide_eq_true_iff] at h
      obtain ⟨h1, h2⟩ := nput_ok hq hk h.1.2
      refine ⟨?_, rfl⟩
      rw [P.ok, h.1.1, h1, h2, h.2]; rfl
theorem apart_ok {p : P} (hok : p.ok = true) (F : List Bs) (hs : p.size ≤ 500) (hF : F.length ≤ 700) : (p.apart F).ok = true ∧ (p.apart F).kind = p.kind ∧ (p.apart F).size = p.size := by
  have hsz : (p.apart F).size = p.size := by
    rw [P.apart, P.ren_nam]
    have := B.db_nam
    have key : ∀ (d : B) (ctx : List Bs) (st : St), ((d.nam F ctx st).1).size = d.size := by
      intro d
      induction d with
      | fr s => intro ctx st; rfl
      | bv i => intro ctx st; rfl
      | f1 h d ih => intro ctx st; rw [B.nam, P.size, ih, B.size]
      | f2 h d e ih ih' => intro ctx st; rw [B.nam, P.size, ih, ih', B.size]
      | bd v d ih => intro ctx st; rw [B.nam, P.size, ih, B.size]
    rw [key]; exact p.db_size []
  have h1 := (p.apart F).binders_size
  have h2 := ren_ok (gok_stay F) (gst_stay F) p [] ⟨0, 0⟩ 0 hok (fun o n hm => by cases hm) (stOk_zero _) (by
    have : (p.ren F stay [] ⟨0, 0⟩).1.binders = (p.apart F).binders := rfl
    omega)
  exact ⟨h2.1, h2.2, hsz⟩
theorem ssub_ok {p : P} {n : Bs} {q : P} (hp : p.ok = true) (hq : q.ok = true) (hk : q.kind = (P.nm n).kind) (hs : p.size + q.size ≤ 500) : (p.ssub n q).ok = true ∧ (p.ssub n q).kind = p.kind := by
  have h1 := p.freeL_len
  have h2 := q.freeL_len
  obtain ⟨a1, a2, -⟩ := apart_ok hp (subFree p n q) (by omega) (by simp [subFree]; omega)
  obtain ⟨b1, b2⟩ := nput_ok (n := n) hq hk a1
  exact ⟨b1, b2.trans a2⟩

/- duals -/
def B.dual : B → B
  | .fr s => .fr (swapB s)
  | .bv i => .bv i
  | .f1 h d => .f1 (dword h) d.dual
  | .f2 h d e => if h = cutB then .f2 h e.dual d.dual else .f2 (dword h) d.dual e.dual
  | .bd v d => .bd (!v) d.dual
theorem swapC_two (c : UInt8) : swapC (swapC c) = c := by
  unfold swapC
  by_cases h1 : c = 120
  · subst h1; decide
  by_cases h2 : c = 121
  · subst h2; decide
  by_cases h3 : c = 122
  · subst h3; decide
  by_cases h4 : c = 107
  · subst h4; decide
  by_cases h5 : c = 108
  · subst h5; decide
  by_cases h6 : c = 109
  · subst h6; decide
  simp [h1, h2, h3, h4, h5, h6]
theorem swapB_two (s : Bs) : swapB (swapB s) = s := by
  cases s with
  | nil => rfl
  | cons c d => simp only [swapB]; rw [swapC_two]
theorem swapB_inj {s t : Bs} (h : swapB s = swapB t) : s = t := by rw [← swapB_two s, h, swapB_two]
theorem swapB_first {s : Bs} (h : nmB s = true) : firstIs varB (swapB s) = !firstIs varB s := by
  cases s with
  | nil => cases h
  | cons c d =>
    have hv := nmB_or h
    obtain ⟨-, h1, h2⟩ := swapC_swapC hv
    have hx : varB c = !covB c := by
      unfold varB covB at hv ⊢
      simp only [Bool.or_eq_true, beq_iff_eq] at hv
      rcases hv with ((h | h) | h) | ((h | h) | h) <;> subst h <;> decide
    simp only [firstIs, swapB]
    rw [h1, hx]; simp
theorem idx_swap : ∀ (ctx : List Bs) (s : Bs), idx (ctx.map swapB) (swapB s) = idx ctx s
  | [], s => rfl
  | o :: ctx, s => by
    show (if swapB o = swapB s then some 0 else (idx (ctx.map swapB) (swapB s)).map (· + 1)) = (if o = s then some 0 else (idx ctx s).map (· + 1))
    rw [idx_swap ctx s]
    by_cases h : o = s
    · rw [if_pos h, if_pos (by rw [h])]
    · rw [if_neg h, if_neg (fun e => h (swapB_inj e))]
theorem P.dual_db : ∀ {p : P}, p.nok = true → ∀ ctx : List Bs, p.dual.db (ctx.map swapB) = (p.db ctx).dual
  | .nm s, h, ctx => by
    rw [P.dual, P.db, idx_swap, P.db]
    cases idx ctx s with
    | none => rfl
    | some i => rfl
  | .f1 _ p, h, ctx => by rw [P.nok] at h; rw [P.dual, P.db, P.dual_db h ctx, P.db, B.dual]
  | .f2 x p q, h, ctx => by
    rw [P.nok, Bool.and_eq_true] at h
    rw [P.dual, P.db, B.dual]
    split
    · rw [P.db, P.dual_db h.1 ctx, P.dual_db h.2 ctx]
    · rw [P.db, P.dual_db h.1 ctx, P.dual_db h.2 ctx]
  | .bd s b, h, ctx => by
    rw [P.nok, Bool.and_eq_true] at h
    have := P.dual_db h.2 (s :: ctx)
    rw [List.map_cons] at this
    rw [P.dual, P.db, this, swapB_first h.1, P.db, B.dual]
theorem P.dual_db0 {p : P} (h : p.nok = true) : p.dual.db [] = (p.db []).dual := P.dual_db h []
theorem B.sub_dual (n : Bs) (e : B) : ∀ d : B, (d.sub n e).dual = d.dual.sub (swapB n) e.dual
  | .fr s => by
    rw [B.sub, B.dual, B.sub]
    by_cases h : n = s
    · subst h; rw [if_pos rfl, if_pos rfl]
    · rw [if_neg h, if_neg (fun e => h (swapB_inj e)), B.dual]
  | .bv i => rfl
  | .f1 _ d => by rw [B.sub, B.dual, B.dual, B.sub, B.sub_dual n e d]
  | .f2 x d d' => by
    rw [B.sub, B.dual, B.dual, B.sub_dual n e d, B.sub_dual n e d']
    split <;> rw [B.sub]
  | .bd v d => by rw [B.sub, B.dual, B.dual, B.sub, B.sub_dual n e d]
theorem P.dual_count {n : Bs} : ∀ {p : P}, p.dual.count (swapB n) = p.count n
  | .nm s => by
    rw [P.dual, P.count, P.count]
    by_cases h : s = n
    · rw [if_pos h, if_pos (by rw [h])]
    · rw [if_neg h, if_neg (fun e => h (swapB_inj e))]
  | .f1 _ p => by rw [P.dual, P.count, P.count, P.dual_count]
  | .f2 x p q => by
    rw [P.dual, P.count]
    split
    · rw [P.count, P.dual_count, P.dual_count]; omega
    · rw [P.count, P.dual_count, P.dual_count]
  | .bd s b => by
    rw [P.dual, P.count, P.count]
    by_cases h : s = n
    · rw [if_pos h, if_pos (by rw [h])]
    · rw [if_neg h, if_neg (fun e => h (swapB_inj e)), P.dual_count]
theorem P.dual_uses : ∀ {p : P} {s : Bs}, swapB s ∈ p.dual.uses ↔ s ∈ p.uses
  | .nm t, s => by
    rw [P.dual, P.uses, P.uses, List.mem_singleton, List.mem_singleton]
    exact ⟨fun h => swapB_inj h, fun h => by rw [h]⟩
  | .f1 _ p, s => by rw [P.dual, P.uses, P.uses, P.dual_uses]
  | .f2 x p q, s => by
    rw [P.dual, P.uses, List.mem_append]
    split
    · rw [P.uses, List.mem_append, P.dual_uses, P.dual_uses, or_comm]
    · rw [P.uses, List.mem_append, P.dual_uses, P.dual_uses]
  | .bd t b, s => by
    rw [P.dual, P.uses, P.uses, mem_minus, mem_minus, P.dual_uses]
    exact ⟨fun h => ⟨h.1, fun e => h.2 (by rw [e])⟩, fun h => ⟨h.1, fun e => h.2 (swapB_inj e)⟩⟩
/-- Putting in duals. -/
theorem P.ssub_dual {p : P} {n : Bs} {q : P} (hp : p.ok = true) (hq : q.ok = true) (hr : (p.dual.ssub (swapB n) q.dual).nok = true) : (p.dual.ssub (swapB n) q.dual).dual.db [] = (p.put n q).db [] := by
  rw [P.dual_db0 hr, P.ssub_db, B.sub_dual, swapB_two, ← P.dual_db0 (P.nok_ok (P.dual_ok hp)), ← P.dual_db0 (P.nok_ok (P.dual_ok hq)), P.dual_dual hp, P.dual_dual hq, P.put_db]

end Go.Proofs.Ytaagbnbekfogiaa
