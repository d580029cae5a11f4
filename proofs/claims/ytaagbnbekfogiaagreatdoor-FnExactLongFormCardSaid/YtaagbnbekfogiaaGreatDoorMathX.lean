/- Choices of two statements: plain mathematics. -/
import Derived.Test.YtaagbnbekfogiaaGreatDoorMathW
namespace Go.Proofs.YtaagbnbekfogiaaGreatDoor
set_option linter.unusedVariables false

/-- The new name of some names. -/
def nw (v : Bool) (free : List Bs) : Bs := cname v (nxt free v 0)
theorem nw_not (v : Bool) (free : List Bs) : nw v free ∉ free := (nxt_least free v 0).1
theorem nw_first (v : Bool) (free : List Bs) : firstIs varB (nw v free) = v := cname_first v _
theorem nw_ne (v : Bool) (free : List Bs) : nw v free ≠ [] := by simp [nw, cname]
theorem nw_le (free : List Bs) (v : Bool) : nxt free v 0 ≤ free.length := by
  have h := (nxt_pot (a := 0) (stOk_zero free v)).1
  have e : (⟨0, 0⟩ : St).get v = 0 := by cases v <;> rfl
  rw [e] at h
  omega
theorem nw_name {free : List Bs} (v : Bool) (h : free.length < 1000) : isName (nw v free) = true := cname_name (by have := nw_le free v; omega)
theorem nw_nm {free : List Bs} (v : Bool) (h : free.length < 900000) : nmB (nw v free) = true := nmB_cname (by have := nw_le free v; omega)

theorem idx_snoc {a s : Bs} : ∀ (ctx : List Bs), (s = a → a ∈ ctx) → idx (ctx ++ [a]) s = idx ctx s
  | [], h => by
    have hne : ¬ a = s := fun e => by have := h e.symm; cases this
    show (if a = s then some 0 else _) = none
    rw [if_neg hne]; rfl
  | o :: ctx, h => by
    show (if o = s then some 0 else (idx (ctx ++ [a]) s).map (· + 1)) = if o = s then some 0 else (idx ctx s).map (· + 1)
    by_cases e : o = s
    · rw [if_pos e, if_pos e]
    · rw [if_neg e, if_neg e, idx_snoc ctx fun h2 => by
        rcases List.mem_cons.1 (h h2) with h3 | h3
        · exact absurd (h3.symm.trans h2.symm) e
        · exact h3]
/-- A name that is free nowhere is told by no number. -/
theorem P.db_snoc {a : Bs} : ∀ (p : P) (ctx : List Bs), (a ∈ p.uses → a ∈ ctx) → p.db (ctx ++ [a]) = p.db ctx
  | .nm s, ctx, h => by
    rw [P.db, P.db, idx_snoc ctx fun e => h (by rw [P.uses, e]; simp)]
  | .f1 _ p, ctx, h => by rw [P.db, P.db, P.db_snoc p ctx h]
  | .f2 _ p q, ctx, h => by
    rw [P.db, P.db, P.db_snoc p ctx fun h2 => h (by rw [P.uses]; exact List.mem_append_left _ h2), P.db_snoc q ctx fun h2 => h (by rw [P.uses]; exact List.mem_append_right _ h2)]
  | .bd s b, ctx, h => by
    rw [P.db, P.db]
    have hb := P.db_snoc (a := a) b (s :: ctx) fun h2 => by
      by_cases e : a = s
      · rw [e]; simp
      · exact List.mem_cons_of_mem _ (h (by rw [P.uses, mem_minus]; exact ⟨h2, e⟩))
    rw [List.cons_append] at hb
    rw [hb]

/-- The choice of two statements, with new names. -/
def chP (a x : Bs) (p q : P) : P := .f2 cutB (.bd a p) (.bd x q)
theorem chP_db {a x : Bs} {p q : P} (ha : a ∉ p.uses) (hx : x ∉ q.uses) (h1 : firstIs varB a = false) (h2 : firstIs varB x = true) : (chP a x p q).db [] = .f2 cutB (.bd false (p.db [])) (.bd true (q.db [])) := by
  have e1 := P.db_snoc p [] fun h => absurd h ha
  have e2 := P.db_snoc q [] fun h => absurd h hx
  rw [List.nil_append] at e1 e2
  rw [chP, P.db, P.db, P.db, e1, e2, h1, h2]
theorem chP_canon {a x a' x' : Bs} {p q : P} (ha : a ∉ p.uses) (hx : x ∉ q.uses) (h1 : firstIs varB a = false) (h2 : firstIs varB x = true) (ha' : a' ∉ p.uses) (hx' : x' ∉ q.uses) (h1' : firstIs varB a' = false) (h2' : firstIs varB x' = true) : (chP a x p q).canon = (chP a' x' p q).canon :=
  P.canon_same (by rw [chP_db ha hx h1 h2, chP_db ha' hx' h1' h2'])
theorem chP_size (a x : Bs) (p q : P) : (chP a x p q).size = p.size + q.size + 5 := by
  simp only [chP, P.size]; omega
theorem chP_nok {a x : Bs} {p q : P} (h1 : nmB a = true) (h2 : nmB x = true) (h3 : p.nok = true) (h4 : q.nok = true) : (chP a x p q).nok = true := by
  simp [chP, P.nok, h1, h2, h3, h4]
theorem chP_ok {a x : Bs} {p q : P} (ha : isName a = true) (hx : isName x = true) (h1 : firstIs varB a = false) (h2 : firstIs varB x = true) (hp : p.ok = true) (hq : q.ok = true) (kp : p.kind = .s) (kq : q.kind = .s) : (chP a x p q).ok = true := by
  have k1 : (P.bd a p).kind = .t := by rw [P.kind, h1]; rfl
  have k2 : (P.bd x q).kind = .c := by rw [P.kind, h2]; rfl
  rw [chP, P.ok, P.ok, P.ok, ha, hx, hp, hq, kp, kq, k1, k2]
  rfl

/-- The choice, canonical. -/
def chC (p q : P) : P := (chP (nw false p.uses) (nw true q.uses) p q).canon
def chO : Option P → Option P → Option P
  | some p, some q => some (chC p q)
  | _, _ => none
theorem chO_none2 (p : Option P) : chO p none = none := by cases p <;> rfl
theorem chC_ok {p q : P} (hp : Stm p) (hq : Stm q) : ((chC p q).size ≤ 500 → (chC p q).ok = true) ∧ (chC p q).size ≤ 1005 := by
  have hs : (chC p q).size = p.size + q.size + 5 := by rw [chC, P.canon_size, chP_size]
  have h1 := hp.sz
  have h2 := hq.sz
  have u1 := p.uses_len
  have u2 := q.uses_len
  refine ⟨fun h => ?_, by omega⟩
  exact (canon_ok (chP_ok (nw_name _ (by omega)) (nw_name _ (by omega)) (nw_first _ _) (nw_first _ _) hp.ok hq.ok hp.kd hq.kd) (by rw [chP_size]; omega)).1
/-- With names that are new for both it is the same. -/
theorem chC_both (p q : P) : chC p q = (chP (nw false (p.uses ++ q.uses)) (nw true (p.uses ++ q.uses)) p q).canon :=
  chP_canon (nw_not _ _) (nw_not _ _) (nw_first _ _) (nw_first _ _) (fun h => nw_not false (p.uses ++ q.uses) (List.mem_append_left _ h)) (fun h => nw_not true (p.uses ++ q.uses) (List.mem_append_right _ h)) (nw_first _ _) (nw_first _ _)

end Go.Proofs.YtaagbnbekfogiaaGreatDoor
