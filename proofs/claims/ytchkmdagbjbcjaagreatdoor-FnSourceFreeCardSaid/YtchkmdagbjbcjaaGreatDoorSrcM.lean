/- Free names of source terms, as plain mathematics. -/
import Derived.Test.YtchkmdagbjbcjaaGreatDoorMathE
import Derived.Test.YtchkmdagbjbcjaaGreatDoorMathU
import Derived.Test.YtchkmdagbjbcjaaGreatDoorSrcU
namespace Go.Proofs.YtchkmdagbjbcjaaGreatDoor
set_option linter.unusedVariables false

theorem foldl_nodup (l : List Bs) : ∀ acc : List Bs, acc.Nodup → (l.foldl addN acc).Nodup := by
  induction l with
  | nil => intro acc h; exact h
  | cons a l ih =>
    intro acc h
    refine ih _ ?_
    unfold addN
    split
    · exact h
    · rename_i hn
      rw [List.nodup_append]
      refine ⟨h, by simp, fun x hx y hy => ?_⟩
      rw [List.mem_singleton] at hy
      subst hy
      intro e
      subst e
      exact hn hx

theorem foldl_filter (x : Bs) (l : List Bs) : ∀ acc : List Bs, (l.foldl addN acc).filter (fun y => decide (y ≠ x)) = (l.filter fun y => decide (y ≠ x)).foldl addN (acc.filter fun y => decide (y ≠ x)) := by
  induction l with
  | nil => intro acc; rfl
  | cons a l ih =>
    intro acc
    rw [List.foldl_cons, ih]
    by_cases hax : a = x
    · subst hax
      rw [List.filter_cons_of_neg (by simp)]
      congr 1
      unfold addN
      split
      · rfl
      · simp [List.filter_append]
    · rw [List.filter_cons_of_pos (by simp [hax]), List.foldl_cons]
      congr 1
      unfold addN
      by_cases hm : a ∈ acc
      · rw [if_pos hm, if_pos (List.mem_filter.2 ⟨hm, by simp [hax]⟩)]
      · rw [if_neg hm, if_neg (fun h => hm (List.mem_filter.1 h).1)]
        rw [List.filter_append, List.filter_cons_of_pos (by simp [hax])]
        rfl

theorem free_minus (x : Bs) (l : List Bs) : (minus l x).foldl addN [] = (l.foldl addN []).filter fun y => decide (y ≠ x) := by
  rw [foldl_filter]; rfl
theorem free_minus_not (x : Bs) (l : List Bs) : x ∉ (minus l x).foldl addN [] := by
  rw [free_minus]
  intro h
  have := (List.mem_filter.1 h).2
  simp at this
theorem free_minus_len {x : Bs} {l : List Bs} (h : x ∈ l.foldl addN []) : ((minus l x).foldl addN []).length + 1 = (l.foldl addN []).length := by
  rw [free_minus]
  have hn := foldl_nodup l [] List.nodup_nil
  generalize l.foldl addN [] = q at *
  have e := hn.erase_eq_filter x
  have e2 : (q.filter fun y => decide (y ≠ x)) = q.filter (· != x) := by
    apply List.filter_congr
    intro y _
    by_cases hy : y = x <;> simp [hy]
  rw [e2, ← e, List.length_erase_of_mem h]
  have := List.length_pos_of_mem h
  omega

theorem Src.nest_size : ∀ m : Src, m.tree.nest ≤ m.size
  | .v s => by rw [Src.tree, T.nest]; omega
  | .nb h s m => by have := m.nest_size; simp [Src.tree, T.nest, nestAll, Src.size]; omega
  | .n1 h m => by have := m.nest_size; simp [Src.tree, T.nest, nestAll, Src.size]; omega
  | .n2 h m n => by have := m.nest_size; have := n.nest_size; simp [Src.tree, T.nest, nestAll, Src.size]; omega

/-- A function around a source term is read as one, unless it is too large. -/
theorem readSrc_lam {s x : Bs} {m : Src} (h : readSrc s = some m) (hs : s.length ≤ 200) (hx : isVar x = true) : readSrc ([40, 108, 97, 109, 32] ++ (x ++ (32 :: (s ++ [41])))) = if m.size + 2 ≤ 80 then some (.nb lamB x m) else none := by
  obtain ⟨hok, h80, hrt⟩ := readSrc_ok h
  obtain ⟨hst, hnest, hgood, -⟩ := readT_back hrt
  have hxn : isName x = true := by unfold isName; rw [hx]; rfl
  have hxin := isName_in hxn
  have htx : (T.node [.atom lamB, .atom x, m.tree]).text = [40, 108, 97, 109, 32] ++ (x ++ (32 :: (s ++ [41]))) := by
    rw [hst]
    simp [T.text, textAll, lamB]
  have hns := m.nest_size
  have hg : (T.node [.atom lamB, .atom x, m.tree]).good = true := by
    have h1 := good_atom hxin
    rw [T.good, goodAll, goodAll, goodAll, goodAll, h1, hgood]
    rfl
  have hrd : readT ([40, 108, 97, 109, 32] ++ (x ++ (32 :: (s ++ [41])))) = some (.node [.atom lamB, .atom x, m.tree]) := by
    rw [← htx]
    refine readT_text hg (by simp [T.nest, nestAll]; omega) ?_
    rw [htx]
    have := hxin.1
    simp
    omega
  have hto : toSrc (.node [.atom lamB, .atom x, m.tree]) = some (.nb lamB x m) :=
    tree_toSrc (m := .nb lamB x m) (by rw [Src.ok, hok]; simp [isNb, hnB, hx])
  by_cases hz : m.size + 2 ≤ 80
  · rw [if_pos hz]
    exact readSrc_some hrd hto (by rw [Src.size]; omega)
  · rw [if_neg hz]
    exact readSrc_big hrd hto (by rw [Src.size]; omega)

theorem plain_var : ∀ {m : Src}, m.ok = true → m.plain = true → ∀ x ∈ m.uses, isVar x = true
  | .v s, hok, _, x, hx => by
    rw [Src.uses, List.mem_singleton] at hx
    subst hx
    exact hok
  | .nb h s m, hok, hp, x, hx => by
    rw [Src.ok, Bool.and_eq_true, Bool.and_eq_true] at hok
    rw [Src.plain, Bool.and_eq_true, beq_iff_eq] at hp
    rw [Src.uses, hp.1, if_neg (by decide)] at hx
    exact plain_var hok.2 hp.2 x (List.mem_filter.1 hx).1
  | .n1 h m, hok, hp, x, hx => by
    rw [Src.ok, Bool.and_eq_true] at hok
    rw [Src.plain] at hp
    rw [Src.uses] at hx
    exact plain_var hok.2 hp x hx
  | .n2 h m n, hok, hp, x, hx => by
    rw [Src.ok, Bool.and_eq_true, Bool.and_eq_true] at hok
    rw [Src.plain, Bool.and_eq_true] at hp
    rw [Src.uses, List.mem_append] at hx
    rcases hx with hx | hx
    · exact plain_var hok.1.2 hp.1 x hx
    · exact plain_var hok.2 hp.2 x hx

/-- The kind of a name, read as a program. -/
theorem kind_of_var {x : Bs} (h : isVar x = true) : readP x = some (.nm x) ∧ (P.nm x).kind = .t := by
  have hn : isName x = true := by unfold isName; rw [h]; rfl
  refine ⟨readP_text (p := .nm x) hn (by simp [P.size]) (by rw [P.nest]; omega), ?_⟩
  cases x with
  | nil => cases h
  | cons c r =>
    unfold isVar nameB at h
    rw [Bool.and_eq_true, Bool.and_eq_true] at h
    rw [P.kind, firstIs, if_pos h.1.1]
theorem kind_of_cov {x : Bs} (h : isName x = true) (hv : isVar x = false) : readP x = some (.nm x) ∧ (P.nm x).kind = .c := by
  refine ⟨readP_text (p := .nm x) h (by simp [P.size]) (by rw [P.nest]; omega), ?_⟩
  unfold isName at h
  rw [hv, Bool.false_or] at h
  cases x with
  | nil => cases h
  | cons c r =>
    unfold isCov nameB at h
    rw [Bool.and_eq_true, Bool.and_eq_true] at h
    have hc : varB c = false := by
      have h1 := h.1.1
      unfold covB at h1
      simp only [Bool.or_eq_true, beq_iff_eq] at h1
      rcases h1 with (rfl | rfl) | rfl <;> decide
    rw [P.kind, firstIs, if_neg (by rw [hc]; simp)]

end Go.Proofs.YtchkmdagbjbcjaaGreatDoor
