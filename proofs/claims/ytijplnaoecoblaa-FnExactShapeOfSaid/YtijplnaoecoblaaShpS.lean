/- spec.l7Of. -/
import Derived.Test.YtijplnaoecoblaaL4V
import Derived.Test.YtijplnaoecoblaaMathZ
namespace Go.Proofs.Ytijplnaoecoblaa
set_option linter.unusedVariables false
open Go.RowKit
set_option maxRecDepth 100000

theorem bothW_eq (a b : Bs) : ((((⟨#[40, 98, 111, 116, 104, 32]⟩ ++ ⟨a.toArray⟩) ++ ⟨#[32]⟩) ++ ⟨b.toArray⟩) ++ ⟨#[41]⟩ : ByteArray) = ⟨(bothS a b).toArray⟩ := by
  apply ByteArray.ext
  apply Array.toList_inj.1
  simp [ByteArray.data_append, bothS]

def SOF (p : P) : Prop := ∀ (w : World) (D : Nat → Prop) (a : ByteArray) (q : Option Addr) (n c : Nat), TC w D p.tree a q n c → (∀ g, D g → g < w.heap.size) → p.text.length ≤ 20000 →
  Calls Try.prog 17 #[.agg #[.string a, .slice q n c]] w fun e w' => e = .returned (.tuple #[str p.sof.1, .bool p.sof.2]) ∧ Below w.heap.size w w'

theorem sof_nm (s : Bs) : SOF (.nm s) := by
  intro w D a q n c ht hD hl
  rw [P.tree, TC] at ht
  obtain ⟨hs, rfl, rfl, rfl, rfl⟩ := ht
  rw [show (P.nm s).sof = (s, true) from rfl]
  go_enter Try.func17, Try.ntmps17
  go_wp2_with fail
  refine (head_atom s hs _).mono ?_
  rintro e w0 ⟨rfl, hb0⟩
  obtain ⟨z0, b0, b1, -, -⟩ := two_cells ((hb0.block w.heap.size (by simp)).trans (heap_alloc_new w _))
  go_wp2_with fail
  go_ret2
  exact ⟨rfl, below_step (by repeat (with_reducible first | exact hbel | exact Below.refl _ _ | refine Below.drew ?_ | refine Below.drewN ?_ _ | refine Below.alloc ?_ (by first | (simp; done) | (simp; omega) | omega | (have := Below.size hbel; simp; omega) | (have := Below.size hbel; omega)) _ | refine Below.setCell ?_ (by first | (simp; done) | (simp; omega) | omega) _)) (by simp) hb0⟩

/-- What is no value. -/
theorem sof_no (ps : List T) (h : Bs) (h0 : h ≠ []) (h1 : h ≠ notB) (h2 : h ≠ pairB) (hh : headOf ps = h) (w : World) (D : Nat → Prop) (a : ByteArray) (q : Option Addr) (n c : Nat) (ht : TC w D (.node ps) a q n c) (hD : ∀ g, D g → g < w.heap.size) :
    Calls Try.prog 17 #[.agg #[.string a, .slice q n c]] w fun e w' => e = .returned (.tuple #[str [], .bool false]) ∧ Below w.heap.size w w' := by
  have hcall := Lib.hid (head_lit ht hD)
  rw [hh] at hcall
  have e0 : (h == []) = false := by rw [beq_eq_false_iff_ne]; exact h0
  have e00 : h.isEmpty = false := by cases h with
    | nil => exact absurd rfl h0
    | cons => rfl
  have e1 : (h == [110, 111, 116]) = false := by rw [beq_eq_false_iff_ne]; exact h1
  have e2 : (h == [112, 97, 105, 114]) = false := by rw [beq_eq_false_iff_ne]; exact h2
  clear ht hD hh h0 h1 h2
  go_enter Try.func17, Try.ntmps17
  go_wp2_with fail
  refine (hcall.out _ (by repeat (with_reducible first | exact hbel | exact Below.refl _ _ | refine Below.drew ?_ | refine Below.drewN ?_ _ | refine Below.alloc ?_ (by first | (simp; done) | (simp; omega) | omega | (have := Below.size hbel; simp; omega) | (have := Below.size hbel; omega)) _ | refine Below.setCell ?_ (by first | (simp; done) | (simp; omega) | omega) _))).mono ?_
  rintro e w0 ⟨rfl, hb0⟩
  go_wp2_with fail
  go_ret2
  exact ⟨rfl, below_step (by repeat (with_reducible first | exact hbel | exact Below.refl _ _ | refine Below.drew ?_ | refine Below.drewN ?_ _ | refine Below.alloc ?_ (by first | (simp; done) | (simp; omega) | omega | (have := Below.size hbel; simp; omega) | (have := Below.size hbel; omega)) _ | refine Below.setCell ?_ (by first | (simp; done) | (simp; omega) | omega) _)) (by simp) hb0⟩

theorem sof_bd (s : Bs) (b : P) : SOF (.bd s b) := by
  intro w D a q n c ht hD hl
  rw [P.tree] at ht
  refine sof_no _ (bhead s) (bhead_ne s) ?_ ?_ rfl w D a q n c ht hD
  · unfold bhead; split <;> decide
  · unfold bhead; split <;> decide

theorem sof_f1 (h : Bs) (b : P) (hok : (P.f1 h b).ok = true) : SOF (.f1 h b) := by
  intro w D a q n c ht hD hl
  rw [P.ok, Bool.and_eq_true, decide_eq_true_iff] at hok
  have hne : h ≠ pairB := by intro e; subst e; have := hok.2; rw [show hd1 pairB = none from rfl] at this; cases this
  have h0 := (hd1_ne hok.2).1
  rw [P.tree] at ht
  by_cases hB : h = notB
  · subst hB
    have hcall := Lib.hid (head_lit ht hD)
    rw [show headOf [T.atom notB, b.tree] = [110, 111, 116] from rfl] at hcall
    rw [show (P.f1 notB b).sof = (funB, true) from rfl]
    clear ht hD hl hok hne h0
    go_enter Try.func17, Try.ntmps17
    go_wp2_with fail
    refine (hcall.out _ (by repeat (with_reducible first | exact hbel | exact Below.refl _ _ | refine Below.drew ?_ | refine Below.drewN ?_ _ | refine Below.alloc ?_ (by first | (simp; done) | (simp; omega) | omega | (have := Below.size hbel; simp; omega) | (have := Below.size hbel; omega)) _ | refine Below.setCell ?_ (by first | (simp; done) | (simp; omega) | omega) _))).mono ?_
    rintro e w0 ⟨rfl, hb0⟩
    go_wp2_with fail
    go_ret2
    exact ⟨rfl, below_step (by repeat (with_reducible first | exact hbel | exact Below.refl _ _ | refine Below.drew ?_ | refine Below.drewN ?_ _ | refine Below.alloc ?_ (by first | (simp; done) | (simp; omega) | omega | (have := Below.size hbel; simp; omega) | (have := Below.size hbel; omega)) _ | refine Below.setCell ?_ (by first | (simp; done) | (simp; omega) | omega) _)) (by simp) hb0⟩
  · rw [show (P.f1 h b).sof = ([], false) from if_neg hB]
    exact sof_no _ h h0 hB hne rfl w D a q n c ht hD

theorem sof_pair (a b : P) (ha : Hid (SOF a)) (hb : Hid (SOF b)) : SOF (.f2 [112, 97, 105, 114] a b) := by
  intro w D s q n c ht hD hl
  have hlab : a.text.length ≤ 20000 ∧ b.text.length ≤ 20000 := by
    simp [P.text, P.tree, T.text, textAll] at hl
    rw [P.text, P.text]; omega
  rw [P.tree] at ht
  have hcall := Lib.hid (head_lit ht hD)
  obtain ⟨rfl, hn, g, rfl, hg, hp⟩ := ht.part
  rw [show headOf [T.atom [112, 97, 105, 114], a.tree, b.tree] = [112, 97, 105, 114] from rfl] at hcall
  rw [show (P.f2 [112, 97, 105, 114] a b).sof = (bothS a.sof.1 b.sof.1, a.sof.2 && b.sof.2) from rfl]
  have hn' : n = 3 := hn
  subst hn'
  obtain ⟨a1, p1, n1, c1, y0, y1, t1⟩ := hp 1 a.tree rfl
  obtain ⟨a2, p2, n2, c2, q0, q1, t2⟩ := hp 2 b.tree rfl
  have hgw := hD g hg
  simp only [Nat.one_mul, Nat.reduceMul, Nat.reduceAdd] at y0 y1 q0 q1
  have hA := Lib.hid (fun W (hW : Below w.heap.size w W) => ha.out W D a1 p1 n1 c1 (t1.below hW hD) (fun g hg => Nat.lt_of_lt_of_le (hD g hg) hW.size) hlab.1)
  have hB := Lib.hid (fun W (hW : Below w.heap.size w W) => hb.out W D a2 p2 n2 c2 (t2.below hW hD) (fun g hg => Nat.lt_of_lt_of_le (hD g hg) hW.size) hlab.2)
  have hla := Nat.le_trans (P.sof_len (p := a)) hlab.1
  have hlb := Nat.le_trans (P.sof_len (p := b)) hlab.2
  have he := bothW_eq a.sof.1 b.sof.1
  unfold str at *
  generalize a.sof.2 = r at *
  generalize b.sof.2 = r' at *
  generalize a.sof.1 = sa at *
  generalize b.sof.1 = sb at *
  obtain ⟨A, hAe⟩ : ∃ A : ByteArray, A = ⟨sa.toArray⟩ := ⟨_, rfl⟩
  obtain ⟨B, hBe⟩ : ∃ B : ByteArray, B = ⟨sb.toArray⟩ := ⟨_, rfl⟩
  have hAs : A.size ≤ 20000 := by rw [hAe]; exact hla
  have hBs : B.size ≤ 20000 := by rw [hBe]; exact hlb
  rw [← hAe] at he hA
  rw [← hBe] at he hB
  have he' := Lib.hid he
  clear hp hD ht hn hg t1 t2 hl hlab hla hlb hAe hBe he
  go_enter Try.func17, Try.ntmps17
  go_wp2_with fail
  refine (hcall.out _ (by repeat (with_reducible first | exact hbel | exact Below.refl _ _ | refine Below.drew ?_ | refine Below.drewN ?_ _ | refine Below.alloc ?_ (by first | (simp; done) | (simp; omega) | omega | (have := Below.size hbel; simp; omega) | (have := Below.size hbel; omega)) _ | refine Below.setCell ?_ (by first | (simp; done) | (simp; omega) | omega) _))).mono ?_
  rintro e w0 ⟨rfl, hb0⟩
  have hw0 := Lib.hid (below_step ((Below.refl _ _).alloc (Nat.le_refl _) _ : Below w.heap.size w (w.alloc _)) (by simp) hb0)
  obtain ⟨z0, b0, b1, -, -⟩ := two_cells ((hb0.block w.heap.size (by simp)).trans (heap_alloc_new w _))
  have y0' := (hw0.out.cell (p := ⟨g, 2, none⟩) hgw).trans y0
  have y1' := (hw0.out.cell (p := ⟨g, 3, none⟩) hgw).trans y1
  have q0' := (hw0.out.cell (p := ⟨g, 4, none⟩) hgw).trans q0
  have q1' := (hw0.out.cell (p := ⟨g, 5, none⟩) hgw).trans q1
  clear hb0 y0 y1 q0 q1
  go_wp2_with fail
  refine Calls.mono (hA.out _ hw0.out) ?_
  rintro e w1 ⟨rfl, hb1⟩
  have hw1 := Lib.hid (below_step hw0.out (Nat.le_refl _) hb1 : Below w.heap.size w w1)
  have z1 : w.heap.size < w1.heap.size := Nat.lt_of_lt_of_le z0 hb1.size
  have d1 := (hb1.cell (p := ⟨w.heap.size, 1, none⟩) z0).trans b1
  have q0'' := (hb1.cell (p := ⟨g, 4, none⟩) (Nat.lt_of_lt_of_le hgw hw0.out.size)).trans q0'
  have q1'' := (hb1.cell (p := ⟨g, 5, none⟩) (Nat.lt_of_lt_of_le hgw hw0.out.size)).trans q1'
  clear hb1 y0' y1' q0' q1' b0 b1
  go_wp2_with fail
  refine Calls.mono (hB.out _ hw1.out) ?_
  rintro e w2 ⟨rfl, hb2⟩
  cases r
  all_goals
    go_wp2_with fail
    go_ret2
    exact ⟨by rw [← he'.out]; rfl, below_step hw1.out (Nat.le_refl _) hb2⟩

theorem sof_any : ∀ {p : P}, p.ok = true → SOF p
  | .nm s, _ => sof_nm s
  | .bd s b, _ => sof_bd s b
  | .f1 h p, hok => sof_f1 h p hok
  | .f2 h p q, hok => by
    have hok' := hok
    rw [P.ok, Bool.and_eq_true, Bool.and_eq_true, decide_eq_true_iff] at hok
    by_cases hB : h = [112, 97, 105, 114]
    · subst hB
      exact sof_pair p q (sof_any hok.1.1) (sof_any hok.1.2)
    · have hne : h ≠ notB := by intro e; subst e; have := hok.2; rw [show hd2 notB = none from rfl] at this; cases this
      have h0 := (hd2_ne hok.2).1
      intro w D a r n c ht hD hl
      rw [show (P.f2 h p q).sof = ([], false) from if_neg hB]
      rw [P.tree] at ht
      exact sof_no _ h h0 hne hB rfl w D a r n c ht hD

end Go.Proofs.Ytijplnaoecoblaa
