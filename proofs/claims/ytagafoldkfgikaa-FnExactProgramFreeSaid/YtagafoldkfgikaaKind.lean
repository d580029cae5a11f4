/- The methods 'kind' and 'size' of programs. -/
import Derived.Test.YtagafoldkfgikaaIsVar
import Derived.Test.YtagafoldkfgikaaShape
namespace Go.Proofs.Ytagafoldkfgikaa
set_option linter.unusedVariables false
open Go.RowKit

theorem shape_hd1 {h : Bs} {k l : K} (e : hd1 h = some (k, l)) : shapeL h = some (k, dword h, [l]) := by
  unfold hd1 at e
  repeat' split at e
  all_goals first | (rename_i hh; subst hh; injection e with e; injection e with e1 e2; subst e1; subst e2; decide) | cases e
theorem shape_hd2 {h : Bs} {k l m : K} (e : hd2 h = some (k, l, m)) : shapeL h = some (k, dword h, [l, m]) := by
  unfold hd2 at e
  repeat' split at e
  all_goals first | (rename_i hh; subst hh; injection e with e; injection e with e1 e2; injection e2 with e2 e3; subst e1; subst e2; subst e3; decide) | cases e
theorem shape_some {h d : Bs} {k : K} {ks : List K} (e : shapeL h = some (k, d, ks)) : (∃ l, ks = [l] ∧ hd1 h = some (k, l) ∧ hd2 h = none) ∨ (∃ l m, ks = [l, m] ∧ hd2 h = some (k, l, m) ∧ hd1 h = none) := by
  unfold shapeL at e
  repeat' split at e
  all_goals first | (rename_i hh; subst hh; injection e with e; injection e with e1 e2; injection e2 with e2 e3; subst e1; subst e3; first | exact .inl ⟨_, rfl, by decide, by decide⟩ | exact .inr ⟨_, _, rfl, by decide, by decide⟩) | cases e
theorem shape_none {h : Bs} (e : shapeL h = none) : hd1 h = none ∧ hd2 h = none := by
  cases h1 : hd1 h with
  | some r => obtain ⟨k, l⟩ := r; rw [shape_hd1 h1] at e; cases e
  | none =>
    cases h2 : hd2 h with
    | some r => obtain ⟨k, l, m⟩ := r; rw [shape_hd2 h2] at e; cases e
    | none => exact ⟨rfl, rfl⟩

/-- Each program's type answers with its kind. -/
def KD (p : P) : Prop := ∀ (w : World) (D : Nat → Prop) (x : Value), PI w D p x → Calls Try.prog (kindFn p) #[x] w fun e w' => e = .returned (str p.kind.name) ∧ Below w.heap.size w w'

set_option maxRecDepth 100000
theorem kind_nm (s : Bs) : KD (.nm s) := by
  intro w D x h
  obtain ⟨c, d, rfl, rfl⟩ := h
  cases hv : firstIs varB (c :: d)
  · rw [show kindFn (.nm (c :: d)) = 113 from by simp [kindFn, mfn, hv], show (P.nm (c :: d)).kind = .c from by simp [P.kind, hv]]
    go_enter Try.func113, Try.ntmps113
    go_wp2_with fail
    go_ret
    exact ⟨rfl, (by repeat (with_reducible first | exact hbel | exact Below.refl _ _ | refine Below.drew ?_ | refine Below.drewN ?_ _ | refine Below.alloc ?_ (by first | (simp; done) | (simp; omega) | omega | (have := Below.size hbel; simp; omega) | (have := Below.size hbel; omega)) _ | refine Below.setCell ?_ (by first | (simp; done) | (simp; omega) | omega) _))⟩
  · rw [show kindFn (.nm (c :: d)) = 111 from by simp [kindFn, mfn, hv], show (P.nm (c :: d)).kind = .t from by simp [P.kind, hv]]
    go_enter Try.func111, Try.ntmps111
    go_wp2_with fail
    go_ret
    exact ⟨rfl, (by repeat (with_reducible first | exact hbel | exact Below.refl _ _ | refine Below.drew ?_ | refine Below.drewN ?_ _ | refine Below.alloc ?_ (by first | (simp; done) | (simp; omega) | omega | (have := Below.size hbel; simp; omega) | (have := Below.size hbel; omega)) _ | refine Below.setCell ?_ (by first | (simp; done) | (simp; omega) | omega) _))⟩

theorem kind_bd (s : Bs) (b : P) : KD (.bd s b) := by
  intro w D x h
  obtain ⟨c, d, y, rfl, rfl, hb⟩ := h
  show Calls _ 115 _ _ _
  cases hv : varB c
  · rw [show (P.bd (c :: d) b).kind = .t from by simp [P.kind, firstIs, hv]]
    go_enter Try.func115, Try.ntmps115
    go_wp2_with (go_at_call 58; refine Calls.mono (isVariable_any c d _) ?_; rintro e w1 ⟨rfl, hb1⟩)
    go_ret
    exact ⟨rfl, below_step (by repeat (with_reducible first | exact hbel | exact Below.refl _ _ | refine Below.drew ?_ | refine Below.drewN ?_ _ | refine Below.alloc ?_ (by first | (simp; done) | (simp; omega) | omega | (have := Below.size hbel; simp; omega) | (have := Below.size hbel; omega)) _ | refine Below.setCell ?_ (by first | (simp; done) | (simp; omega) | omega) _)) (by simp) hb1⟩
  · rw [show (P.bd (c :: d) b).kind = .c from by simp [P.kind, firstIs, hv]]
    go_enter Try.func115, Try.ntmps115
    go_wp2_with (go_at_call 58; refine Calls.mono (isVariable_any c d _) ?_; rintro e w1 ⟨rfl, hb1⟩)
    go_ret
    exact ⟨rfl, below_step (by repeat (with_reducible first | exact hbel | exact Below.refl _ _ | refine Below.drew ?_ | refine Below.drewN ?_ _ | refine Below.alloc ?_ (by first | (simp; done) | (simp; omega) | omega | (have := Below.size hbel; simp; omega) | (have := Below.size hbel; omega)) _ | refine Below.setCell ?_ (by first | (simp; done) | (simp; omega) | omega) _)) (by simp) hb1⟩

theorem field_kind (a b c : Value) (w : World) : (Instr.field 102 (.agg #[a, b, c]) 0).run Try.prog w = .ok a w := by kernel_rfl
theorem field_dual (a b c : Value) (w : World) : (Instr.field 102 (.agg #[a, b, c]) 1).run Try.prog w = .ok b w := by kernel_rfl
theorem field_parts (a b c : Value) (w : World) : (Instr.field 102 (.agg #[a, b, c]) 2).run Try.prog w = .ok c w := by kernel_rfl
theorem form_kind (h : Bs) (S : Value) (k : K) (d : Bs) (ks : List K) (hs : shapeL h = some (k, d, ks)) (w : World) : Calls Try.prog 122 #[.agg #[str h, S]] w fun e w' => e = .returned (str k.name) ∧ Below w.heap.size w w' := by
  have call := fun W => shapeOf_any ⟨h.toArray⟩ W
  rw [Lib.toList_data] at call
  unfold ShPost at call
  rw [show (⟨h.toArray⟩ : ByteArray).data.toList = h from rfl, hs] at call
  have call' := Lib.hid call
  clear call
  have hf := field_kind
  go_enter Try.func122, Try.ntmps122
  go_wp2_with (go_at_call 60; refine Calls.mono (call'.out _) ?_; rintro e w1 ⟨hb1, g, n, rfl, -, -⟩)
  go_ret
  exact ⟨rfl, below_step (by repeat (with_reducible first | exact hbel | exact Below.refl _ _ | refine Below.drew ?_ | refine Below.drewN ?_ _ | refine Below.alloc ?_ (by first | (simp; done) | (simp; omega) | omega | (have := Below.size hbel; simp; omega) | (have := Below.size hbel; omega)) _ | refine Below.setCell ?_ (by first | (simp; done) | (simp; omega) | omega) _)) (by simp) hb1⟩

theorem kind_f1 (h : Bs) (p : P) (hk : (P.f1 h p).ok = true) : KD (.f1 h p) := by
  intro w D x hx
  obtain ⟨g, n, y, rfl, -⟩ := hx
  rw [P.ok, Bool.and_eq_true, decide_eq_true_iff] at hk
  exact form_kind h _ _ _ _ (shape_hd1 hk.2) w
theorem kind_f2 (h : Bs) (p q : P) (hk : (P.f2 h p q).ok = true) : KD (.f2 h p q) := by
  intro w D x hx
  obtain ⟨g, n, y, z, rfl, -⟩ := hx
  rw [P.ok, Bool.and_eq_true, decide_eq_true_iff] at hk
  exact form_kind h _ _ _ _ (shape_hd2 hk.2) w
theorem kind_any : ∀ {p : P}, p.ok = true → KD p
  | .nm s, _ => kind_nm s
  | .f1 h p, hk => kind_f1 h p hk
  | .f2 h p q, hk => kind_f2 h p q hk
  | .bd s b, _ => kind_bd s b

/-- Each program's type answers with its number of atoms. -/
def SZP (p : P) : Prop := ∀ (w : World) (D : Nat → Prop) (x : Value), PI w D p x → (∀ g, D g → g < w.heap.size) → Calls Try.prog (sizePFn p) #[x] w fun e w' => e = .returned (.int .i64 p.size) ∧ Below w.heap.size w w'

theorem size_nm (s : Bs) : SZP (.nm s) := by
  intro w D x h _
  obtain ⟨c, d, rfl, rfl⟩ := h
  rw [show sizePFn (.nm (c :: d)) = 92 from by simp [sizePFn, mfn]]
  show Calls _ _ _ _ fun e w' => e = .returned (.int .i64 1) ∧ _
  go_enter Try.func92, Try.ntmps92
  go_wp2_with fail
  refine bodyPost_ret (v := .int .i64 1) (by simp [results, Try.results92, go_sem]) rfl ?_
  exact ⟨rfl, (by repeat (with_reducible first | exact hbel | exact Below.refl _ _ | refine Below.drew ?_ | refine Below.drewN ?_ _ | refine Below.alloc ?_ (by first | (simp; done) | (simp; omega) | omega | (have := Below.size hbel; simp; omega) | (have := Below.size hbel; omega)) _ | refine Below.setCell ?_ (by first | (simp; done) | (simp; omega) | omega) _))⟩

theorem size_bd (s : Bs) (b : P) (hb : Hid (SZP b)) (hs : b.size ≤ 900000) : SZP (.bd s b) := by
  intro w D x h hD
  obtain ⟨c, d, y, rfl, rfl, hy⟩ := h
  show Calls _ 117 _ _ fun e w' => e = .returned (.int .i64 ((2 + b.size : Nat) : Int)) ∧ _
  have mb := fun w => size_m hy w
  have cb := fun x w => size_c b x w
  have hy' := Lib.hid hy
  have hD' := Lib.hid hD
  clear hy hD
  go_enter Try.func117, Try.ntmps117
  go_wp2_with (refine Calls.mono (hb.out _ D _ (hy'.out.below (by repeat (with_reducible first | exact hbel | exact Below.refl _ _ | refine Below.drew ?_ | refine Below.drewN ?_ _ | refine Below.alloc ?_ (by first | (simp; done) | (simp; omega) | omega | (have := Below.size hbel; simp; omega) | (have := Below.size hbel; omega)) _ | refine Below.setCell ?_ (by first | (simp; done) | (simp; omega) | omega) _)) hD'.out) (fun g hg => by have := hD'.out g hg; simp; omega)) ?_; rintro e w1 ⟨rfl, hb1⟩)
  go_ret
  exact ⟨ret_int (by omega), below_step ((Below.refl _ _).alloc (Nat.le_refl _) _) (by simp) hb1⟩

theorem sum_take {l : List Nat} {k n : Nat} (h : l[k]? = some n) : sumL (l.take (k + 1)) = sumL (l.take k) + n := by
  rw [List.take_add_one, h]
  generalize l.take k = m
  induction m with
  | nil => simp [sumL]
  | cons a m ih => simp [sumL] at ih ⊢; omega
theorem sum_take_le (l : List Nat) (k : Nat) : sumL (l.take k) ≤ sumL l := by
  induction l generalizing k with
  | nil => simp [sumL]
  | cons a l ih =>
    cases k with
    | zero => simp [sumL]
    | succ k => have := ih k; simp [sumL] at this ⊢; omega

theorem IsForm.len {p : P} {h : Bs} {ks : List P} (hf : IsForm p h ks) : 1 ≤ ks.length ∧ ks.length ≤ 2 := by
  cases p with
  | nm s => exact absurd hf (by simp [IsForm])
  | bd s b => exact absurd hf (by simp [IsForm])
  | f1 h' p => obtain ⟨rfl, rfl⟩ := hf; simp
  | f2 h' p q => obtain ⟨rfl, rfl⟩ := hf; simp

set_option maxRecDepth 100000 in
theorem size_form (p : P) (h : Bs) (ks : List P) (hf : IsForm p h ks) (hk : ∀ q ∈ ks, Hid (SZP q)) (hn : sumL (ks.map P.size) ≤ 900000) (w : World) (D : Nat → Prop) (x : Value) (hx : PI w D p x) (hD : ∀ g, D g → g < w.heap.size) :
    Calls Try.prog 124 #[x] w fun e w' => e = .returned (.int .i64 ((1 + sumL (ks.map P.size) : Nat) : Int)) ∧ Below w.heap.size w w' := by
  obtain ⟨g, n, rfl, hg, hc⟩ := hx.form hf
  have hgw := hD g hg
  have hks := hf.len
  have hk' := Lib.hid hk
  have hD' := Lib.hid hD
  have hc' := Lib.hid hc
  clear hk hD hc hx
  go_enter Try.func124, Try.ntmps124
  go_wp2_with fail
  go_loopw [3, 9] (fun m i wr => ∃ j : Nat, j ≤ ks.length ∧ i = .int .i64 j ∧ m = .int .i64 ((1 + sumL ((ks.map P.size).take j) : Nat) : Int) ∧ Below w.heap.size w wr) (fun _ i _ => ks.length - (intOf i).toNat)
  case atStart => exact ⟨0, Nat.zero_le _, rfl, by simp [sumL], (by repeat (with_reducible first | exact hbel | exact Below.refl _ _ | refine Below.drew ?_ | refine Below.drewN ?_ _ | refine Below.alloc ?_ (by first | (simp; done) | (simp; omega) | omega | (have := Below.size hbel; simp; omega) | (have := Below.size hbel; omega)) _ | refine Below.setCell ?_ (by first | (simp; done) | (simp; omega) | omega) _))⟩
  case round =>
    obtain ⟨j, hj, rfl, rfl, hbel⟩ := hrel
    have hbel' := Lib.hid hbel
    by_cases hlt : j < ks.length
    · obtain ⟨q, hq⟩ : ∃ q, ks[j]? = some q := ⟨ks[j], List.getElem?_eq_getElem _⟩
      obtain ⟨y, hy, hpi⟩ := hc'.out j q hq
      have hy1 := (hbel.cell (p := ⟨g, j, none⟩) hgw).trans hy
      have hsum := sum_take (l := ks.map P.size) (k := j) (n := q.size) (by rw [List.getElem?_map, hq]; rfl)
      have hle := sum_take_le (ks.map P.size) (j + 1)
      have hSZ := hk'.out q (List.mem_of_getElem? hq)
      have mq := fun w => size_m hpi w
      have cq := fun x w => size_c q x w
      have hpi' := Lib.hid hpi
      clear hy hpi hq hbel
      go_wp2_with (refine Calls.mono (hSZ.out _ D _ (hpi'.out.below hbel'.out hD'.out) (fun g hg => by have := hD'.out g hg; have := hbel'.out.size; omega)) ?_; rintro e w1 ⟨rfl, hb1⟩)
      go_roundw
      case rel => exact ⟨j + 1, by omega, by go_num, by rw [hsum]; go_num, below_step hbel'.out (Nat.le_refl _) hb1⟩
      case measure => simp [intOf]; omega
    · have e : j = ks.length := by omega
      subst e
      have hsum : sumL ((ks.map P.size).take ks.length) = sumL (ks.map P.size) := by rw [List.take_of_length_le (by simp)]
      go_wp2_with fail
      go_ret
      exact ⟨ret_int (by rw [hsum]), hbel'.out⟩

theorem sizeP_any : ∀ (p : P), p.size ≤ 900000 → SZP p
  | .nm s, _ => size_nm s
  | .f1 h p, hs => fun w D x hx hD => by
    rw [P.size] at hs
    have H := sizeP_any p (by omega)
    refine Calls.mono (size_form (.f1 h p) h [p] ⟨rfl, rfl⟩ (fun q hq => by simp at hq; subst hq; exact H) (by simp [sumL]; omega) w D x hx hD) ?_
    rintro e w' ⟨rfl, hb⟩
    exact ⟨ret_int (by simp [sumL, P.size]), hb⟩
  | .f2 h p q, hs => fun w D x hx hD => by
    rw [P.size] at hs
    have H := sizeP_any p (by omega)
    have H' := sizeP_any q (by omega)
    refine Calls.mono (size_form (.f2 h p q) h [p, q] ⟨rfl, rfl⟩ (fun r hr => by simp at hr; rcases hr with rfl | rfl; exact H; exact H') (by simp [sumL]; omega) w D x hx hD) ?_
    rintro e w' ⟨rfl, hb⟩
    exact ⟨ret_int (by simp [sumL, P.size]; omega), hb⟩
  | .bd s b, hs => by
    rw [P.size] at hs
    exact size_bd s b (sizeP_any b (by omega)) (by omega)

end Go.Proofs.Ytagafoldkfgikaa
