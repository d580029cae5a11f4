/- (impl.name).isVariable. Heads of forms: impl.shapeOf. The methods 'kind' and 'size' of programs. -/
import Derived.Test.YtaagbnbekfogiaaGreatDoorNames
import Derived.Test.YtaagbnbekfogiaaGreatDoorPiV
namespace Go.Proofs.YtaagbnbekfogiaaGreatDoor
set_option linter.unusedVariables false
open Go.RowKit



set_option maxRecDepth 100000 in
theorem isVariable_any (c : UInt8) (d : Bs) (w : World) :
    Calls Tryz.prog 100 #[nameV c d] w fun e w' => e = .returned (.bool (varB c)) ∧ Below w.heap.size w w' := by
  go_enter Tryz.func100, Tryz.ntmps100
  go_wp2_with (go_at_call 81; refine (sIndexByte_any _ _ _).mono ?_; rintro e w' ⟨rfl, rfl⟩)
  go_ret
  exact ⟨ret_bool (idx3 c), (by repeat (with_reducible first | exact hbel | exact Below.refl _ _ | refine Below.drew ?_ | refine Below.drewN ?_ _ | refine Below.alloc ?_ (by first | (simp; done) | (simp; omega) | omega | (have := Below.size hbel; simp; omega) | (have := Below.size hbel; omega)) _ | refine Below.setCell ?_ (by first | (simp; done) | (simp; omega) | omega) _))⟩

end Go.Proofs.YtaagbnbekfogiaaGreatDoor

namespace Go.Proofs.YtaagbnbekfogiaaGreatDoor
set_option linter.unusedVariables false
open Go.RowKit

def K.name : K → Bs
  | .t => [116, 101, 114, 109]
  | .c => [99, 111, 116, 101, 114, 109]
  | .s => [115, 116, 97, 116, 101, 109, 101, 110, 116]
def shapeL (h : Bs) : Option (K × Bs × List K) :=
  if h = [112, 97, 105, 114] then some (.t, [99, 97, 115, 101], [.t, .t])
  else if h = [105, 110, 108] then some (.t, [102, 115, 116], [.t])
  else if h = [105, 110, 114] then some (.t, [115, 110, 100], [.t])
  else if h = [110, 111, 116] then some (.t, [110, 101, 103], [.c])
  else if h = [99, 97, 115, 101] then some (.c, [112, 97, 105, 114], [.c, .c])
  else if h = [102, 115, 116] then some (.c, [105, 110, 108], [.c])
  else if h = [115, 110, 100] then some (.c, [105, 110, 114], [.c])
  else if h = [110, 101, 103] then some (.c, [110, 111, 116], [.t])
  else if h = [99, 117, 116] then some (.s, [99, 117, 116], [.t, .c])
  else none

def ShPost (h : Bs) (w : World) (e : Ending) (w' : World) : Prop :=
  Below w.heap.size w w' ∧ match shapeL h with
    | none => e = .returned (.agg #[.string ⟨#[]⟩, .string ⟨#[]⟩, .slice none 0 0])
    | some (k, d, ks) => ∃ g n, e = .returned (.agg #[str k.name, str d, .slice (some ⟨g, 0, none⟩) ks.length n]) ∧ New w.heap.size w' g ∧ ∀ (i : Nat) (l : K), ks[i]? = some l → w'.cell? ⟨g, i, none⟩ = some (str l.name)

theorem sh_pair_ : shapeL [112, 97, 105, 114] = some (.t, [99, 97, 115, 101], [.t, .t]) := by decide
theorem sh_inl_ : shapeL [105, 110, 108] = some (.t, [102, 115, 116], [.t]) := by decide
theorem sh_inr_ : shapeL [105, 110, 114] = some (.t, [115, 110, 100], [.t]) := by decide
theorem sh_not_ : shapeL [110, 111, 116] = some (.t, [110, 101, 103], [.c]) := by decide
theorem sh_case_ : shapeL [99, 97, 115, 101] = some (.c, [112, 97, 105, 114], [.c, .c]) := by decide
theorem sh_fst_ : shapeL [102, 115, 116] = some (.c, [105, 110, 108], [.c]) := by decide
theorem sh_snd_ : shapeL [115, 110, 100] = some (.c, [105, 110, 114], [.c]) := by decide
theorem sh_neg_ : shapeL [110, 101, 103] = some (.c, [110, 111, 116], [.t]) := by decide
theorem sh_cut_ : shapeL [99, 117, 116] = some (.s, [99, 117, 116], [.t, .c]) := by decide
theorem sh_none {h : Bs} (h1 : (h == [112, 97, 105, 114]) = false) (h2 : (h == [105, 110, 108]) = false) (h3 : (h == [105, 110, 114]) = false) (h4 : (h == [110, 111, 116]) = false) (h5 : (h == [99, 97, 115, 101]) = false) (h6 : (h == [102, 115, 116]) = false) (h7 : (h == [115, 110, 100]) = false) (h8 : (h == [110, 101, 103]) = false) (h9 : (h == [99, 117, 116]) = false) : shapeL h = none := by
  rw [beq_eq_false_iff_ne] at h1 h2 h3 h4 h5 h6 h7 h8 h9
  unfold shapeL
  rw [if_neg h1, if_neg h2, if_neg h3, if_neg h4, if_neg h5, if_neg h6, if_neg h7, if_neg h8, if_neg h9]
theorem sh_two {w : World} {X : Obj} {k : K} {d : Bs} {x y : K} (h : Bs) (hs : shapeL h = some (k, d, [x, y])) :
    ShPost h w (.returned (.agg #[str k.name, str d, .slice (some ⟨w.heap.size + 1, 0, none⟩) 2 2])) ((w.alloc X).alloc (.cells #[str x.name, str y.name] 9)) := by
  refine ⟨((Below.refl _ _).alloc (Nat.le_refl _) _).alloc (by simp) _, ?_⟩
  rw [hs]
  refine ⟨_, _, rfl, ⟨by omega, by simp⟩, fun i l hl => ?_⟩
  refine block_cells (second_alloc w X _) i _ ?_
  match i, hl with
  | 0, hl => simp at hl; subst hl; rfl
  | 1, hl => simp at hl; subst hl; rfl
  | i + 2, hl => simp at hl
theorem sh_one {w : World} {X : Obj} {k : K} {d : Bs} {x : K} (h : Bs) (hs : shapeL h = some (k, d, [x])) :
    ShPost h w (.returned (.agg #[str k.name, str d, .slice (some ⟨w.heap.size + 1, 0, none⟩) 1 1])) ((w.alloc X).alloc (.cells #[str x.name] 9)) := by
  refine ⟨((Below.refl _ _).alloc (Nat.le_refl _) _).alloc (by simp) _, ?_⟩
  rw [hs]
  refine ⟨_, _, rfl, ⟨by omega, by simp⟩, fun i l hl => ?_⟩
  refine block_cells (second_alloc w X _) i _ ?_
  match i, hl with
  | 0, hl => simp at hl; subst hl; rfl
  | i + 1, hl => simp at hl

set_option maxRecDepth 100000 in
set_option maxHeartbeats 1000000 in
theorem shapeOf_any (a : ByteArray) (w : World) : Calls Tryz.prog 59 #[.string a] w (ShPost a.toList w) := by
  go_enter Tryz.func59, Tryz.ntmps59
  go_wp2
  all_goals first
    | (rename_i h1 h2 h3 h4 h5 h6 h7 h8 h9
       refine bodyPost_ret (v := .agg #[.string ⟨#[]⟩, .string ⟨#[]⟩, .slice none 0 0]) (by simp [results, Tryz.results59, go_sem]) rfl ?_
       refine ⟨(by repeat (with_reducible first | exact hbel | exact Below.refl _ _ | refine Below.drew ?_ | refine Below.drewN ?_ _ | refine Below.alloc ?_ (by first | (simp; done) | (simp; omega) | omega | (have := Below.size hbel; simp; omega) | (have := Below.size hbel; omega)) _ | refine Below.setCell ?_ (by first | (simp; done) | (simp; omega) | omega) _)), ?_⟩
       rw [sh_none h1 h2 h3 h4 h5 h6 h7 h8 h9])
    | (rename_i h
       have h' := eq_of_beq h
       refine bodyPost_ret (by simp [results, Tryz.results59, go_sem]; exact rfl) rfl ?_
       rw [h']
       first
         | exact sh_two _ sh_pair_
         | exact sh_one _ sh_inl_
         | exact sh_one _ sh_inr_
         | exact sh_one _ sh_not_
         | exact sh_two _ sh_case_
         | exact sh_one _ sh_fst_
         | exact sh_one _ sh_snd_
         | exact sh_one _ sh_neg_
         | exact sh_two _ sh_cut_)

end Go.Proofs.YtaagbnbekfogiaaGreatDoor

namespace Go.Proofs.YtaagbnbekfogiaaGreatDoor
set_option linter.unusedVariables false
open Go.RowKit

theorem shape_hd1 {h : Bs} {k l : K} (e : hd1 h = some (k, l)) : shapeL h = some (k, dword h, [l]) := by
  unfold hd1 at e
  repeat' split at e
  all_goals first | (rename_i hh; subst hh; injection e with e; injection e with e1 e2; subst e1; subst e2; decide) | cases e
theorem shape_hd2 {h : Bs} {k l m : K} (e : hd2 h = some (k, l, m)) : shapeL h = some (k, dword h, [l, m]) := by
  unfold hd2 at e
  repeat' split at e
  all_goals first | (rename_i hh; subst hh; injection e with e; injection e with e1 e2; injection e2 with e2 e3; subst e1; subst e2; subst e3; decide) | cases e
theorem shape_some {h d : Bs} {k : K} {ks : List K} (e : shapeL h = some (k, d, ks)) : (∃ l, ks = [l] ∧ hd1 h = some (k, l) ∧ hd2 h = none) ∨ (∃ l m, ks = [l, m] ∧ hd2 h = some (k, l, m) ∧ hd1 h = none) := by
  unfold shapeL at e
  repeat' split at e
  all_goals first | (rename_i hh; subst hh; injection e with e; injection e with e1 e2; injection e2 with e2 e3; subst e1; subst e3; first | exact .inl ⟨_, rfl, by decide, by decide⟩ | exact .inr ⟨_, _, rfl, by decide, by decide⟩) | cases e
theorem shape_none {h : Bs} (e : shapeL h = none) : hd1 h = none ∧ hd2 h = none := by
  cases h1 : hd1 h with
  | some r => obtain ⟨k, l⟩ := r; rw [shape_hd1 h1] at e; cases e
  | none =>
    cases h2 : hd2 h with
    | some r => obtain ⟨k, l, m⟩ := r; rw [shape_hd2 h2] at e; cases e
    | none => exact ⟨rfl, rfl⟩

/-- Each program's type answers with its kind. -/
def KD (p : P) : Prop := ∀ (w : World) (D : Nat → Prop) (x : Value), PI w D p x → Calls Tryz.prog (kindFn p) #[x] w fun e w' => e = .returned (str p.kind.name) ∧ Below w.heap.size w w'

set_option maxRecDepth 100000
theorem kind_nm (s : Bs) : KD (.nm s) := by
  intro w D x h
  obtain ⟨c, d, rfl, rfl⟩ := h
  cases hv : firstIs varB (c :: d)
  · rw [show kindFn (.nm (c :: d)) = 194 from by simp [kindFn, mfn, hv], show (P.nm (c :: d)).kind = .c from by simp [P.kind, hv]]
    go_enter Tryz.func194, Tryz.ntmps194
    go_wp2_with fail
    go_ret
    exact ⟨rfl, (by repeat (with_reducible first | exact hbel | exact Below.refl _ _ | refine Below.drew ?_ | refine Below.drewN ?_ _ | refine Below.alloc ?_ (by first | (simp; done) | (simp; omega) | omega | (have := Below.size hbel; simp; omega) | (have := Below.size hbel; omega)) _ | refine Below.setCell ?_ (by first | (simp; done) | (simp; omega) | omega) _))⟩
  · rw [show kindFn (.nm (c :: d)) = 202 from by simp [kindFn, mfn, hv], show (P.nm (c :: d)).kind = .t from by simp [P.kind, hv]]
    go_enter Tryz.func202, Tryz.ntmps202
    go_wp2_with fail
    go_ret
    exact ⟨rfl, (by repeat (with_reducible first | exact hbel | exact Below.refl _ _ | refine Below.drew ?_ | refine Below.drewN ?_ _ | refine Below.alloc ?_ (by first | (simp; done) | (simp; omega) | omega | (have := Below.size hbel; simp; omega) | (have := Below.size hbel; omega)) _ | refine Below.setCell ?_ (by first | (simp; done) | (simp; omega) | omega) _))⟩

theorem kind_bd (s : Bs) (b : P) : KD (.bd s b) := by
  intro w D x h
  obtain ⟨c, d, y, rfl, rfl, hb⟩ := h
  show Calls _ 196 _ _ _
  cases hv : varB c
  · rw [show (P.bd (c :: d) b).kind = .t from by simp [P.kind, firstIs, hv]]
    go_enter Tryz.func196, Tryz.ntmps196
    go_wp2_with (go_at_call 100; refine Calls.mono (isVariable_any c d _) ?_; rintro e w1 ⟨rfl, hb1⟩)
    go_ret
    exact ⟨rfl, below_step (by repeat (with_reducible first | exact hbel | exact Below.refl _ _ | refine Below.drew ?_ | refine Below.drewN ?_ _ | refine Below.alloc ?_ (by first | (simp; done) | (simp; omega) | omega | (have := Below.size hbel; simp; omega) | (have := Below.size hbel; omega)) _ | refine Below.setCell ?_ (by first | (simp; done) | (simp; omega) | omega) _)) (by simp) hb1⟩
  · rw [show (P.bd (c :: d) b).kind = .c from by simp [P.kind, firstIs, hv]]
    go_enter Tryz.func196, Tryz.ntmps196
    go_wp2_with (go_at_call 100; refine Calls.mono (isVariable_any c d _) ?_; rintro e w1 ⟨rfl, hb1⟩)
    go_ret
    exact ⟨rfl, below_step (by repeat (with_reducible first | exact hbel | exact Below.refl _ _ | refine Below.drew ?_ | refine Below.drewN ?_ _ | refine Below.alloc ?_ (by first | (simp; done) | (simp; omega) | omega | (have := Below.size hbel; simp; omega) | (have := Below.size hbel; omega)) _ | refine Below.setCell ?_ (by first | (simp; done) | (simp; omega) | omega) _)) (by simp) hb1⟩

theorem field_kind (a b c : Value) (w : World) : (Instr.field 92 (.agg #[a, b, c]) 0).run Tryz.prog w = .ok a w := by kernel_rfl
theorem field_dual (a b c : Value) (w : World) : (Instr.field 92 (.agg #[a, b, c]) 1).run Tryz.prog w = .ok b w := by kernel_rfl
theorem field_parts (a b c : Value) (w : World) : (Instr.field 92 (.agg #[a, b, c]) 2).run Tryz.prog w = .ok c w := by kernel_rfl
theorem form_kind (h : Bs) (S : Value) (k : K) (d : Bs) (ks : List K) (hs : shapeL h = some (k, d, ks)) (w : World) : Calls Tryz.prog 136 #[.agg #[str h, S]] w fun e w' => e = .returned (str k.name) ∧ Below w.heap.size w w' := by
  have call := fun W => shapeOf_any ⟨h.toArray⟩ W
  rw [Lib.toList_data] at call
  unfold ShPost at call
  rw [show (⟨h.toArray⟩ : ByteArray).data.toList = h from rfl, hs] at call
  have call' := Lib.hid call
  clear call
  have hf := field_kind
  go_enter Tryz.func136, Tryz.ntmps136
  go_wp2_with (go_at_call 59; refine Calls.mono (call'.out _) ?_; rintro e w1 ⟨hb1, g, n, rfl, -, -⟩)
  go_ret
  exact ⟨rfl, below_step (by repeat (with_reducible first | exact hbel | exact Below.refl _ _ | refine Below.drew ?_ | refine Below.drewN ?_ _ | refine Below.alloc ?_ (by first | (simp; done) | (simp; omega) | omega | (have := Below.size hbel; simp; omega) | (have := Below.size hbel; omega)) _ | refine Below.setCell ?_ (by first | (simp; done) | (simp; omega) | omega) _)) (by simp) hb1⟩

theorem kind_f1 (h : Bs) (p : P) (hk : (P.f1 h p).ok = true) : KD (.f1 h p) := by
  intro w D x hx
  obtain ⟨g, n, y, rfl, -⟩ := hx
  rw [P.ok, Bool.and_eq_true, decide_eq_true_iff] at hk
  exact form_kind h _ _ _ _ (shape_hd1 hk.2) w
theorem kind_f2 (h : Bs) (p q : P) (hk : (P.f2 h p q).ok = true) : KD (.f2 h p q) := by
  intro w D x hx
  obtain ⟨g, n, y, z, rfl, -⟩ := hx
  rw [P.ok, Bool.and_eq_true, decide_eq_true_iff] at hk
  exact form_kind h _ _ _ _ (shape_hd2 hk.2) w
theorem kind_any : ∀ {p : P}, p.ok = true → KD p
  | .nm s, _ => kind_nm s
  | .f1 h p, hk => kind_f1 h p hk
  | .f2 h p q, hk => kind_f2 h p q hk
  | .bd s b, _ => kind_bd s b

/-- Each program's type answers with its number of atoms. -/
def SZP (p : P) : Prop := ∀ (w : World) (D : Nat → Prop) (x : Value), PI w D p x → (∀ g, D g → g < w.heap.size) → Calls Tryz.prog (sizePFn p) #[x] w fun e w' => e = .returned (.int .i64 p.size) ∧ Below w.heap.size w w'

theorem size_nm (s : Bs) : SZP (.nm s) := by
  intro w D x h _
  obtain ⟨c, d, rfl, rfl⟩ := h
  rw [show sizePFn (.nm (c :: d)) = 190 from by simp [sizePFn, mfn]]
  show Calls _ _ _ _ fun e w' => e = .returned (.int .i64 1) ∧ _
  go_enter Tryz.func190, Tryz.ntmps190
  go_wp2_with fail
  refine bodyPost_ret (v := .int .i64 1) (by simp [results, Tryz.results190, go_sem]) rfl ?_
  exact ⟨rfl, (by repeat (with_reducible first | exact hbel | exact Below.refl _ _ | refine Below.drew ?_ | refine Below.drewN ?_ _ | refine Below.alloc ?_ (by first | (simp; done) | (simp; omega) | omega | (have := Below.size hbel; simp; omega) | (have := Below.size hbel; omega)) _ | refine Below.setCell ?_ (by first | (simp; done) | (simp; omega) | omega) _))⟩

theorem size_bd (s : Bs) (b : P) (hb : Hid (SZP b)) (hs : b.size ≤ 900000) : SZP (.bd s b) := by
  intro w D x h hD
  obtain ⟨c, d, y, rfl, rfl, hy⟩ := h
  show Calls _ 198 _ _ fun e w' => e = .returned (.int .i64 ((2 + b.size : Nat) : Int)) ∧ _
  have mb := fun w => size_m hy w
  have cb := fun x w => size_c b x w
  have hy' := Lib.hid hy
  have hD' := Lib.hid hD
  clear hy hD
  go_enter Tryz.func198, Tryz.ntmps198
  go_wp2_with (refine Calls.mono (hb.out _ D _ (hy'.out.below (by repeat (with_reducible first | exact hbel | exact Below.refl _ _ | refine Below.drew ?_ | refine Below.drewN ?_ _ | refine Below.alloc ?_ (by first | (simp; done) | (simp; omega) | omega | (have := Below.size hbel; simp; omega) | (have := Below.size hbel; omega)) _ | refine Below.setCell ?_ (by first | (simp; done) | (simp; omega) | omega) _)) hD'.out) (fun g hg => by have := hD'.out g hg; simp; omega)) ?_; rintro e w1 ⟨rfl, hb1⟩)
  go_ret
  exact ⟨ret_int (by omega), below_step ((Below.refl _ _).alloc (Nat.le_refl _) _) (by simp) hb1⟩

theorem sum_take {l : List Nat} {k n : Nat} (h : l[k]? = some n) : sumL (l.take (k + 1)) = sumL (l.take k) + n := by
  rw [List.take_add_one, h]
  generalize l.take k = m
  induction m with
  | nil => simp [sumL]
  | cons a m ih => simp [sumL] at ih ⊢; omega
theorem sum_take_le (l : List Nat) (k : Nat) : sumL (l.take k) ≤ sumL l := by
  induction l generalizing k with
  | nil => simp [sumL]
  | cons a l ih =>
    cases k with
    | zero => simp [sumL]
    | succ k => have := ih k; simp [sumL] at this ⊢; omega

theorem IsForm.len {p : P} {h : Bs} {ks : List P} (hf : IsForm p h ks) : 1 ≤ ks.length ∧ ks.length ≤ 2 := by
  cases p with
  | nm s => exact absurd hf (by simp [IsForm])
  | bd s b => exact absurd hf (by simp [IsForm])
  | f1 h' p => obtain ⟨rfl, rfl⟩ := hf; simp
  | f2 h' p q => obtain ⟨rfl, rfl⟩ := hf; simp

set_option maxRecDepth 100000 in
theorem size_form (p : P) (h : Bs) (ks : List P) (hf : IsForm p h ks) (hk : ∀ q ∈ ks, Hid (SZP q)) (hn : sumL (ks.map P.size) ≤ 900000) (w : World) (D : Nat → Prop) (x : Value) (hx : PI w D p x) (hD : ∀ g, D g → g < w.heap.size) :
    Calls Tryz.prog 205 #[x] w fun e w' => e = .returned (.int .i64 ((1 + sumL (ks.map P.size) : Nat) : Int)) ∧ Below w.heap.size w w' := by
  obtain ⟨g, n, rfl, hg, hc⟩ := hx.form hf
  have hgw := hD g hg
  have hks := hf.len
  have hk' := Lib.hid hk
  have hD' := Lib.hid hD
  have hc' := Lib.hid hc
  clear hk hD hc hx
  go_enter Tryz.func205, Tryz.ntmps205
  go_wp2_with fail
  go_loopw [3, 9] (fun m i wr => ∃ j : Nat, j ≤ ks.length ∧ i = .int .i64 j ∧ m = .int .i64 ((1 + sumL ((ks.map P.size).take j) : Nat) : Int) ∧ Below w.heap.size w wr) (fun _ i _ => ks.length - (intOf i).toNat)
  case atStart => exact ⟨0, Nat.zero_le _, rfl, by simp [sumL], (by repeat (with_reducible first | exact hbel | exact Below.refl _ _ | refine Below.drew ?_ | refine Below.drewN ?_ _ | refine Below.alloc ?_ (by first | (simp; done) | (simp; omega) | omega | (have := Below.size hbel; simp; omega) | (have := Below.size hbel; omega)) _ | refine Below.setCell ?_ (by first | (simp; done) | (simp; omega) | omega) _))⟩
  case round =>
    obtain ⟨j, hj, rfl, rfl, hbel⟩ := hrel
    have hbel' := Lib.hid hbel
    by_cases hlt : j < ks.length
    · obtain ⟨q, hq⟩ : ∃ q, ks[j]? = some q := ⟨ks[j], List.getElem?_eq_getElem _⟩
      obtain ⟨y, hy, hpi⟩ := hc'.out j q hq
      have hy1 := (hbel.cell (p := ⟨g, j, none⟩) hgw).trans hy
      have hsum := sum_take (l := ks.map P.size) (k := j) (n := q.size) (by rw [List.getElem?_map, hq]; rfl)
      have hle := sum_take_le (ks.map P.size) (j + 1)
      have hSZ := hk'.out q (List.mem_of_getElem? hq)
      have mq := fun w => size_m hpi w
      have cq := fun x w => size_c q x w
      have hpi' := Lib.hid hpi
      clear hy hpi hq hbel
      go_wp2_with (refine Calls.mono (hSZ.out _ D _ (hpi'.out.below hbel'.out hD'.out) (fun g hg => by have := hD'.out g hg; have := hbel'.out.size; omega)) ?_; rintro e w1 ⟨rfl, hb1⟩)
      go_roundw
      case rel => exact ⟨j + 1, by omega, by go_num, by rw [hsum]; go_num, below_step hbel'.out (Nat.le_refl _) hb1⟩
      case measure => simp [intOf]; omega
    · have e : j = ks.length := by omega
      subst e
      have hsum : sumL ((ks.map P.size).take ks.length) = sumL (ks.map P.size) := by rw [List.take_of_length_le (by simp)]
      go_wp2_with fail
      go_ret
      exact ⟨ret_int (by rw [hsum]), hbel'.out⟩

theorem sizeP_any : ∀ (p : P), p.size ≤ 900000 → SZP p
  | .nm s, _ => size_nm s
  | .f1 h p, hs => fun w D x hx hD => by
    rw [P.size] at hs
    have H := sizeP_any p (by omega)
    refine Calls.mono (size_form (.f1 h p) h [p] ⟨rfl, rfl⟩ (fun q hq => by simp at hq; subst hq; exact H) (by simp [sumL]; omega) w D x hx hD) ?_
    rintro e w' ⟨rfl, hb⟩
    exact ⟨ret_int (by simp [sumL, P.size]), hb⟩
  | .f2 h p q, hs => fun w D x hx hD => by
    rw [P.size] at hs
    have H := sizeP_any p (by omega)
    have H' := sizeP_any q (by omega)
    refine Calls.mono (size_form (.f2 h p q) h [p, q] ⟨rfl, rfl⟩ (fun r hr => by simp at hr; rcases hr with rfl | rfl; exact H; exact H') (by simp [sumL]; omega) w D x hx hD) ?_
    rintro e w' ⟨rfl, hb⟩
    exact ⟨ret_int (by simp [sumL, P.size]; omega), hb⟩
  | .bd s b, hs => by
    rw [P.size] at hs
    exact size_bd s b (sizeP_any b (by omega)) (by omega)

end Go.Proofs.YtaagbnbekfogiaaGreatDoor
