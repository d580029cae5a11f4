/- What the model's heads ask: plain mathematics. The model's look at heads: l2Shape. The model reads programs: l2Kind, l2Read. spec.l2Read. -/
import Derived.Test.YtaagbnbekfogiaaGreatDoorMakeP
import Derived.Test.YtaagbnbekfogiaaGreatDoorHead
import Derived.Test.YtaagbnbekfogiaaGreatDoorSpecV
namespace Go.Proofs.YtaagbnbekfogiaaGreatDoor
set_option linter.unusedVariables false
open Go.RowKit

def K.let : K → Bs
  | .t => [116]
  | .c => [99]
  | .s => [115]
def kindO : Option P → Bs
  | none => []
  | some p => p.kind.let

def shS (h : Bs) : Bs × Bs :=
  if h = [112, 97, 105, 114] then ([116], [116, 116])
  else if h = [105, 110, 108] then ([116], [116])
  else if h = [105, 110, 114] then ([116], [116])
  else if h = [110, 111, 116] then ([116], [99])
  else if h = [109, 117] then ([116], [97, 115])
  else if h = [99, 97, 115, 101] then ([99], [99, 99])
  else if h = [102, 115, 116] then ([99], [99])
  else if h = [115, 110, 100] then ([99], [99])
  else if h = [110, 101, 103] then ([99], [116])
  else if h = [116, 109, 117] then ([99], [120, 115])
  else if h = [99, 117, 116] then ([115], [116, 99])
  else ([], [])

/-- What a letter of a shape asks of a part. -/
def chk (c : UInt8) (t : T) : Bool := if c = 120 then isVar (atomOf t) else if c = 97 then isCov (atomOf t) else kindO (toP t) == [c]

theorem kindO_let (o : Option P) (l : K) : (kindO o == l.let) = true ↔ ∃ p, o = some p ∧ p.kind = l := by
  cases o with
  | none => cases l <;> simp [kindO, K.let]
  | some p =>
    simp only [kindO]
    cases hp : p.kind <;> cases l <;> simp [K.let, hp]

theorem chk_let (l : K) (t : T) (c : UInt8) (hc : l.let = [c]) : chk c t = (kindO (toP t) == l.let) := by
  rw [hc]
  unfold chk
  cases l <;> (injection hc with hc; subst hc; rfl)

theorem sh_hd1 {h : Bs} {k l : K} (e : hd1 h = some (k, l)) : shS h = (k.let, l.let) := by
  unfold hd1 at e
  repeat' split at e
  all_goals first | (rename_i hh; subst hh; injection e with e; injection e with e1 e2; subst e1; subst e2; decide) | cases e
theorem sh_hd2 {h : Bs} {k l m : K} (e : hd2 h = some (k, l, m)) : shS h = (k.let, l.let ++ m.let) := by
  unfold hd2 at e
  repeat' split at e
  all_goals first | (rename_i hh; subst hh; injection e with e; injection e with e1 e2; injection e2 with e2 e3; subst e1; subst e2; subst e3; decide) | cases e
theorem sh_other {h : Bs} (h1 : hd1 h = none) (h2 : hd2 h = none) (hm : isMu h = false) : shS h = ([], []) := by
  unfold hd1 at h1
  unfold hd2 at h2
  repeat' split at h1
  all_goals first | cases h1 | skip
  repeat' split at h2
  all_goals first | cases h2 | skip
  unfold shS
  simp only [isMu, muB, tmuB, Bool.or_eq_false_iff, beq_eq_false_iff_ne] at hm
  simp_all

theorem isVar_first {s : Bs} (h : isName s = true) : isVar s = firstIs varB s ∧ isCov s = !firstIs varB s := by
  cases s with
  | nil => cases h
  | cons c r =>
    simp only [isName, isVar, isCov, nameB, Bool.or_eq_true, Bool.and_eq_true] at h
    have hc : varB c = true → covB c = false := by
      intro hv
      simp only [varB, Bool.or_eq_true, beq_iff_eq] at hv
      rcases hv with (rfl | rfl) | rfl <;> decide
    rcases h with ⟨⟨h1, h2⟩, h3⟩ | ⟨⟨h1, h2⟩, h3⟩
    · simp [isVar, isCov, nameB, firstIs, h1, hc h1, h2, h3]
    · have : varB c = false := by
        cases hv : varB c
        · rfl
        · rw [hc hv] at h1; cases h1
      simp [isVar, isCov, nameB, firstIs, h1, this, h2, h3]

/-- A part does not do. -/
theorem kind_bad {x : T} {ts : List T} {i : Nat} {t : T} {c : UInt8} (hl : ts.length = (shS (atomOf x)).2.length) (ht : ts[i]? = some t) (hc : (shS (atomOf x)).2[i]? = some c) (hb : chk c t = false) : toP (.node (x :: ts)) = none := by
  cases hm : isMu (atomOf x)
  · cases h1 : hd1 (atomOf x) with
    | some r =>
      obtain ⟨k, l⟩ := r
      have hs := shape_hd1 h1
      rw [sh_hd1 h1] at hl hc
      obtain ⟨c1, hl1⟩ : ∃ c1, l.let = [c1] := by cases l <;> exact ⟨_, rfl⟩
      rw [hl1] at hl hc
      refine toP_part hm hs (by simpa using hl) (i := i) (l := l) ht ?_ ?_
      · match i, hc with
        | 0, _ => rfl
        | i + 1, hc => simp at hc
      · intro p hp hk
        match i, hc with
        | 0, hc =>
          simp at hc; subst hc
          rw [chk_let l t _ hl1] at hb
          rw [(kindO_let _ l).2 ⟨p, hp, hk⟩] at hb; cases hb
        | i + 1, hc => simp at hc
    | none =>
      cases h2 : hd2 (atomOf x) with
      | some r =>
        obtain ⟨k, l, m⟩ := r
        have hs := shape_hd2 h2
        rw [sh_hd2 h2] at hl hc
        obtain ⟨c1, hl1⟩ : ∃ c1, l.let = [c1] := by cases l <;> exact ⟨_, rfl⟩
        obtain ⟨c2, hm1⟩ : ∃ c2, m.let = [c2] := by cases m <;> exact ⟨_, rfl⟩
        rw [hl1, hm1] at hl hc
        match i, hc with
        | 0, hc =>
          simp at hc; subst hc
          refine toP_part hm hs (by simpa using hl) (i := 0) (l := l) ht rfl fun p hp hk => ?_
          rw [chk_let l t _ hl1] at hb
          rw [(kindO_let _ l).2 ⟨p, hp, hk⟩] at hb; cases hb
        | 1, hc =>
          simp at hc; subst hc
          refine toP_part hm hs (by simpa using hl) (i := 1) (l := m) ht rfl fun p hp hk => ?_
          rw [chk_let m t _ hm1] at hb
          rw [(kindO_let _ m).2 ⟨p, hp, hk⟩] at hb; cases hb
        | i + 2, hc => simp at hc
      | none =>
        rw [sh_other h1 h2 hm] at hc
        simp at hc
  · rw [toP_binder hm]
    have hcase : atomOf x = muB ∨ atomOf x = tmuB := by simpa [isMu] using hm
    rcases hcase with hx | hx
    · rw [hx] at hl hc ⊢
      rw [show shS muB = ([116], [97, 115]) from by decide] at hl hc
      match ts, hl, i, ht, hc with
      | [a, b], _, 0, ht, hc =>
        simp at ht hc; subst ht; subst hc
        have hb : isCov (atomOf a) = false := hb
        cases hn : isName (atomOf a)
        · exact binder_name hn
        · have := isVar_first hn
          refine binder_head fun e => ?_
          rw [this.2] at hb
          simp at hb
          rw [bhead, if_pos hb] at e
          revert e; decide
      | [a, b], _, 1, ht, hc =>
        simp at ht hc; subst ht; subst hc
        have hb : (kindO (toP b) == [115]) = false := hb
        cases hp : toP b with
        | none => exact binder_body hp
        | some p => exact binder_kind hp fun e => by rw [hp] at hb; simp [kindO, e, K.let] at hb
      | [a, b], _, i + 2, ht, hc => simp at ht
    · rw [hx] at hl hc ⊢
      rw [show shS tmuB = ([99], [120, 115]) from by decide] at hl hc
      match ts, hl, i, ht, hc with
      | [a, b], _, 0, ht, hc =>
        simp at ht hc; subst ht; subst hc
        have hb : isVar (atomOf a) = false := hb
        cases hn : isName (atomOf a)
        · exact binder_name hn
        · have := isVar_first hn
          refine binder_head fun e => ?_
          rw [this.1] at hb
          rw [bhead, if_neg (by rw [hb]; decide)] at e
          revert e; decide
      | [a, b], _, 1, ht, hc =>
        simp at ht hc; subst ht; subst hc
        have hb : (kindO (toP b) == [115]) = false := hb
        cases hp : toP b with
        | none => exact binder_body hp
        | some p => exact binder_kind hp fun e => by rw [hp] at hb; simp [kindO, e, K.let] at hb
      | [a, b], _, i + 2, ht, hc => simp at ht

theorem kind_len {x : T} {ts : List T} (hl : ts.length ≠ (shS (atomOf x)).2.length) : toP (.node (x :: ts)) = none := by
  cases hm : isMu (atomOf x)
  · cases h1 : hd1 (atomOf x) with
    | some r =>
      obtain ⟨k, l⟩ := r
      rw [sh_hd1 h1] at hl
      exact toP_len hm (shape_hd1 h1) (by cases l <;> simpa [K.let] using hl)
    | none =>
      cases h2 : hd2 (atomOf x) with
      | some r =>
        obtain ⟨k, l, m⟩ := r
        rw [sh_hd2 h2] at hl
        exact toP_len hm (shape_hd2 h2) (by cases l <;> cases m <;> simpa [K.let] using hl)
      | none =>
        refine toP_head hm ?_
        cases hs : shapeL (atomOf x) with
        | none => rfl
        | some r =>
          obtain ⟨k, d, ks⟩ := r
          rcases shape_some hs with ⟨l, -, h, -⟩ | ⟨l, m, -, h, -⟩
          · rw [h] at h1; cases h1
          · rw [h] at h2; cases h2
  · rw [toP_binder hm]
    have hcase : atomOf x = muB ∨ atomOf x = tmuB := by simpa [isMu] using hm
    refine binder_len _ ?_
    rcases hcase with hx | hx
    · rw [hx] at hl; exact hl
    · rw [hx] at hl; exact hl
theorem kind_no {x : T} {ts : List T} (hk : (shS (atomOf x)).1 = []) : toP (.node (x :: ts)) = none := by
  by_cases hl : ts.length = (shS (atomOf x)).2.length
  · have h0 : shS (atomOf x) = ([], []) := by
      cases hm : isMu (atomOf x)
      · cases h1 : hd1 (atomOf x) with
        | some r => obtain ⟨k, l⟩ := r; rw [sh_hd1 h1] at hk; cases k <;> cases hk
        | none =>
          cases h2 : hd2 (atomOf x) with
          | some r => obtain ⟨k, l, m⟩ := r; rw [sh_hd2 h2] at hk; cases k <;> cases hk
          | none => exact sh_other h1 h2 hm
      · have hcase : atomOf x = muB ∨ atomOf x = tmuB := by simpa [isMu] using hm
        rcases hcase with hx | hx
        · rw [hx, show shS muB = ([116], [97, 115]) from by decide] at hk; cases hk
        · rw [hx, show shS tmuB = ([99], [120, 115]) from by decide] at hk; cases hk
    rw [h0] at hl
    have : ts = [] := List.eq_nil_of_length_eq_zero hl
    subst this
    exact toP_one x
  · exact kind_len hl
theorem kind_good {x : T} {ts : List T} (hk : (shS (atomOf x)).1 ≠ []) (hl : ts.length = (shS (atomOf x)).2.length) (hc : ∀ (i : Nat) (t : T) (c : UInt8), ts[i]? = some t → (shS (atomOf x)).2[i]? = some c → chk c t = true) :
    kindO (toP (.node (x :: ts))) = (shS (atomOf x)).1 := by
  cases hm : isMu (atomOf x)
  · cases h1 : hd1 (atomOf x) with
    | some r =>
      obtain ⟨k, l⟩ := r
      rw [sh_hd1 h1] at hl hc ⊢
      obtain ⟨c1, hl1⟩ : ∃ c1, l.let = [c1] := by cases l <;> exact ⟨_, rfl⟩
      simp only [hl1] at hl hc
      match ts, hl, hc with
      | [a], _, hc =>
        have h := hc 0 a c1 rfl rfl
        rw [chk_let l a _ hl1] at h
        obtain ⟨p, hp, hpk⟩ := (kindO_let _ _).1 h
        rw [toP_two, hm, if_neg (by decide), hp, mk1, h1]
        simp only [hpk, if_true, kindO]
        rw [show (P.f1 (atomOf x) p).kind = k from by rw [P.kind, h1]]
    | none =>
      cases h2 : hd2 (atomOf x) with
      | some r =>
        obtain ⟨k, l, m⟩ := r
        rw [sh_hd2 h2] at hl hc ⊢
        obtain ⟨c1, hl1⟩ : ∃ c1, l.let = [c1] := by cases l <;> exact ⟨_, rfl⟩
        obtain ⟨c2, hm1⟩ : ∃ c2, m.let = [c2] := by cases m <;> exact ⟨_, rfl⟩
        simp only [hl1, hm1] at hl hc
        match ts, hl, hc with
        | [a, b], _, hc =>
          have h := hc 0 a c1 rfl rfl
          have h' := hc 1 b c2 rfl rfl
          rw [chk_let l a _ hl1] at h
          rw [chk_let m b _ hm1] at h'
          obtain ⟨p, hp, hpk⟩ := (kindO_let _ _).1 h
          obtain ⟨q, hq, hqk⟩ := (kindO_let _ _).1 h'
          rw [toP_three, hm, if_neg (by decide), hp, hq, mk2, h2]
          simp only [hpk, hqk, and_self, if_true, kindO]
          rw [show (P.f2 (atomOf x) p q).kind = k from by rw [P.kind, h2]]
      | none => rw [sh_other h1 h2 hm] at hk; exact absurd rfl hk
  · have hcase : atomOf x = muB ∨ atomOf x = tmuB := by simpa [isMu] using hm
    rw [toP_binder hm]
    rcases hcase with hx | hx
    · rw [hx] at hl hc ⊢
      rw [show shS muB = ([116], [97, 115]) from by decide] at hl hc ⊢
      match ts, hl, hc with
      | [a, b], _, hc =>
        have h : isCov (atomOf a) = true := hc 0 a 97 rfl rfl
        have h' := hc 1 b 115 rfl rfl
        have h' : (kindO (toP b) == K.s.let) = true := h'
        obtain ⟨p, hp, hpk⟩ := (kindO_let _ _).1 h'
        have hn : isName (atomOf a) = true := by simp [isName, h]
        have hf := (isVar_first hn).2
        rw [h] at hf
        have hv : firstIs varB (atomOf a) = false := by simpa using hf.symm
        rw [binder_yes hp hn hpk (by simp [bhead, hv])]
        simp [kindO, P.kind, hv, K.let]
    · rw [hx] at hl hc ⊢
      rw [show shS tmuB = ([99], [120, 115]) from by decide] at hl hc ⊢
      match ts, hl, hc with
      | [a, b], _, hc =>
        have h : isVar (atomOf a) = true := hc 0 a 120 rfl rfl
        have h' := hc 1 b 115 rfl rfl
        have h' : (kindO (toP b) == K.s.let) = true := h'
        obtain ⟨p, hp, hpk⟩ := (kindO_let _ _).1 h'
        have hn : isName (atomOf a) = true := by simp [isName, h]
        have hv := (isVar_first hn).1
        rw [h] at hv
        rw [binder_yes hp hn hpk (by simp [bhead, ← hv])]
        simp [kindO, P.kind, ← hv, K.let]

end Go.Proofs.YtaagbnbekfogiaaGreatDoor

namespace Go.Proofs.YtaagbnbekfogiaaGreatDoor
set_option linter.unusedVariables false
open Go.RowKit

theorem shS_none {h : Bs} (h0 : (h == [112, 97, 105, 114]) = false) (h1 : (h == [105, 110, 108]) = false) (h2 : (h == [105, 110, 114]) = false) (h3 : (h == [110, 111, 116]) = false) (h4 : (h == [109, 117]) = false) (h5 : (h == [99, 97, 115, 101]) = false) (h6 : (h == [102, 115, 116]) = false) (h7 : (h == [115, 110, 100]) = false) (h8 : (h == [110, 101, 103]) = false) (h9 : (h == [116, 109, 117]) = false) (h10 : (h == [99, 117, 116]) = false) : shS h = ([], []) := by
  rw [beq_eq_false_iff_ne] at h0 h1 h2 h3 h4 h5 h6 h7 h8 h9 h10
  unfold shS
  rw [if_neg h0, if_neg h1, if_neg h2, if_neg h3, if_neg h4, if_neg h5, if_neg h6, if_neg h7, if_neg h8, if_neg h9, if_neg h10]
theorem shS_pair : shS [112, 97, 105, 114] = ([116], [116, 116]) := by decide
theorem shS_inl : shS [105, 110, 108] = ([116], [116]) := by decide
theorem shS_inr : shS [105, 110, 114] = ([116], [116]) := by decide
theorem shS_not : shS [110, 111, 116] = ([116], [99]) := by decide
theorem shS_mu : shS [109, 117] = ([116], [97, 115]) := by decide
theorem shS_case : shS [99, 97, 115, 101] = ([99], [99, 99]) := by decide
theorem shS_fst : shS [102, 115, 116] = ([99], [99]) := by decide
theorem shS_snd : shS [115, 110, 100] = ([99], [99]) := by decide
theorem shS_neg : shS [110, 101, 103] = ([99], [116]) := by decide
theorem shS_tmu : shS [116, 109, 117] = ([99], [120, 115]) := by decide
theorem shS_cut : shS [99, 117, 116] = ([115], [116, 99]) := by decide

set_option maxRecDepth 100000 in
set_option maxHeartbeats 1000000 in
theorem l2Shape_any (a : ByteArray) (w : World) : Calls Tryz.prog 72 #[.string a] w fun e w' => e = .returned (.tuple #[.string ⟨(shS a.toList).1.toArray⟩, .string ⟨(shS a.toList).2.toArray⟩]) ∧ w = w' := by
  go_enter Tryz.func72, Tryz.ntmps72
  go_wp2
  all_goals first
    | (go_ret2
       rw [shS_none (h := a.toList) (by assumption) (by assumption) (by assumption) (by assumption) (by assumption) (by assumption) (by assumption) (by assumption) (by assumption) (by assumption) (by assumption)]
       exact ⟨rfl, rfl⟩)
    | (exfalso; simp_all; done)
    | (rename_i h
       have h' := eq_of_beq h
       go_ret2
       rw [h']
       first
         | (rw [shS_pair]; exact ⟨rfl, rfl⟩)
         | (rw [shS_inl]; exact ⟨rfl, rfl⟩)
         | (rw [shS_inr]; exact ⟨rfl, rfl⟩)
         | (rw [shS_not]; exact ⟨rfl, rfl⟩)
         | (rw [shS_mu]; exact ⟨rfl, rfl⟩)
         | (rw [shS_case]; exact ⟨rfl, rfl⟩)
         | (rw [shS_fst]; exact ⟨rfl, rfl⟩)
         | (rw [shS_snd]; exact ⟨rfl, rfl⟩)
         | (rw [shS_neg]; exact ⟨rfl, rfl⟩)
         | (rw [shS_tmu]; exact ⟨rfl, rfl⟩)
         | (rw [shS_cut]; exact ⟨rfl, rfl⟩))

end Go.Proofs.YtaagbnbekfogiaaGreatDoor

namespace Go.Proofs.YtaagbnbekfogiaaGreatDoor
set_option linter.unusedVariables false
open Go.RowKit

theorem two_keptR (w : World) (x y : Value) (E : TypeId) : Hid (∀ W', Below (w.heap.size + 1) (w.alloc (.cells #[x, y] E)) W' → W'.cell? ⟨w.heap.size, 0, none⟩ = some x ∧ W'.cell? ⟨w.heap.size, 1, none⟩ = some y) := by
  intro W' hb
  obtain ⟨-, e0, e1, -, -⟩ := two_cells (heap_alloc_new w (.cells #[x, y] E))
  exact ⟨(hb.cell (p := ⟨w.heap.size, 0, none⟩) (by simp)).trans e0, (hb.cell (p := ⟨w.heap.size, 1, none⟩) (by simp)).trans e1⟩

/-- l2Kind answers with the letter of the kind. -/
def LK (k : Nat) : Prop := ∀ (t : T) (w : World) (D : Nat → Prop) (a : ByteArray) (p : Option Addr) (n c : Nat), t.sz ≤ k → TC w D t a p n c → (∀ g, D g → g < w.heap.size) →
  Calls Tryz.prog 41 #[.agg #[.string a, .slice p n c]] w fun e w' => e = .returned (.string ⟨(kindO (toP t)).toArray⟩) ∧ Below w.heap.size w w'

theorem lk_atom (s : Bs) (hs : s ≠ []) (w : World) : Calls Tryz.prog 41 #[.agg #[.string ⟨s.toArray⟩, .slice none 0 0]] w fun e w' => e = .returned (.string ⟨(kindO (toP (.atom s))).toArray⟩) ∧ Below w.heap.size w w' := by
  have he : s.isEmpty = false := by
    cases s with
    | nil => exact absurd rfl hs
    | cons c r => rfl
  have hn : isName s = (isVar s || isCov s) := rfl
  have v := fun w => l2Var_any ⟨s.toArray⟩ w
  have c := fun w => l2Covar_any ⟨s.toArray⟩ w
  rw [show (⟨s.toArray⟩ : ByteArray).data.toList = s from rfl] at v c
  cases hv : isVar s
  · cases hc : isCov s
    · have hk : kindO (toP (.atom s)) = [] := by rw [toP_atom, hn, hv, hc]; rfl
      rw [hk]
      rw [hv] at v; rw [hc] at c
      have v' := Lib.hid v
      have c' := Lib.hid c
      clear v c hk hn
      go_enter Tryz.func41, Tryz.ntmps41
      go_wp2_with (first
        | (go_at_call 70; refine Calls.mono (v'.out _) ?_; rintro e w1 ⟨rfl, rfl⟩)
        | (go_at_call 71; refine Calls.mono (c'.out _) ?_; rintro e w1 ⟨rfl, rfl⟩))
      go_ret
      exact ⟨rfl, (by repeat (with_reducible first | exact hbel | exact Below.refl _ _ | refine Below.drew ?_ | refine Below.drewN ?_ _ | refine Below.alloc ?_ (by first | (simp; done) | (simp; omega) | omega | (have := Below.size hbel; simp; omega) | (have := Below.size hbel; omega)) _ | refine Below.setCell ?_ (by first | (simp; done) | (simp; omega) | omega) _))⟩
    · have hk : kindO (toP (.atom s)) = [99] := by
        have hnn : isName s = true := by rw [hn, hv, hc]; rfl
        rw [toP_atom, hnn]
        simp only [if_true, kindO, P.kind]
        rw [← (isVar_first hnn).1, hv]; rfl
      rw [hk]
      rw [hv] at v; rw [hc] at c
      have v' := Lib.hid v
      have c' := Lib.hid c
      clear v c hk hn
      go_enter Tryz.func41, Tryz.ntmps41
      go_wp2_with (first
        | (go_at_call 70; refine Calls.mono (v'.out _) ?_; rintro e w1 ⟨rfl, rfl⟩)
        | (go_at_call 71; refine Calls.mono (c'.out _) ?_; rintro e w1 ⟨rfl, rfl⟩))
      go_ret
      exact ⟨rfl, (by repeat (with_reducible first | exact hbel | exact Below.refl _ _ | refine Below.drew ?_ | refine Below.drewN ?_ _ | refine Below.alloc ?_ (by first | (simp; done) | (simp; omega) | omega | (have := Below.size hbel; simp; omega) | (have := Below.size hbel; omega)) _ | refine Below.setCell ?_ (by first | (simp; done) | (simp; omega) | omega) _))⟩
  · have hk : kindO (toP (.atom s)) = [116] := by
      have hnn : isName s = true := by rw [hn, hv]; rfl
      rw [toP_atom, hnn]
      simp only [if_true, kindO, P.kind]
      rw [← (isVar_first hnn).1, hv]; rfl
    rw [hk]
    rw [hv] at v
    have v' := Lib.hid v
    clear v c hk hn
    go_enter Tryz.func41, Tryz.ntmps41
    go_wp2_with (first
      | (go_at_call 70; refine Calls.mono (v'.out _) ?_; rintro e w1 ⟨rfl, rfl⟩))
    go_ret
    exact ⟨rfl, (by repeat (with_reducible first | exact hbel | exact Below.refl _ _ | refine Below.drew ?_ | refine Below.drewN ?_ _ | refine Below.alloc ?_ (by first | (simp; done) | (simp; omega) | omega | (have := Below.size hbel; simp; omega) | (have := Below.size hbel; omega)) _ | refine Below.setCell ?_ (by first | (simp; done) | (simp; omega) | omega) _))⟩

theorem shS_len (h : Bs) : (shS h).2.length ≤ 2 := by
  unfold shS
  repeat' split
  all_goals decide

theorem ba_len_l (l : Bs) : (⟨l.toArray⟩ : ByteArray).size = l.length := by rw [ba_size]
theorem ba_at (l : Bs) (i : Nat) (h : i < (⟨l.toArray⟩ : ByteArray).size) (c : UInt8) (hc : l[i]? = some c) : (⟨l.toArray⟩ : ByteArray)[i] = c := by
  have h' : i < l.length := by rw [ba_len_l] at h; exact h
  have e : (⟨l.toArray⟩ : ByteArray)[i] = l[i] := rfl
  rw [e]
  rw [List.getElem?_eq_getElem h'] at hc
  exact Option.some.inj hc
theorem ba_one (l : Bs) (i : Nat) (c : UInt8) (hc : l[i]? = some c) : (⟨l.toArray⟩ : ByteArray).extract i (i + 1) = ⟨#[c]⟩ := by
  rw [ba_extract]
  have h' := (List.getElem?_eq_some_iff.1 hc).1
  rw [show (⟨l.toArray⟩ : ByteArray).data.toList = l from rfl, List.drop_eq_getElem_cons h', show i + 1 - i = 1 from by omega]
  rw [List.getElem?_eq_getElem h'] at hc
  rw [Option.some.inj hc]
  simp

set_option maxRecDepth 100000 in
set_option maxHeartbeats 2000000 in
theorem lk_node (k : Nat) (H : Hid (LK k)) (x : T) (ts : List T) (w : World) (D : Nat → Prop) (a : ByteArray) (p : Option Addr) (n c : Nat) (hk : (T.node (x :: ts)).sz ≤ k + 1) (ht : TC w D (.node (x :: ts)) a p n c) (hD : ∀ g, D g → g < w.heap.size) :
    Calls Tryz.prog 41 #[.agg #[.string a, .slice p n c]] w fun e w' => e = .returned (.string ⟨(kindO (toP (.node (x :: ts)))).toArray⟩) ∧ Below w.heap.size w w' := by
  have hcall := Lib.hid (fun W hW => head_lit ht hD W hW)
  obtain ⟨rfl, hn, g, rfl, hg, hp⟩ := ht.part
  have hgw := hD g hg
  have hn' : n = ts.length + 1 := by simpa using hn
  subst hn'
  have hshape := Lib.hid (fun W => l2Shape_any ⟨(atomOf x).toArray⟩ W)
  simp only [str_list] at hshape
  rw [show headOf (x :: ts) = atomOf x from rfl] at hcall
  have hs2 := shS_len (atomOf x)
  have hnone := Lib.hid (kind_no (x := x) (ts := ts))
  have hlen := Lib.hid (kind_len (x := x) (ts := ts))
  have hbad := Lib.hid (fun hl i t c => kind_bad (x := x) (ts := ts) (i := i) (t := t) (c := c) hl)
  have hgood := Lib.hid (kind_good (x := x) (ts := ts))
  generalize hkd : (shS (atomOf x)).1 = kd at *
  generalize hsh : (shS (atomOf x)).2 = sh at *
  have hD' := Lib.hid hD
  have hp' := Lib.hid hp
  generalize hgo : toP (.node (x :: ts)) = o at *
  clear hp hD ht hn hgo hkd hsh
  have size_sh := ba_len_l sh
  cases hke : kd.isEmpty
  · by_cases hl : ts.length = sh.length
    · have hkne : kd ≠ [] := by intro e; rw [e] at hke; cases hke
      have hgood2 := Lib.hid (hgood.out hkne hl)
      have hbad2 := Lib.hid (hbad.out hl)
      have h2 : (((ts.length : Int) + 1) != ((sh.length : Int) + 1)) = false := by rw [hl]; simp
      have hl' := Lib.hid hl
      clear hkne hl
      go_enter Tryz.func41, Tryz.ntmps41
      go_wp2_with fail
      refine Calls.mono (hcall.out _ (by repeat (with_reducible first | exact hbel | exact Below.refl _ _ | refine Below.drew ?_ | refine Below.drewN ?_ _ | refine Below.alloc ?_ (by first | (simp; done) | (simp; omega) | omega | (have := Below.size hbel; simp; omega) | (have := Below.size hbel; omega)) _ | refine Below.setCell ?_ (by first | (simp; done) | (simp; omega) | omega) _))) ?_
      rintro e w1 ⟨rfl, hb1⟩
      have hbx := (hb1.block w.heap.size (by simp)).trans (heap_alloc_new w _)
      obtain ⟨z0, r0, r1, -, -⟩ := two_cells hbx
      have hbx' := Lib.hid hbx
      have hw1 := Lib.hid (below_step ((Below.refl _ _).alloc (Nat.le_refl _) _ : Below w.heap.size w (w.alloc _)) (by simp) hb1)
      clear hbx hb1
      go_wp2_with (go_at_call 72; refine Calls.mono (hshape.out _) ?_; rintro e w2 ⟨rfl, rfl⟩)
      go_loopw [5] (fun i wr => ∃ j : Nat, j ≤ sh.length ∧ i = .int .i64 j ∧ (∀ (i : Nat) (t : T) (c : UInt8), i < j → ts[i]? = some t → sh[i]? = some c → chk c t = true) ∧ Below w.heap.size w wr ∧
          wr.heap[w.heap.size]? = some (.cells #[.string ⟨#[]⟩, .slice (some ⟨g, 0, none⟩) (ts.length + 1) c] 29 (0, 0)))
        (fun i _ => sh.length - (intOf i).toNat)
      case atStart => exact ⟨0, Nat.zero_le _, rfl, fun i t c h => absurd h (by omega), by have hbel := hw1.out; exact (by repeat (with_reducible first | exact hbel | exact Below.refl _ _ | refine Below.drew ?_ | refine Below.drewN ?_ _ | refine Below.alloc ?_ (by first | (simp; done) | (simp; omega) | omega | (have := Below.size hbel; simp; omega) | (have := Below.size hbel; omega)) _ | refine Below.setCell ?_ (by first | (simp; done) | (simp; omega) | omega) _)), hbx'.out⟩
      case round =>
        clear r0 r1 z0
        obtain ⟨j, hj, rfl, hall, hbel, hbox⟩ := hrel
        obtain ⟨z0, r0, r1, -, -⟩ := two_cells hbox
        have hall' := Lib.hid hall
        have hbox' := Lib.hid hbox
        have hbel' := Lib.hid hbel
        clear hbox hall
        by_cases hlt : j < sh.length
        · obtain ⟨c1, hcc⟩ : ∃ c1, sh[j]? = some c1 := ⟨sh[j], List.getElem?_eq_getElem _⟩
          obtain ⟨t, htj⟩ : ∃ t, ts[j]? = some t := ⟨ts[j]'(by rw [hl'.out]; exact hlt), List.getElem?_eq_getElem _⟩
          obtain ⟨a1, p1, n1, c2, x0, x1, t1⟩ := hp'.out (j + 1) t (by simpa using htj)
          have y0 := (hbel.cell (p := ⟨g, (j + 1) * 2, none⟩) hgw).trans x0
          have y1 := (hbel.cell (p := ⟨g, (j + 1) * 2 + 1, none⟩) hgw).trans x1
          have hgr : g < wr.heap.size := Nat.lt_of_lt_of_le hgw hbel.size
          have hcj := fun h => ba_at sh j h c1 hcc
          have hone := ba_one sh j c1 hcc
          have htk : t.sz ≤ k := by have := T.sz_part (ps := x :: ts) (i := j + 1) (t := t) (by simpa using htj); omega
          have hta := t1.textB
          have t1' := Lib.hid t1
          have hcc' := Lib.hid hcc
          have htj' := Lib.hid htj
          have hjlen : (j : Int) + 1 < (ts.length : Int) + 1 := by have := hl'.out; omega
          have var := Lib.hid (fun W => l2Var_any ⟨(atomOf t).toArray⟩ W)
          have cov := Lib.hid (fun W => l2Covar_any ⟨(atomOf t).toArray⟩ W)
          rw [show (⟨(atomOf t).toArray⟩ : ByteArray).data.toList = atomOf t from rfl] at var cov
          clear x0 x1 t1 htj hbel hcc
          subst hta
          by_cases h120 : c1 = 120
          · subst h120
            cases hv : isVar (atomOf t)
            · have hno := Lib.hid (hbad2.out j t 120 htj'.out hcc'.out hv)
              rw [hv] at var
              clear hv
              go_wp2_with (go_at_call 70; refine Calls.mono (var.out _) ?_; rintro e w2 ⟨rfl, rfl⟩)
              go_ret
              have ho : o = none := hno.out
              subst ho
              exact ⟨rfl, (by have hbel := hbel'.out; exact (by repeat (with_reducible first | exact hbel | exact Below.refl _ _ | refine Below.drew ?_ | refine Below.drewN ?_ _ | refine Below.alloc ?_ (by first | (simp; done) | (simp; omega) | omega | (have := Below.size hbel; simp; omega) | (have := Below.size hbel; omega)) _ | refine Below.setCell ?_ (by first | (simp; done) | (simp; omega) | omega) _)))⟩
            · have hyes : Hid (chk 120 t = true) := hv
              rw [hv] at var
              clear hv
              go_wp2_with (go_at_call 70; refine Calls.mono (var.out _) ?_; rintro e w2 ⟨rfl, rfl⟩)
              go_roundw
              case rel =>
                refine ⟨j + 1, by omega, by go_num, fun i u d h1 h2 h3 => ?_, (by have hbel := hbel'.out; exact (by repeat (with_reducible first | exact hbel | exact Below.refl _ _ | refine Below.drew ?_ | refine Below.drewN ?_ _ | refine Below.alloc ?_ (by first | (simp; done) | (simp; omega) | omega | (have := Below.size hbel; simp; omega) | (have := Below.size hbel; omega)) _ | refine Below.setCell ?_ (by first | (simp; done) | (simp; omega) | omega) _))), ((Below.heap_alloc _ _ _ (by omega)).trans hbox'.out)⟩
                by_cases e : i = j
                · subst e
                  rw [htj'.out] at h2; injection h2 with h2
                  rw [hcc'.out] at h3; injection h3 with h3
                  rw [← h2, ← h3]; exact hyes.out
                · exact hall'.out i u d (by omega) h2 h3
              case measure => simp [intOf]; omega
          · by_cases h97 : c1 = 97
            · subst h97
              cases hv : isCov (atomOf t)
              · have hno := Lib.hid (hbad2.out j t 97 htj'.out hcc'.out hv)
                rw [hv] at cov
                clear hv
                go_wp2_with (go_at_call 71; refine Calls.mono (cov.out _) ?_; rintro e w2 ⟨rfl, rfl⟩)
                go_ret
                have ho : o = none := hno.out
                subst ho
                exact ⟨rfl, (by have hbel := hbel'.out; exact (by repeat (with_reducible first | exact hbel | exact Below.refl _ _ | refine Below.drew ?_ | refine Below.drewN ?_ _ | refine Below.alloc ?_ (by first | (simp; done) | (simp; omega) | omega | (have := Below.size hbel; simp; omega) | (have := Below.size hbel; omega)) _ | refine Below.setCell ?_ (by first | (simp; done) | (simp; omega) | omega) _)))⟩
              · have hyes : Hid (chk 97 t = true) := hv
                rw [hv] at cov
                clear hv
                go_wp2_with (go_at_call 71; refine Calls.mono (cov.out _) ?_; rintro e w2 ⟨rfl, rfl⟩)
                go_roundw
                case rel =>
                  refine ⟨j + 1, by omega, by go_num, fun i u d h1 h2 h3 => ?_, (by have hbel := hbel'.out; exact (by repeat (with_reducible first | exact hbel | exact Below.refl _ _ | refine Below.drew ?_ | refine Below.drewN ?_ _ | refine Below.alloc ?_ (by first | (simp; done) | (simp; omega) | omega | (have := Below.size hbel; simp; omega) | (have := Below.size hbel; omega)) _ | refine Below.setCell ?_ (by first | (simp; done) | (simp; omega) | omega) _))), ((Below.heap_alloc _ _ _ (by omega)).trans hbox'.out)⟩
                  by_cases e : i = j
                  · subst e
                    rw [htj'.out] at h2; injection h2 with h2
                    rw [hcc'.out] at h3; injection h3 with h3
                    rw [← h2, ← h3]; exact hyes.out
                  · exact hall'.out i u d (by omega) h2 h3
                case measure => simp [intOf]; omega
            · have e1 : ((c1.toNat : Int) == 120) = false := (beqInt c1 120).trans (by simpa using h120)
              have e2 : ((c1.toNat : Int) == 97) = false := (beqInt c1 97).trans (by simpa using h97)
              have call := Lib.hid (fun W (hW : Below w.heap.size w W) => H.out t W D ⟨(atomOf t).toArray⟩ p1 n1 c2 htk (t1'.out.below hW hD'.out) (fun g hg => Nat.lt_of_lt_of_le (hD'.out g hg) hW.size))
              cases hv : (kindO (toP t) == [c1])
              · have hno := Lib.hid (hbad2.out j t c1 htj'.out hcc'.out (by unfold chk; rw [if_neg h120, if_neg h97]; exact hv))
                clear h120 h97
                have q1 : (0 : Int) ≤ (j : Int) := by omega
                have q2 : (j : Int) ≤ (j : Int) + 1 := by omega
                have q3 : (j : Int) + 1 ≤ (sh.length : Int) := by omega
                have q4 : IntKind.i64.wrap ((j : Int) + 1) = (j : Int) + 1 := IntWalk.i64_in _ (by omega)
                go_wp2_with fail
                go_region_with ((refine Calls.mono (call.out _ (by have hbel := hbel'.out; exact (by repeat (with_reducible first | exact hbel | exact Below.refl _ _ | refine Below.drew ?_ | refine Below.drewN ?_ _ | refine Below.alloc ?_ (by first | (simp; done) | (simp; omega) | omega | (have := Below.size hbel; simp; omega) | (have := Below.size hbel; omega)) _ | refine Below.setCell ?_ (by first | (simp; done) | (simp; omega) | omega) _)))) ?_; rintro e w1 ⟨rfl, hb1⟩))
                all_goals
                  have hbw := Lib.hid (below_step (show Below w.heap.size w _ from (bb_alloc hbel'.out _).drew) (by have := hbel'.out.size; simp) hb1)
                  go_wp2_with fail
                  go_ret
                  have ho : o = none := hno.out
                  subst ho
                  exact ⟨rfl, hbw.out⟩
              · have hyes : Hid (chk c1 t = true) := Lib.hid (by unfold chk; rw [if_neg h120, if_neg h97]; exact hv)
                clear h120 h97
                have q1 : (0 : Int) ≤ (j : Int) := by omega
                have q2 : (j : Int) ≤ (j : Int) + 1 := by omega
                have q3 : (j : Int) + 1 ≤ (sh.length : Int) := by omega
                have q4 : IntKind.i64.wrap ((j : Int) + 1) = (j : Int) + 1 := IntWalk.i64_in _ (by omega)
                go_wp2_with fail
                go_region_with ((refine Calls.mono (call.out _ (by have hbel := hbel'.out; exact (by repeat (with_reducible first | exact hbel | exact Below.refl _ _ | refine Below.drew ?_ | refine Below.drewN ?_ _ | refine Below.alloc ?_ (by first | (simp; done) | (simp; omega) | omega | (have := Below.size hbel; simp; omega) | (have := Below.size hbel; omega)) _ | refine Below.setCell ?_ (by first | (simp; done) | (simp; omega) | omega) _)))) ?_; rintro e w1 ⟨rfl, hb1⟩))
                all_goals
                  have hbw := Lib.hid (below_step (show Below w.heap.size w _ from (bb_alloc hbel'.out _).drew) (by have := hbel'.out.size; simp) hb1)
                  go_wp2_with fail
                  have hbx3 := Lib.hid ((hb1.block w.heap.size (by have := hbel'.out.size; simp; omega)).trans ((Below.heap_alloc _ _ _ (by omega)).trans hbox'.out))
                  clear hb1
                  go_roundw
                  case rel =>
                    refine ⟨j + 1, by omega, by go_num, fun i u d h1 h2 h3 => ?_, hbw.out, hbx3.out⟩
                    by_cases e : i = j
                    · subst e
                      rw [htj'.out] at h2; injection h2 with h2
                      rw [hcc'.out] at h3; injection h3 with h3
                      rw [← h2, ← h3]; exact hyes.out
                    · exact hall'.out i u d (by omega) h2 h3
                  case measure => simp [intOf]; omega
        · have hj' : j = sh.length := by omega
          have hfin := Lib.hid (hgood2.out (fun i t c ht hc => hall'.out i t c (by have := (List.getElem?_eq_some_iff.1 hc).1; omega) ht hc))
          clear hj'
          go_wp2_with fail
          go_ret
          refine ⟨?_, hbel'.out⟩
          rw [hfin.out]; rfl
    · have ho : o = none := hlen.out hl
      subst ho
      have h2 : (((ts.length : Int) + 1) != ((sh.length : Int) + 1)) = true := by rw [bne_iff_ne]; omega
      clear hl
      go_enter Tryz.func41, Tryz.ntmps41
      go_wp2_with fail
      refine Calls.mono (hcall.out _ (by repeat (with_reducible first | exact hbel | exact Below.refl _ _ | refine Below.drew ?_ | refine Below.drewN ?_ _ | refine Below.alloc ?_ (by first | (simp; done) | (simp; omega) | omega | (have := Below.size hbel; simp; omega) | (have := Below.size hbel; omega)) _ | refine Below.setCell ?_ (by first | (simp; done) | (simp; omega) | omega) _))) ?_
      rintro e w1 ⟨rfl, hb1⟩
      have hbx := (hb1.block w.heap.size (by simp)).trans (heap_alloc_new w _)
      obtain ⟨z0, r0, r1, -, -⟩ := two_cells hbx
      have hw1 := Lib.hid (below_step ((Below.refl _ _).alloc (Nat.le_refl _) _ : Below w.heap.size w (w.alloc _)) (by simp) hb1)
      clear hbx hb1
      go_wp2_with (go_at_call 72; refine Calls.mono (hshape.out _) ?_; rintro e w2 ⟨rfl, rfl⟩)
      go_ret
      refine ⟨rfl, ?_⟩
      have hbel := hw1.out
      exact (by repeat (with_reducible first | exact hbel | exact Below.refl _ _ | refine Below.drew ?_ | refine Below.drewN ?_ _ | refine Below.alloc ?_ (by first | (simp; done) | (simp; omega) | omega | (have := Below.size hbel; simp; omega) | (have := Below.size hbel; omega)) _ | refine Below.setCell ?_ (by first | (simp; done) | (simp; omega) | omega) _))
  · have ho : o = none := hnone.out (by simpa using hke)
    subst ho
    go_enter Tryz.func41, Tryz.ntmps41
    go_wp2_with fail
    refine Calls.mono (hcall.out _ (by repeat (with_reducible first | exact hbel | exact Below.refl _ _ | refine Below.drew ?_ | refine Below.drewN ?_ _ | refine Below.alloc ?_ (by first | (simp; done) | (simp; omega) | omega | (have := Below.size hbel; simp; omega) | (have := Below.size hbel; omega)) _ | refine Below.setCell ?_ (by first | (simp; done) | (simp; omega) | omega) _))) ?_
    rintro e w1 ⟨rfl, hb1⟩
    have hbx := (hb1.block w.heap.size (by simp)).trans (heap_alloc_new w _)
    obtain ⟨z0, r0, r1, -, -⟩ := two_cells hbx
    have hw1 := Lib.hid (below_step ((Below.refl _ _).alloc (Nat.le_refl _) _ : Below w.heap.size w (w.alloc _)) (by simp) hb1)
    clear hbx hb1
    go_wp2_with (go_at_call 72; refine Calls.mono (hshape.out _) ?_; rintro e w2 ⟨rfl, rfl⟩)
    go_ret
    refine ⟨rfl, ?_⟩
    have hbel := hw1.out
    exact (by repeat (with_reducible first | exact hbel | exact Below.refl _ _ | refine Below.drew ?_ | refine Below.drewN ?_ _ | refine Below.alloc ?_ (by first | (simp; done) | (simp; omega) | omega | (have := Below.size hbel; simp; omega) | (have := Below.size hbel; omega)) _ | refine Below.setCell ?_ (by first | (simp; done) | (simp; omega) | omega) _))

theorem lk_nil (A : Option Addr) (c : Nat) (w : World) : Calls Tryz.prog 41 #[.agg #[.string ⟨#[]⟩, .slice A 0 c]] w fun e w' => e = .returned (.string ⟨#[]⟩) ∧ Below w.heap.size w w' := by
  have hshape := fun W => l2Shape_any ⟨#[]⟩ W
  rw [show (⟨#[]⟩ : ByteArray).toList = [] from by rw [Lib.toList_data], show shS [] = ([], []) from by decide] at hshape
  have hshape' := Lib.hid hshape
  clear hshape
  go_enter Tryz.func41, Tryz.ntmps41
  go_wp2_with fail
  refine Calls.mono (head_none A c _) ?_
  rintro e w1 ⟨rfl, hb1⟩
  have hbx := (hb1.block w.heap.size (by simp)).trans (heap_alloc_new w _)
  obtain ⟨z0, r0, r1, -, -⟩ := two_cells hbx
  have hw1 := Lib.hid (below_step ((Below.refl _ _).alloc (Nat.le_refl _) _ : Below w.heap.size w (w.alloc _)) (by simp) hb1)
  clear hbx hb1
  go_wp2_with (go_at_call 72; refine Calls.mono (hshape'.out _) ?_; rintro e w2 ⟨rfl, rfl⟩)
  go_ret
  refine ⟨rfl, ?_⟩
  have hbel := hw1.out
  exact (by repeat (with_reducible first | exact hbel | exact Below.refl _ _ | refine Below.drew ?_ | refine Below.drewN ?_ _ | refine Below.alloc ?_ (by first | (simp; done) | (simp; omega) | omega | (have := Below.size hbel; simp; omega) | (have := Below.size hbel; omega)) _ | refine Below.setCell ?_ (by first | (simp; done) | (simp; omega) | omega) _))

theorem lk_all : ∀ k, LK k := by
  intro k
  induction k with
  | zero => intro t w D a p n c hk; have := t.sz_pos; omega
  | succ k ih =>
    intro t w D a p n c hk ht hD
    match t, hk, ht with
    | .atom s, _, ht =>
      rw [TC] at ht
      obtain ⟨hs, rfl, rfl, rfl, rfl⟩ := ht
      exact lk_atom s hs w
    | .node [], _, ht =>
      obtain ⟨rfl, hn, g, rfl, -, -⟩ := ht.part
      have hn' : n = 0 := hn
      subst hn'
      rw [toP_nil]
      exact lk_nil _ c w
    | .node (x :: ts), hk, ht => exact lk_node k ih x ts w D a p n c hk ht hD

/-- What l2Read answers. -/
def RdPost (s : Bs) (w : World) (e : Ending) (w' : World) : Prop :=
  Below w.heap.size w w' ∧
    ((∃ p a A n c, readP s = some p ∧ e = .returned (.tuple #[.agg #[.string a, .slice A n c], .string ⟨p.kind.let.toArray⟩, .bool true]) ∧ TC w' (New w.heap.size w') p.tree a A n c) ∨
     (∃ a A n c, readP s = none ∧ e = .returned (.tuple #[.agg #[.string a, .slice A n c], .string ⟨#[]⟩, .bool false])))

end Go.Proofs.YtaagbnbekfogiaaGreatDoor

namespace Go.Proofs.YtaagbnbekfogiaaGreatDoor
set_option linter.unusedVariables false
open Go.RowKit

theorem TC.up' {w : World} {lo lo' : Nat} {t : T} {a : ByteArray} {p : Option Addr} {n c : Nat} (h : TC w (New lo' w) t a p n c) (hl : lo ≤ lo') : TC w (New lo w) t a p n c :=
  TC.keep (fun _ _ => rfl) (fun g hg => ⟨Nat.le_trans hl hg.1, hg.2⟩) _ _ _ _ _ h

set_option maxRecDepth 100000 in
theorem l2Read_any (s : ByteArray) (w : World) : Calls Tryz.prog 18 #[.string s] w (RdPost s.data.toList w) := by
  go_enter Tryz.func18, Tryz.ntmps18
  go_wp2_with fail
  refine Calls.mono (l1Parse_any s _) ?_
  rintro e w1 ⟨hb1, hp⟩
  have hb1' := Lib.hid (below_step (show Below w.heap.size w (w.alloc _) from (Below.refl _ _).alloc (Nat.le_refl _) _) (by simp) hb1)
  rcases hp with ⟨t, a, p, l, c, hrd, rfl, htc⟩ | ⟨a, p, l, c, hrd, rfl⟩
  · have hbx := (hb1.block w.heap.size (by simp)).trans (heap_alloc_new w _)
    obtain ⟨z0, r0, r1, -, -⟩ := two_cells hbx
    have hsz := readT_sz hrd
    have htc0 := htc.up' (lo := w.heap.size + 1) (by simp)
    have hcA := Lib.hid (fun W (hW : Below w1.heap.size w1 W) => atoms_all 9000 (by omega) t W _ a p l c (by omega) (htc0.below hW (fun g hg => hg.2)) (fun g hg => Nat.lt_of_lt_of_le hg.2 hW.size))
    have hcK := Lib.hid (fun W (hW : Below w1.heap.size w1 W) => lk_all 9000 t W _ a p l c (by omega) (htc0.below hW (fun g hg => hg.2)) (fun g hg => Nat.lt_of_lt_of_le hg.2 hW.size))
    have hat := T.atoms_sz t
    have htc' := Lib.hid htc0
    have hb1s := hb1.size
    simp at hb1s
    clear htc hb1 htc0
    by_cases h5 : 500 < t.atoms
    · have hno := Lib.hid (readP_atoms hrd h5)
      have h5' : (500 : Int) < (t.atoms : Int) := by omega
      clear hrd h5
      go_wp2_with fail
      refine Calls.mono (hcA.out _ (by repeat (with_reducible first | exact hbel | exact Below.refl _ _ | refine Below.drew ?_ | refine Below.drewN ?_ _ | refine Below.alloc ?_ (by first | (simp; done) | (simp; omega) | omega | (have := Below.size hbel; simp; omega) | (have := Below.size hbel; omega)) _ | refine Below.setCell ?_ (by first | (simp; done) | (simp; omega) | omega) _))) ?_
      rintro e w2 ⟨rfl, hb2⟩
      have hbx1 := (hb2.block w1.heap.size (by simp)).trans (heap_alloc_new w1 _)
      have hbx0 := (hb2.block w.heap.size (by simp; omega)).trans ((Below.heap_alloc _ _ _ (by omega)).trans hbx)
      obtain ⟨y0, s0, s1, -, -⟩ := two_cells hbx1
      obtain ⟨y2, t0, t1, f0, f1⟩ := two_cells hbx0
      have hb2' := Lib.hid (below_step (show Below w1.heap.size w1 (w1.alloc _) from (Below.refl _ _).alloc (Nat.le_refl _) _) (by simp) hb2)
      have hb02 := Lib.hid (below_step hb1'.out (Nat.le_refl _) hb2'.out)
      clear hb2 hbx1 hbx0
      go_wp2_with fail
      refine bodyPost_ret (v := .tuple #[.agg #[.string a, .slice p l c], .string ⟨#[]⟩, .bool false]) (by simp [results, Tryz.results18, go_sem, t0, t1]) rfl ?_
      refine ⟨?_, .inr ⟨_, _, _, _, hno.out, rfl⟩⟩
      have hbel := hb02.out
      exact (by repeat (with_reducible first | exact hbel | exact Below.refl _ _ | refine Below.drew ?_ | refine Below.drewN ?_ _ | refine Below.alloc ?_ (by first | (simp; done) | (simp; omega) | omega | (have := Below.size hbel; simp; omega) | (have := Below.size hbel; omega)) _ | refine Below.setCell ?_ (by first | (simp; done) | (simp; omega) | omega) _))
    · have h5' : ¬ (500 : Int) < (t.atoms : Int) := by omega
      cases hP : toP t with
      | none =>
        have hno := Lib.hid (readP_bad hrd hP)
        rw [hP, show kindO none = [] from rfl] at hcK
        clear hrd h5 hP
        go_wp2_with fail
        refine Calls.mono (hcA.out _ (by repeat (with_reducible first | exact hbel | exact Below.refl _ _ | refine Below.drew ?_ | refine Below.drewN ?_ _ | refine Below.alloc ?_ (by first | (simp; done) | (simp; omega) | omega | (have := Below.size hbel; simp; omega) | (have := Below.size hbel; omega)) _ | refine Below.setCell ?_ (by first | (simp; done) | (simp; omega) | omega) _))) ?_
        rintro e w2 ⟨rfl, hb2⟩
        have hbx1 := (hb2.block w1.heap.size (by simp)).trans (heap_alloc_new w1 _)
        have hbx0 := (hb2.block w.heap.size (by simp; omega)).trans ((Below.heap_alloc _ _ _ (by omega)).trans hbx)
        obtain ⟨y0, s0, s1, -, -⟩ := two_cells hbx1
        obtain ⟨y2, t0, t1, f0, f1⟩ := two_cells hbx0
        have hb2' := Lib.hid (below_step (show Below w1.heap.size w1 (w1.alloc _) from (Below.refl _ _).alloc (Nat.le_refl _) _) (by simp) hb2)
        have hb02 := Lib.hid (below_step hb1'.out (Nat.le_refl _) hb2'.out)
        have hbx0' := Lib.hid hbx0
        have hbx1' := Lib.hid hbx1
        clear hb2 hbx1 hbx0
        go_wp2_with fail
        refine Calls.mono (hcK.out _ hb2'.out) ?_
        rintro e w3 ⟨rfl, hb3⟩
        obtain ⟨q2, u0, u1, f2, f3⟩ := two_cells ((hb3.block w.heap.size y2).trans hbx0'.out)
        obtain ⟨q1, v0, v1, -, -⟩ := two_cells ((hb3.block w1.heap.size y0).trans hbx1'.out)
        have hb03 := Lib.hid (below_step hb02.out (Nat.le_refl _) hb3)
        clear hb3
        go_wp2_with fail
        refine bodyPost_ret (v := .tuple #[.agg #[.string a, .slice p l c], .string ⟨#[]⟩, .bool false]) (by simp [results, Tryz.results18, go_sem, u0, u1]) rfl ?_
        refine ⟨?_, .inr ⟨_, _, _, _, hno.out, rfl⟩⟩
        have hbel := hb03.out
        exact (by repeat (with_reducible first | exact hbel | exact Below.refl _ _ | refine Below.drew ?_ | refine Below.drewN ?_ _ | refine Below.alloc ?_ (by first | (simp; done) | (simp; omega) | omega | (have := Below.size hbel; simp; omega) | (have := Below.size hbel; omega)) _ | refine Below.setCell ?_ (by first | (simp; done) | (simp; omega) | omega) _))
      | some q =>
        have htq := (toP_tree hP).1
        have h5q : q.size ≤ 500 := by rw [htq, P.atoms_tree] at h5; omega
        have hyes := Lib.hid (readP_some hrd hP h5q)
        have htq' := Lib.hid htq
        rw [hP, show kindO (some q) = q.kind.let from rfl] at hcK
        have hke : q.kind.let.isEmpty = false := by cases q.kind <;> rfl
        clear hrd h5 hP htq
        go_wp2_with fail
        refine Calls.mono (hcA.out _ (by repeat (with_reducible first | exact hbel | exact Below.refl _ _ | refine Below.drew ?_ | refine Below.drewN ?_ _ | refine Below.alloc ?_ (by first | (simp; done) | (simp; omega) | omega | (have := Below.size hbel; simp; omega) | (have := Below.size hbel; omega)) _ | refine Below.setCell ?_ (by first | (simp; done) | (simp; omega) | omega) _))) ?_
        rintro e w2 ⟨rfl, hb2⟩
        have hbx1 := (hb2.block w1.heap.size (by simp)).trans (heap_alloc_new w1 _)
        have hbx0 := (hb2.block w.heap.size (by simp; omega)).trans ((Below.heap_alloc _ _ _ (by omega)).trans hbx)
        obtain ⟨y0, s0, s1, -, -⟩ := two_cells hbx1
        obtain ⟨y2, t0, t1, f0, f1⟩ := two_cells hbx0
        have hb2' := Lib.hid (below_step (show Below w1.heap.size w1 (w1.alloc _) from (Below.refl _ _).alloc (Nat.le_refl _) _) (by simp) hb2)
        have hb02 := Lib.hid (below_step hb1'.out (Nat.le_refl _) hb2'.out)
        have hbx0' := Lib.hid hbx0
        have hbx1' := Lib.hid hbx1
        clear hb2 hbx1 hbx0
        go_wp2_with fail
        refine Calls.mono (hcK.out _ hb2'.out) ?_
        rintro e w3 ⟨rfl, hb3⟩
        obtain ⟨q2, u0, u1, f2, f3⟩ := two_cells ((hb3.block w.heap.size y2).trans hbx0'.out)
        obtain ⟨q1, v0, v1, -, -⟩ := two_cells ((hb3.block w1.heap.size y0).trans hbx1'.out)
        have hb03 := Lib.hid (below_step hb02.out (Nat.le_refl _) hb3)
        have hb13 := Lib.hid (below_step hb2'.out (Nat.le_refl _) hb3)
        clear hb3
        go_wp2_with fail
        refine bodyPost_ret (v := .tuple #[.agg #[.string a, .slice p l c], .string ⟨q.kind.let.toArray⟩, .bool true]) (by simp [results, Tryz.results18, go_sem, u0, u1]) rfl ?_
        refine ⟨?_, .inl ⟨q, _, _, _, _, hyes.out, rfl, ?_⟩⟩
        · have hbel := hb03.out
          exact (by repeat (with_reducible first | exact hbel | exact Below.refl _ _ | refine Below.drew ?_ | refine Below.drewN ?_ _ | refine Below.alloc ?_ (by first | (simp; done) | (simp; omega) | omega | (have := Below.size hbel; simp; omega) | (have := Below.size hbel; omega)) _ | refine Below.setCell ?_ (by first | (simp; done) | (simp; omega) | omega) _))
        · rw [← htq'.out]
          have h13 := hb13.out
          refine TC.keep (fun g hg => ?_) (fun g hg => ?_) _ _ _ _ _ htc'.out
          · have hg1 := hg.1
            have hg2 := hg.2
            try simp at hg1 hg2
            first
              | (rw [same_set _ _ _ _ _ (by omega), h13.block g hg2])
              | exact h13.block g hg2
          · have hg1 := hg.1
            have hg2 := hg.2
            have := h13.size
            exact ⟨by omega, by simp; omega⟩
  · have hbx := (hb1.block w.heap.size (by simp)).trans (heap_alloc_new w _)
    obtain ⟨z0, r0, r1, f0, f1⟩ := two_cells hbx
    have hno := Lib.hid (readP_none hrd)
    have hb1s := hb1.size
    simp at hb1s
    clear hrd hb1 hbx
    go_wp2_with fail
    refine bodyPost_ret (v := .tuple #[.agg #[.string a, .slice p l c], .string ⟨#[]⟩, .bool false]) (by simp [results, Tryz.results18, go_sem, r0, r1, z0]) rfl ?_
    refine ⟨?_, .inr ⟨_, _, _, _, hno.out, rfl⟩⟩
    have hbel := hb1'.out
    exact (by repeat (with_reducible first | exact hbel | exact Below.refl _ _ | refine Below.drew ?_ | refine Below.drewN ?_ _ | refine Below.alloc ?_ (by first | (simp; done) | (simp; omega) | omega | (have := Below.size hbel; simp; omega) | (have := Below.size hbel; omega)) _ | refine Below.setCell ?_ (by first | (simp; done) | (simp; omega) | omega) _))

end Go.Proofs.YtaagbnbekfogiaaGreatDoor
