/- What the model's heads ask: plain mathematics. The model's look at heads: l2Shape. The model reads programs: l2Kind, l2Read. spec.l2Read. -/
import Derived.Test.YtchkmdagbjbcjaaGreatDoorMakeP
import Derived.Test.YtchkmdagbjbcjaaGreatDoorHead
import Derived.Test.YtchkmdagbjbcjaaGreatDoorSpecV
namespace Go.Proofs.YtchkmdagbjbcjaaGreatDoor
set_option linter.unusedVariables false
open Go.RowKit

def K.let : K → Bs
  | .t => [116]
  | .c => [99]
  | .s => [115]
def kindO : Option P → Bs
  | none => []
  | some p => p.kind.let

def shS (h : Bs) : Bs × Bs :=
  if h = [112, 97, 105, 114] then ([116], [116, 116])
  else if h = [105, 110, 108] then ([116], [116])
  else if h = [105, 110, 114] then ([116], [116])
  else if h = [110, 111, 116] then ([116], [99])
  else if h = [109, 117] then ([116], [97, 115])
  else if h = [99, 97, 115, 101] then ([99], [99, 99])
  else if h = [102, 115, 116] then ([99], [99])
  else if h = [115, 110, 100] then ([99], [99])
  else if h = [110, 101, 103] then ([99], [116])
  else if h = [116, 109, 117] then ([99], [120, 115])
  else if h = [99, 117, 116] then ([115], [116, 99])
  else ([], [])

/-- What a letter of a shape asks of a part. -/
def chk (c : UInt8) (t : T) : Bool := if c = 120 then isVar (atomOf t) else if c = 97 then isCov (atomOf t) else kindO (toP t) == [c]

theorem kindO_let (o : Option P) (l : K) : (kindO o == l.let) = true ↔ ∃ p, o = some p ∧ p.kind = l := by
  cases o with
  | none => cases l <;> simp [kindO, K.let]
  | some p =>
    simp only [kindO]
    cases hp : p.kind <;> cases l <;> simp [K.let, hp]

theorem chk_let (l : K) (t : T) (c : UInt8) (hc : l.let = [c]) : chk c t = (kindO (toP t) == l.let) := by
  rw [hc]
  unfold chk
  cases l <;> (injection hc with hc; subst hc; rfl)

theorem sh_hd1 {h : Bs} {k l : K} (e : hd1 h = some (k, l)) : shS h = (k.let, l.let) := by
  unfold hd1 at e
  repeat' split at e
  all_goals first | (rename_i hh; subst hh; injection e with e; injection e with e1 e2; subst e1; subst e2; decide) | cases e
theorem sh_hd2 {h : Bs} {k l m : K} (e : hd2 h = some (k, l, m)) : shS h = (k.let, l.let ++ m.let) := by
  unfold hd2 at e
  repeat' split at e
  all_goals first | (rename_i hh; subst hh; injection e with e; injection e with e1 e2; injection e2 with e2 e3; subst e1; subst e2; subst e3; decide) | cases e
theorem sh_other {h : Bs} (h1 : hd1 h = none) (h2 : hd2 h = none) (hm : isMu h = false) : shS h = ([], []) := by
  unfold hd1 at h1
  unfold hd2 at h2
  repeat' split at h1
  all_goals first | cases h1 | skip
  repeat' split at h2
  all_goals first | cases h2 | skip
  unfold shS
  simp only [isMu, muB, tmuB, Bool.or_eq_false_iff, beq_eq_false_iff_ne] at hm
  simp_all

theorem isVar_first {s : Bs} (h : isName s = true) : isVar s = firstIs varB s ∧ isCov s = !firstIs varB s := by
  cases s with
  | nil => cases h
  | cons c r =>
    simp only [isName, isVar, isCov, nameB, Bool.or_eq_true, Bool.and_eq_true] at h
    have hc : varB c = true → covB c = false := by
      intro hv
      simp only [varB, Bool.or_eq_true, beq_iff_eq] at hv
      rcases hv with (rfl | rfl) | rfl <;> decide
    rcases h with ⟨⟨h1, h2⟩, h3⟩ | ⟨⟨h1, h2⟩, h3⟩
    · simp [isVar, isCov, nameB, firstIs, h1, hc h1, h2, h3]
    · have : varB c = false := by
        cases hv : varB c
        · rfl
        · rw [hc hv] at h1; cases h1
      simp [isVar, isCov, nameB, firstIs, h1, this, h2, h3]

/-- A part does not do. -/
theorem kind_bad {x : T} {ts : List T} {i : Nat} {t : T} {c : UInt8} (hl : ts.length = (shS (atomOf x)).2.length) (ht : ts[i]? = some t) (hc : (shS (atomOf x)).2[i]? = some c) (hb : chk c t = false) : toP (.node (x :: ts)) = none := by
  cases hm : isMu (atomOf x)
  · cases h1 : hd1 (atomOf x) with
    | some r =>
      obtain ⟨k, l⟩ := r
      have hs := shape_hd1 h1
      rw [sh_hd1 h1] at hl hc
      obtain ⟨c1, hl1⟩ : ∃ c1, l.let = [c1] := by cases l <;> exact ⟨_, rfl⟩
      rw [hl1] at hl hc
      refine toP_part hm hs (by simpa using hl) (i := i) (l := l) ht ?_ ?_
      · match i, hc with
        | 0, _ => rfl
        | i + 1, hc => simp at hc
      · intro p hp hk
        match i, hc with
        | 0, hc =>
          simp at hc; subst hc
          rw [chk_let l t _ hl1] at hb
          rw [(kindO_let _ l).2 ⟨p, hp, hk⟩] at hb; cases hb
        | i + 1, hc => simp at hc
    | none =>
      cases h2 : hd2 (atomOf x) with
      | some r =>
        obtain ⟨k, l, m⟩ := r
        have hs := shape_hd2 h2
        rw [sh_hd2 h2] at hl hc
        obtain ⟨c1, hl1⟩ : ∃ c1, l.let = [c1] := by cases l <;> exact ⟨_, rfl⟩
        obtain ⟨c2, hm1⟩ : ∃ c2, m.let = [c2] := by cases m <;> exact ⟨_, rfl⟩
        rw [hl1, hm1] at hl hc
        match i, hc with
        | 0, hc =>
          simp at hc; subst hc
          refine toP_part hm hs (by simpa using hl) (i := 0) (l := l) ht rfl fun p hp hk => ?_
          rw [chk_let l t _ hl1] at hb
          rw [(kindO_let _ l).2 ⟨p, hp, hk⟩] at hb; cases hb
        | 1, hc =>
          simp at hc; subst hc
          refine toP_part hm hs (by simpa using hl) (i := 1) (l := m) ht rfl fun p hp hk => ?_
          rw [chk_let m t _ hm1] at hb
          rw [(kindO_let _ m).2 ⟨p, hp, hk⟩] at hb; cases hb
        | i + 2, hc => simp at hc
      | none =>
        rw [sh_other h1 h2 hm] at hc
        simp at hc
  · rw [toP_binder hm]
    have hcase : atomOf x = muB ∨ atomOf x = tmuB := by simpa [isMu] using hm
    rcases hcase with hx | hx
    · rw [hx] at hl hc ⊢
      rw [show shS muB = ([116], [97, 115]) from by decide] at hl hc
      match ts, hl, i, ht, hc with
      | [a, b], _, 0, ht, hc =>
        simp at ht hc; subst ht; subst hc
        have hb : isCov (atomOf a) = false := hb
        cases hn : isName (atomOf a)
        · exact binder_name hn
        · have := isVar_first hn
          refine binder_head fun e => ?_
          rw [this.2] at hb
          simp at hb
          rw [bhead, if_pos hb] at e
          revert e; decide
      | [a, b], _, 1, ht, hc =>
        simp at ht hc; subst ht; subst hc
        have hb : (kindO (toP b) == [115]) = false := hb
        cases hp : toP b with
        | none => exact binder_body hp
        | some p => exact binder_kind hp fun e => by rw [hp] at hb; simp [kindO, e, K.let] at hb
      | [a, b], _, i + 2, ht, hc => simp at ht
    · rw [hx] at hl hc ⊢
      rw [show shS tmuB = ([99], [120, 115]) from by decide] at hl hc
      match ts, hl, i, ht, hc with
      | [a, b], _, 0, ht, hc =>
        simp at ht hc; subst ht; subst hc
        have hb : isVar (atomOf a) = false := hb
        cases hn : isName (atomOf a)
        · exact binder_name hn
        · have := isVar_first hn
          refine binder_head fun e => ?_
          rw [this.1] at hb
          rw [bhead, if_neg (by rw [hb]; decide)] at e
          revert e; decide
      | [a, b], _, 1, ht, hc =>
        simp at ht hc; subst ht; subst hc
        have hb : (kindO (toP b) == [115]) = false := hb
        cases hp : toP b with
        | none => exact binder_body hp
        | some p => exact binder_kind hp fun e => by rw [hp] at hb; simp [kindO, e, K.let] at hb
      | [a, b], _, i + 2, ht, hc => simp at ht

theorem kind_len {x : T} {ts : List T} (hl : ts.length ≠ (shS (atomOf x)).2.length) : toP (.node (x :: ts)) = none := by
  cases hm : isMu (atomOf x)
  · cases h1 : hd1 (atomOf x) with
    | some r =>
      obtain ⟨k, l⟩ := r
      rw [sh_hd1 h1] at hl
      exact toP_len hm (shape_hd1 h1) (by cases l <;> simpa [K.let] using hl)
    | none =>
      cases h2 : hd2 (atomOf x) with
      | some r =>
        obtain ⟨k, l, m⟩ := r
        rw [sh_hd2 h2] at hl
        exact toP_len hm (shape_hd2 h2) (by cases l <;> cases m <;> simpa [K.let] using hl)
      | none =>
        refine toP_head hm ?_
        cases hs : shapeL (atomOf x) with
        | none => rfl
        | some r =>
          obtain ⟨k, d, ks⟩ := r
          rcases shape_some hs with ⟨l, -, h, -⟩ | ⟨l, m, -, h, -⟩
          · rw [h] at h1; cases h1
          · rw [h] at h2; cases h2
  · rw [toP_binder hm]
    have hcase : atomOf x = muB ∨ atomOf x = tmuB := by simpa [isMu] using hm
    refine binder_len _ ?_
    rcases hcase with hx | hx
    · rw [hx] at hl; exact hl
    · rw [hx] at hl; exact hl
theorem kind_no {x : T} {ts : List T} (hk : (shS (atomOf x)).1 = []) : toP (.node (x :: ts)) = none := by
  by_cases hl : ts.length = (shS (atomOf x)).2.length
  · have h0 : shS (atomOf x) = ([], []) := by
      cases hm : isMu (atomOf x)
      · cases h1 : hd1 (atomOf x) with
        | some r => obtain ⟨k, l⟩ := r; rw [sh_hd1 h1] at hk; cases k <;> cases hk
        | none =>
          cases h2 : hd2 (atomOf x) with
          | some r => obtain ⟨k, l, m⟩ := r; rw [sh_hd2 h2] at hk; cases k <;> cases hk
          | none => exact sh_other h1 h2 hm
      · have hcase : atomOf x = muB ∨ atomOf x = tmuB := by simpa [isMu] using hm
        rcases hcase with hx | hx
        · rw [hx, show shS muB = ([116], [97, 115]) from by decide] at hk; cases hk
        · rw [hx, show shS tmuB = ([99], [120, 115]) from by decide] at hk; cases hk
    rw [h0] at hl
    have : ts = [] := List.eq_nil_of_length_eq_zero hl
    subst this
    exact toP_one x
  · exact kind_len hl
theorem kind_good {x : T} {ts : List T} (hk : (shS (atomOf x)).1 ≠ []) (hl : ts.length = (shS (atomOf x)).2.length) (hc : ∀ (i : Nat) (t : T) (c : UInt8), ts[i]? = some t → (shS (atomOf x)).2[i]? = some c → chk c t = true) :
    kindO (toP (.node (x :: ts))) = (shS (atomOf x)).1 := by
  cases hm : isMu (atomOf x)
  · cases h1 : hd1 (atomOf x) with
    | some r =>
      obtain ⟨k, l⟩ := r
      rw [sh_hd1 h1] at hl hc ⊢
      obtain ⟨c1, hl1⟩ : ∃ c1, l.let = [c1] := by cases l <;> exact ⟨_, rfl⟩
      simp only [hl1] at hl hc
      match ts, hl, hc with
      | [a], _, hc =>
        have h := hc 0 a c1 rfl rfl
        rw [chk_let l a _ hl1] at h
        obtain ⟨p, hp, hpk⟩ := (kindO_let _ _).1 h
        rw [toP_two, hm, if_neg (by decide), hp, mk1, h1]
        simp only [hpk, if_true, kindO]
        rw [show (P.f1 (atomOf x) p).kind = k from by rw [P.kind, h1]]
    | none =>
      cases h2 : hd2 (atomOf x) with
      | some r =>
        obtain ⟨k, l, m⟩ := r
        rw [sh_hd2 h2] at hl hc ⊢
        obtain ⟨c1, hl1⟩ : ∃ c1, l.let = [c1] := by cases l <;> exact ⟨_, rfl⟩
        obtain ⟨c2, hm1⟩ : ∃ c2, m.let = [c2] := by cases m <;> exact ⟨_, rfl⟩
        simp only [hl1, hm1] at hl hc
        match ts, hl, hc with
        | [a, b], _, hc =>
          have h := hc 0 a c1 rfl rfl
          have h' := hc 1 b c2 rfl rfl
          rw [chk_let l a _ hl1] at h
          rw [chk_let m b _ hm1] at h'
          obtain ⟨p, hp, hpk⟩ := (kindO_let _ _).1 h
          obtain ⟨q, hq, hqk⟩ := (kindO_let _ _).1 h'
          rw [toP_three, hm, if_neg (by decide), hp, hq, mk2, h2]
          simp only [hpk, hqk, and_self, if_true, kindO]
          rw [show (P.f2 (atomOf x) p q).kind = k from by rw [P.kind, h2]]
      | none => rw [sh_other h1 h2 hm] at hk; exact absurd rfl hk
  · have hcase : atomOf x = muB ∨ atomOf x = tmuB := by simpa [isMu] using hm
    rw [toP_binder hm]
    rcases hcase with hx | hx
    · rw [hx] at hl hc ⊢
      rw [show shS muB = ([116], [97, 115]) from by decide] at hl hc ⊢
      match ts, hl, hc with
      | [a, b], _, hc =>
        have h : isCov (atomOf a) = true := hc 0 a 97 rfl rfl
        have h' := hc 1 b 115 rfl rfl
        have h' : (kindO (toP b) == K.s.let) = true := h'
        obtain ⟨p, hp, hpk⟩ := (kindO_let _ _).1 h'
        have hn : isName (atomOf a) = true := by simp [isName, h]
        have hf := (isVar_first hn).2
        rw [h] at hf
        have hv : firstIs varB (atomOf a) = false := by simpa using hf.symm
        rw [binder_yes hp hn hpk (by simp [bhead, hv])]
        simp [kindO, P.kind, hv, K.let]
    · rw [hx] at hl hc ⊢
      rw [show shS tmuB = ([99], [120, 115]) from by decide] at hl hc ⊢
      match ts, hl, hc with
      | [a, b], _, hc =>
        have h : isVar (atomOf a) = true := hc 0 a 120 rfl rfl
        have h' := hc 1 b 115 rfl rfl
        have h' : (kindO (toP b) == K.s.let) = true := h'
        obtain ⟨p, hp, hpk⟩ := (kindO_let _ _).1 h'
        have hn : isName (atomOf a) = true := by simp [isName, h]
        have hv := (isVar_first hn).1
        rw [h] at hv
        rw [binder_yes hp hn hpk (by simp [bhead, ← hv])]
        simp [kindO, P.kind, ← hv, K.let]

end Go.Proofs.YtchkmdagbjbcjaaGreatDoor

namespace Go.Proofs.YtchkmdagbjbcjaaGreatDoor
set_option linter.unusedVariables false
open Go.RowKit

theorem shS_none {h : Bs} (h0 : (h == [112, 97, 105, 114]) = false) (h1 : (h == [105, 110, 108]) = false) (h2 : (h == [105, 110, 114]) = false) (h3 : (h == [110, 111, 116]) = false) (h4 : (h == [109, 117]) = false) (h5 : (h == [99, 97, 115, 101]) = false) (h6 : (h == [102, 115, 116]) = false) (h7 : (h == [115, 110, 100]) = false) (h8 : (h == [110, 101, 103]) = false) (h9 : (h == [116, 109, 117]) = false) (h10 : (h == [99, 117, 116]) = false) : shS h = ([], []) := by
  rw [beq_eq_false_iff_ne] at h0 h1 h2 h3 h4 h5 h6 h7 h8 h9 h10
  unfold shS
  rw [if_neg h0, if_neg h1, if_neg h2, if_neg h3, if_neg h4, if_neg h5, if_neg h6, if_neg h7, if_neg h8, if_neg h9, if_neg h10]
theorem shS_pair : shS [112, 97, 105, 114] = ([116], [116, 116]) := by decide
theorem shS_inl : shS [105, 110, 108] = ([116], [116]) := by decide
theorem shS_inr : shS [105, 110, 114] = ([116], [116]) := by decide
theorem shS_not : shS [110, 111, 116] = ([116], [99]) := by decide
theorem shS_mu : shS [109, 117] = ([116], [97, 115]) := by decide
theorem shS_case : shS [99, 97, 115, 101] = ([99], [99, 99]) := by decide
theorem shS_fst : shS [102, 115, 116] = ([99], [99]) := by decide
theorem shS_snd : shS [115, 110, 100] = ([99], [99]) := by decide
theorem shS_neg : shS [110, 101, 103] = ([99], [116]) := by decide
theorem shS_tmu : shS [116, 109, 117] = ([99], [120, 115]) := by decide
theorem shS_cut : shS [99, 117, 116] = ([115], [116, 99]) := by decide

end Go.Proofs.YtchkmdagbjbcjaaGreatDoor

namespace Go.Proofs.YtchkmdagbjbcjaaGreatDoor
set_option linter.unusedVariables false
open Go.RowKit

theorem two_keptR (w : World) (x y : Value) (E : TypeId) : Hid (∀ W', Below (w.heap.size + 1) (w.alloc (.cells #[x, y] E)) W' → W'.cell? ⟨w.heap.size, 0, none⟩ = some x ∧ W'.cell? ⟨w.heap.size, 1, none⟩ = some y) := by
  intro W' hb
  obtain ⟨-, e0, e1, -, -⟩ := two_cells (heap_alloc_new w (.cells #[x, y] E))
  exact ⟨(hb.cell (p := ⟨w.heap.size, 0, none⟩) (by simp)).trans e0, (hb.cell (p := ⟨w.heap.size, 1, none⟩) (by simp)).trans e1⟩

theorem shS_len (h : Bs) : (shS h).2.length ≤ 2 := by
  unfold shS
  repeat' split
  all_goals decide

theorem ba_len_l (l : Bs) : (⟨l.toArray⟩ : ByteArray).size = l.length := by rw [ba_size]
theorem ba_at (l : Bs) (i : Nat) (h : i < (⟨l.toArray⟩ : ByteArray).size) (c : UInt8) (hc : l[i]? = some c) : (⟨l.toArray⟩ : ByteArray)[i] = c := by
  have h' : i < l.length := by rw [ba_len_l] at h; exact h
  have e : (⟨l.toArray⟩ : ByteArray)[i] = l[i] := rfl
  rw [e]
  rw [List.getElem?_eq_getElem h'] at hc
  exact Option.some.inj hc
theorem ba_one (l : Bs) (i : Nat) (c : UInt8) (hc : l[i]? = some c) : (⟨l.toArray⟩ : ByteArray).extract i (i + 1) = ⟨#[c]⟩ := by
  rw [ba_extract]
  have h' := (List.getElem?_eq_some_iff.1 hc).1
  rw [show (⟨l.toArray⟩ : ByteArray).data.toList = l from rfl, List.drop_eq_getElem_cons h', show i + 1 - i = 1 from by omega]
  rw [List.getElem?_eq_getElem h'] at hc
  rw [Option.some.inj hc]
  simp

/-- What l2Read answers. -/
def RdPost (s : Bs) (w : World) (e : Ending) (w' : World) : Prop :=
  Below w.heap.size w w' ∧
    ((∃ p a A n c, readP s = some p ∧ e = .returned (.tuple #[.agg #[.string a, .slice A n c], .string ⟨p.kind.let.toArray⟩, .bool true]) ∧ TC w' (New w.heap.size w') p.tree a A n c) ∨
     (∃ a A n c, readP s = none ∧ e = .returned (.tuple #[.agg #[.string a, .slice A n c], .string ⟨#[]⟩, .bool false])))

end Go.Proofs.YtchkmdagbjbcjaaGreatDoor

namespace Go.Proofs.YtchkmdagbjbcjaaGreatDoor
set_option linter.unusedVariables false
open Go.RowKit

theorem TC.up' {w : World} {lo lo' : Nat} {t : T} {a : ByteArray} {p : Option Addr} {n c : Nat} (h : TC w (New lo' w) t a p n c) (hl : lo ≤ lo') : TC w (New lo w) t a p n c :=
  TC.keep (fun _ _ => rfl) (fun g hg => ⟨Nat.le_trans hl hg.1, hg.2⟩) _ _ _ _ _ h

end Go.Proofs.YtchkmdagbjbcjaaGreatDoor
