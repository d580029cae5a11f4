/- Heads of forms: impl.shapeOf. -/
import Derived.Test.YtagafoldkfgikaaPiV
namespace Go.Proofs.Ytagafoldkfgikaa
set_option linter.unusedVariables false
open Go.RowKit

def K.name : K → Bs
  | .t => [116, 101, 114, 109]
  | .c => [99, 111, 116, 101, 114, 109]
  | .s => [115, 116, 97, 116, 101, 109, 101, 110, 116]
def shapeL (h : Bs) : Option (K × Bs × List K) :=
  if h = [112, 97, 105, 114] then some (.t, [99, 97, 115, 101], [.t, .t])
  else if h = [105, 110, 108] then some (.t, [102, 115, 116], [.t])
  else if h = [105, 110, 114] then some (.t, [115, 110, 100], [.t])
  else if h = [110, 111, 116] then some (.t, [110, 101, 103], [.c])
  else if h = [99, 97, 115, 101] then some (.c, [112, 97, 105, 114], [.c, .c])
  else if h = [102, 115, 116] then some (.c, [105, 110, 108], [.c])
  else if h = [115, 110, 100] then some (.c, [105, 110, 114], [.c])
  else if h = [110, 101, 103] then some (.c, [110, 111, 116], [.t])
  else if h = [99, 117, 116] then some (.s, [99, 117, 116], [.t, .c])
  else none

def ShPost (h : Bs) (w : World) (e : Ending) (w' : World) : Prop :=
  Below w.heap.size w w' ∧ match shapeL h with
    | none => e = .returned (.agg #[.string ⟨#[]⟩, .string ⟨#[]⟩, .slice none 0 0])
    | some (k, d, ks) => ∃ g n, e = .returned (.agg #[str k.name, str d, .slice (some ⟨g, 0, none⟩) ks.length n]) ∧ New w.heap.size w' g ∧ ∀ (i : Nat) (l : K), ks[i]? = some l → w'.cell? ⟨g, i, none⟩ = some (str l.name)

theorem sh_pair_ : shapeL [112, 97, 105, 114] = some (.t, [99, 97, 115, 101], [.t, .t]) := by decide
theorem sh_inl_ : shapeL [105, 110, 108] = some (.t, [102, 115, 116], [.t]) := by decide
theorem sh_inr_ : shapeL [105, 110, 114] = some (.t, [115, 110, 100], [.t]) := by decide
theorem sh_not_ : shapeL [110, 111, 116] = some (.t, [110, 101, 103], [.c]) := by decide
theorem sh_case_ : shapeL [99, 97, 115, 101] = some (.c, [112, 97, 105, 114], [.c, .c]) := by decide
theorem sh_fst_ : shapeL [102, 115, 116] = some (.c, [105, 110, 108], [.c]) := by decide
theorem sh_snd_ : shapeL [115, 110, 100] = some (.c, [105, 110, 114], [.c]) := by decide
theorem sh_neg_ : shapeL [110, 101, 103] = some (.c, [110, 111, 116], [.t]) := by decide
theorem sh_cut_ : shapeL [99, 117, 116] = some (.s, [99, 117, 116], [.t, .c]) := by decide
theorem sh_none {h : Bs} (h1 : (h == [112, 97, 105, 114]) = false) (h2 : (h == [105, 110, 108]) = false) (h3 : (h == [105, 110, 114]) = false) (h4 : (h == [110, 111, 116]) = false) (h5 : (h == [99, 97, 115, 101]) = false) (h6 : (h == [102, 115, 116]) = false) (h7 : (h == [115, 110, 100]) = false) (h8 : (h == [110, 101, 103]) = false) (h9 : (h == [99, 117, 116]) = false) : shapeL h = none := by
  rw [beq_eq_false_iff_ne] at h1 h2 h3 h4 h5 h6 h7 h8 h9
  unfold shapeL
  rw [if_neg h1, if_neg h2, if_neg h3, if_neg h4, if_neg h5, if_neg h6, if_neg h7, if_neg h8, if_neg h9]
theorem sh_two {w : World} {X : Obj} {k : K} {d : Bs} {x y : K} (h : Bs) (hs : shapeL h = some (k, d, [x, y])) :
    ShPost h w (.returned (.agg #[str k.name, str d, .slice (some ⟨w.heap.size + 1, 0, none⟩) 2 2])) ((w.alloc X).alloc (.cells #[str x.name, str y.name] 9)) := by
  refine ⟨((Below.refl _ _).alloc (Nat.le_refl _) _).alloc (by simp) _, ?_⟩
  rw [hs]
  refine ⟨_, _, rfl, ⟨by omega, by simp⟩, fun i l hl => ?_⟩
  refine block_cells (second_alloc w X _) i _ ?_
  match i, hl with
  | 0, hl => simp at hl; subst hl; rfl
  | 1, hl => simp at hl; subst hl; rfl
  | i + 2, hl => simp at hl
theorem sh_one {w : World} {X : Obj} {k : K} {d : Bs} {x : K} (h : Bs) (hs : shapeL h = some (k, d, [x])) :
    ShPost h w (.returned (.agg #[str k.name, str d, .slice (some ⟨w.heap.size + 1, 0, none⟩) 1 1])) ((w.alloc X).alloc (.cells #[str x.name] 9)) := by
  refine ⟨((Below.refl _ _).alloc (Nat.le_refl _) _).alloc (by simp) _, ?_⟩
  rw [hs]
  refine ⟨_, _, rfl, ⟨by omega, by simp⟩, fun i l hl => ?_⟩
  refine block_cells (second_alloc w X _) i _ ?_
  match i, hl with
  | 0, hl => simp at hl; subst hl; rfl
  | i + 1, hl => simp at hl

set_option maxRecDepth 100000 in
set_option maxHeartbeats 1000000 in
theorem shapeOf_any (a : ByteArray) (w : World) : Calls Try.prog 60 #[.string a] w (ShPost a.toList w) := by
  go_enter Try.func60, Try.ntmps60
  go_wp2
  all_goals first
    | (rename_i h1 h2 h3 h4 h5 h6 h7 h8 h9
       refine bodyPost_ret (v := .agg #[.string ⟨#[]⟩, .string ⟨#[]⟩, .slice none 0 0]) (by simp [results, Try.results60, go_sem]) rfl ?_
       refine ⟨(by repeat (with_reducible first | exact hbel | exact Below.refl _ _ | refine Below.drew ?_ | refine Below.drewN ?_ _ | refine Below.alloc ?_ (by first | (simp; done) | (simp; omega) | omega | (have := Below.size hbel; simp; omega) | (have := Below.size hbel; omega)) _ | refine Below.setCell ?_ (by first | (simp; done) | (simp; omega) | omega) _)), ?_⟩
       rw [sh_none h1 h2 h3 h4 h5 h6 h7 h8 h9])
    | (rename_i h
       have h' := eq_of_beq h
       refine bodyPost_ret (by simp [results, Try.results60, go_sem]; exact rfl) rfl ?_
       rw [h']
       first
         | exact sh_two _ sh_pair_
         | exact sh_one _ sh_inl_
         | exact sh_one _ sh_inr_
         | exact sh_one _ sh_not_
         | exact sh_two _ sh_case_
         | exact sh_one _ sh_fst_
         | exact sh_one _ sh_snd_
         | exact sh_one _ sh_neg_
         | exact sh_two _ sh_cut_)

end Go.Proofs.Ytagafoldkfgikaa
