/- The model's l1Sequent, l1True, SequentHolds. -/
import Derived.Test.YtbglimlhffbddaaSeqFn
namespace Go.Proofs.Ytbglimlhffbddaa
set_option linter.unusedVariables false
open Go.RowKit

/-- The slice (A, n) reads as these trees. -/
def TCs (w : World) (D : Nat → Prop) (ts : List T) (A : Option Addr) (n : Nat) : Prop :=
  n = ts.length ∧ (0 < n → ∃ g, A = some ⟨g, 0, none⟩ ∧ D g ∧ ∀ (i : Nat) (t : T), ts[i]? = some t → ∃ a p l c, w.cell? ⟨g, i * 2, none⟩ = some (.string a) ∧ w.cell? ⟨g, i * 2 + 1, none⟩ = some (.slice p l c) ∧ TC w D t a p l c)

def LSRet (o : Option (List F × List F)) (w : World) (e : Ending) (w' : World) : Prop :=
  Below w.heap.size w w' ∧ ∃ A n c B m d, e = .returned (.tuple #[.slice A n c, .slice B m d, .bool o.isSome]) ∧ ∀ fs gs, o = some (fs, gs) →
    TCs w' (New w.heap.size w') (fs.map F.tree) A n ∧ TCs w' (New w.heap.size w') (gs.map F.tree) B m

/-- A list of trees being made. -/
structure LR (w : World) (lo : Nat) (wr : World) (v : Value) (fs : List F) (xs : List Value) : Prop where
  own : wr.ownsRow w.heap.size 67 2 v fs.length xs
  kids : Kids wr (fun g => New lo wr g ∧ v.ownBlock ≠ some g) (fs.map F.tree) xs
  below : Below w.heap.size w wr
  hi : lo ≤ wr.heap.size

theorem LR.tcs {w wr : World} {lo : Nat} {A : Option Addr} {c : Nat} {fs : List F} {xs : List Value} (h : LR w lo wr (.slice A fs.length c) fs xs) {D : Nat → Prop}
    (hD : ∀ g, New lo wr g → D g) (hD' : ∀ g, (Value.slice A fs.length c).ownBlock = some g → w.heap.size ≤ g ∧ g < wr.heap.size → D g) : TCs wr D (fs.map F.tree) A fs.length := by
  refine ⟨by simp, fun hn => ?_⟩
  obtain ⟨g, cap, hv, _, hlt⟩ := h.own.form hn
  have hA : A = some ⟨g, 0, none⟩ := by injection hv
  subst hA
  refine ⟨g, rfl, hD' g rfl (h.own.lt g rfl), fun i t hi => ?_⟩
  obtain ⟨a, p, l, c', x0, x1, tc⟩ := Kids.at_ h.kids hi
  have e : ∀ j, ({ block := g, off := 0, spot := none } : Addr).add j = ⟨g, j, none⟩ := fun j => by unfold Addr.add; split <;> simp_all
  have y0 := h.own.cells (g := g) rfl _ _ x0
  have y1 := h.own.cells (g := g) rfl _ _ x1
  rw [e] at y0 y1
  exact ⟨a, p, l, c', y0, y1, TC.keep (fun _ _ => rfl) (fun g hg => hD g hg.1) _ _ _ _ _ tc⟩

theorem TCs.keep {w w' : World} {D D' : Nat → Prop} {ts : List T} {A : Option Addr} {n : Nat} (h : TCs w D ts A n) (hw : ∀ g, D g → w'.heap[g]? = w.heap[g]?) (hD : ∀ g, D g → D' g) : TCs w' D' ts A n := by
  refine ⟨h.1, fun hn => ?_⟩
  obtain ⟨g, e, hg, hc⟩ := h.2 hn
  refine ⟨g, e, hD g hg, fun i t hi => ?_⟩
  obtain ⟨a, p, l, c, x0, x1, tc⟩ := hc i t hi
  exact ⟨a, p, l, c, (World.cell?_of_block (a := ⟨g, i * 2, none⟩) (hw g hg)).trans x0, (World.cell?_of_block (a := ⟨g, i * 2 + 1, none⟩) (hw g hg)).trans x1, TC.keep hw hD _ _ _ _ _ tc⟩

/-- One tree more. -/
theorem LR.step {w wr w1 w2 : World} {lo : Nat} {v : Value} {fs : List F} {xs : List Value} {f : F} {a : ByteArray} {p : Option Addr} {l c g cap : Nat} {X Y : Obj} (h : LR w lo wr v fs xs) (hlo : w.heap.size ≤ lo)
    (hb1 : Below wr.heap.size wr w1) (htc : TC w1 (New wr.heap.size w1) f.tree a p l c) (hgrow : ((w1.alloc X).alloc Y).grownBy w2 v.ownBlock)
    (hat : v.ownBlock = some g ∨ g = ((w1.alloc X).alloc Y).heap.size) (own2 : w2.ownsRow w.heap.size 67 2 (.slice (some ⟨g, 0, none⟩) (fs.length + 1) cap) (fs.length + 1) (xs ++ [.string a, .slice p l c])) :
    LR w lo w2 (.slice (some ⟨g, 0, none⟩) (fs ++ [f]).length cap) (fs ++ [f]) (xs ++ [.string a, .slice p l c]) := by
  have hW : Below w1.heap.size w1 ((w1.alloc X).alloc Y) := ((Below.refl _ _).alloc (Nat.le_refl _) _).alloc (by simp) _
  have hk := kids_step (m := fs.length + 1) (cap := cap) h.hi h.own h.kids hb1 htc hW hgrow hat
  have s1 := hb1.size
  have s2 := hW.size
  have s3 := hgrow.size
  have s4 := h.hi
  refine ⟨by simpa using own2, by simpa using hk, ?_, by omega⟩
  exact ((h.below.trans (hb1.mono h.below.size)).trans (hW.mono (Nat.le_trans h.below.size s1))).grown hgrow (by have := h.below.size; omega) (fun j hj => (h.own.lt j hj).1)

end Go.Proofs.Ytbglimlhffbddaa
