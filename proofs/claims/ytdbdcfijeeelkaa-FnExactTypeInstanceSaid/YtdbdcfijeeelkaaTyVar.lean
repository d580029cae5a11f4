/- A variable that holds a typing in memory of its own. -/
import Derived.Test.YtdbdcfijeeelkaaTyArg
namespace Go.Proofs.Ytdbdcfijeeelkaa
set_option linter.unusedVariables false
open Go.RowKit

theorem TyO.rows {w : World} {lo hi : Nat} {A B : Option Addr} {n c m d : Nat} {ss ts : List ByteArray} (h : TyO w lo hi A n c B m d ss ts) : RowS w A n ss ∧ RowS w B m ts := ⟨RowS.of_own h.names, RowS.of_own h.types⟩

/-- Block k is the variable; its rows lie in blocks from lo on and below hi. -/
structure TV (W : World) (lo hi k : Nat) (A : Option Addr) (n c : Nat) (B : Option Addr) (m d : Nat) (s : ByteArray) (ss ts : List ByteArray) : Prop where
  rows : TyO W lo hi A n c B m d ss ts
  box : W.heap[k]? = some (.cells #[.slice A n c, .slice B m d, .string s] 26 (0, 0))

section
variable {W W' : World} {lo hi k : Nat} {A B : Option Addr} {n c m d : Nat} {s : ByteArray} {ss ts : List ByteArray}
theorem TV.lt (h : TV W lo hi k A n c B m d s ss ts) : k < W.heap.size := (three_cells h.box).1
theorem TV.below (h : TV W lo hi k A n c B m d s ss ts) (hb : Below W.heap.size W W') : TV W' lo hi k A n c B m d s ss ts := ⟨h.rows.below hb, (hb.block k h.lt).trans h.box⟩
theorem TV.turn {lo2 hi2 : Nat} (h : TV W lo hi k A n c B m d s ss ts) (ht : Turn lo2 hi2 W W') (h1 : k < lo2 ∨ hi2 ≤ k) (h2 : hi ≤ lo2 ∨ hi2 ≤ lo) : TV W' lo hi k A n c B m d s ss ts :=
  ⟨h.rows.turn ht h2, (ht.block k h.lt (by omega)).trans h.box⟩
theorem tv_new (h : TyO W lo W.heap.size A n c B m d ss ts) (s : ByteArray) : TV (W.alloc (.cells #[.slice A n c, .slice B m d, .string s] 26)) lo W.heap.size W.heap.size A n c B m d s ss ts :=
  ⟨h.below (bb_alloc (Below.refl _ _) _), heap_alloc_new _ _⟩
theorem TV.cells (h : TV W lo hi k A n c B m d s ss ts) : W.cell? ⟨k, 0, none⟩ = some (.slice A n c) ∧ W.cell? ⟨k, 1, none⟩ = some (.slice B m d) ∧ W.cell? ⟨k, 2, none⟩ = some (.string s) := by
  obtain ⟨-, a, b, e, -⟩ := three_cells h.box
  exact ⟨a, b, e⟩
end

end Go.Proofs.Ytdbdcfijeeelkaa
