/- spec.l2Word. -/
import Derived.Test.YtijplnaoecoblaaSpecD
namespace Go.Proofs.Ytijplnaoecoblaa
set_option linter.unusedVariables false
open Go.RowKit

abbrev wordsO : Obj := .cells #[str [112, 97, 105, 114], str [99, 97, 115, 101], str [105, 110, 108], str [102, 115, 116], str [105, 110, 114], str [115, 110, 100], str [110, 111, 116], str [110, 101, 103], str [109, 117], str [116, 109, 117]] 9
theorem words_cells {w wr : World} (h : Below (w.heap.size + 1) (w.alloc wordsO) wr) : w.heap.size < wr.heap.size ∧ wr.cell? ⟨w.heap.size, 0, none⟩ = some (str [112, 97, 105, 114]) ∧ wr.cell? ⟨w.heap.size, 1, none⟩ = some (str [99, 97, 115, 101]) ∧ wr.cell? ⟨w.heap.size, 2, none⟩ = some (str [105, 110, 108]) ∧ wr.cell? ⟨w.heap.size, 3, none⟩ = some (str [102, 115, 116]) ∧ wr.cell? ⟨w.heap.size, 4, none⟩ = some (str [105, 110, 114]) ∧ wr.cell? ⟨w.heap.size, 5, none⟩ = some (str [115, 110, 100]) ∧ wr.cell? ⟨w.heap.size, 6, none⟩ = some (str [110, 111, 116]) ∧ wr.cell? ⟨w.heap.size, 7, none⟩ = some (str [110, 101, 103]) ∧ wr.cell? ⟨w.heap.size, 8, none⟩ = some (str [109, 117]) ∧ wr.cell? ⟨w.heap.size, 9, none⟩ = some (str [116, 109, 117]) := by
  have hb := (h.block w.heap.size (by omega)).trans (heap_alloc_new w _)
  refine ⟨by have := h.size; simp at this; omega, block_cells hb 0 _ rfl, block_cells hb 1 _ rfl, block_cells hb 2 _ rfl, block_cells hb 3 _ rfl, block_cells hb 4 _ rfl, block_cells hb 5 _ rfl, block_cells hb 6 _ rfl, block_cells hb 7 _ rfl, block_cells hb 8 _ rfl, block_cells hb 9 _ rfl⟩
theorem words_below {w wr : World} (h : Below (w.heap.size + 1) (w.alloc wordsO) wr) : Below w.heap.size w wr :=
  below_step ((Below.refl _ _).alloc (Nat.le_refl _) _ : Below w.heap.size w (w.alloc wordsO)) (by simp) (by simpa using h)

end Go.Proofs.Ytijplnaoecoblaa
