/- strconv.Itoa where the library's table reads as listed: the shelf's contract. -/
import Derived.Test.YtaagbnbekfogiaaGreatDoorNext
import Derived.Test.YtaagbnbekfogiaaGreatDoorShelf
import Derived.Sort.Grow
namespace Go.Proofs.YtaagbnbekfogiaaGreatDoor
set_option linter.unusedVariables false
open Go.RowKit

abbrev TAB (w : World) : Prop := Lib.TabIs Tryz.prog w "internal/strconv.uint64pow10" .u64 Lib.pow10Tab
theorem TAB.keep {w w' : World} (h : TAB w) (hw : ∀ j, j < w.heap.size → w'.heap[j]? = w.heap[j]?) : TAB w' := by
  have hg : Tryz.prog.globalNamed "internal/strconv.uint64pow10" = some 1 := by kernel_rfl
  unfold TAB Lib.TabIs World.var? at h ⊢
  rw [hg] at h ⊢
  simp only [Option.bind_some] at h ⊢
  have hlt : 1 < w.heap.size := by
    rcases Nat.lt_or_ge 1 w.heap.size with h' | h'
    · exact h'
    · rw [Array.getElem?_eq_none h'] at h; cases h
  rw [hw _ hlt]
  exact h
theorem below_grow (w : World) (k : Nat) (os : Array Obj) : Below w.heap.size w (Sort.grow (w.drewN k) os) :=
  ⟨rfl, rfl, rfl, by simp [Sort.grow, World.drewN], fun j hj => Sort.heap_grow_old (w.drewN k) os hj⟩
theorem ito_tab {w : World} (h : TAB w) : ITO 1000000 w.heap.size w := fun W hW i hi => by
  refine Calls.mono (Tryz.strconv_Itoa (i : Int) (by omega) (by omega) W (h.keep hW)) ?_
  rintro e w' ⟨rfl, k, os, rfl⟩
  refine ⟨?_, below_grow W k os⟩
  rw [Lib.itoa_nonneg]
  rfl

end Go.Proofs.YtaagbnbekfogiaaGreatDoor
