/- Bytes that came in. -/
import Derived.Test.YtchkmdagbjbcjaaGreatDoorPickR
import Derived.ProofKit
import Derived.ChangeSlices
namespace Go.Proofs.YtchkmdagbjbcjaaGreatDoor
set_option linter.unusedVariables false
open Go.RowKit
open Go.ChangeShapes

theorem addr_of_cellB {w : World} {a : Addr} {v : Value} (h : w.cell? (a.add 0) = some v) : a = ⟨a.block, a.off, none⟩ ∧ a.block < w.heap.size ∧ ∀ j, a.add j = ⟨a.block, a.off + j, none⟩ := by
  have h' : w.cell? a = some v := h
  have hb := World.block_lt_of_cell? w _ h'
  obtain ⟨b, o, sp⟩ := a
  cases sp with
  | some x =>
    exfalso
    unfold World.cell? at h'
    split at h'
    · simp at h'
    · cases h'
  | none =>
    refine ⟨rfl, hb, fun j => ?_⟩
    unfold Addr.add
    split
    · rename_i h0; simp_all
    · rfl

theorem byteRow_of {H : Type} {enc : TypeId × Value → H} {W : World} {A : Option Addr} {len cap : Nat} {d : DataW H} {p : List MemPlace} {held : Bool}
    (h : DataW.Trod enc Tryz.prog W 0 (fun _ => true) held 22 (.slice A len cap) d p) : ByteRow W A len ∧ len ≤ cap ∧ len ≤ maxLen := by
  obtain ⟨fuel, hf⟩ := h
  rcases open_ints (k := .u8) Tryz.underlying22 Tryz.underlying5 (by kernel_rfl) hf with ⟨hcs, _⟩ | ⟨a, l, c, zs, hcs, _, hl, hm, hz, _, hcell, hws⟩
  · simp [Value.cells] at hcs
    obtain ⟨rfl, rfl, rfl⟩ := hcs
    exact ⟨fun h => absurd h (by omega), Nat.le_refl _, Nat.zero_le _⟩
  · simp [Value.cells] at hcs
    obtain ⟨rfl, rfl, rfl⟩ := hcs
    simp at hz
    refine ⟨fun hn => ?_, hl, by omega⟩
    have h0 := hcell 0 (by omega)
    obtain ⟨e, hb, hadd⟩ := addr_of_cellB h0
    refine ⟨a.block, a.off, by rw [← e], hb, fun i hi => ?_⟩
    have hi' : i < zs.length := by omega
    have hw := hws _ (List.getElem_mem hi')
    rw [← hadd i, hcell i hi']
    have e2 : zs.getD i 0 = zs[i] := by simp [List.getD_eq_getElem?_getD, hi']
    rw [e2]
    have hb8 : 0 ≤ zs[i] ∧ zs[i] < 256 := by
      have := hw
      simp [Lit.wf, IntKind.min, IntKind.max, IntKind.bits, IntKind.signed] at this
      omega
    exact ⟨zs[i].toNat, by omega, by rw [Int.toNat_of_nonneg hb8.1]⟩

end Go.Proofs.YtchkmdagbjbcjaaGreatDoor
