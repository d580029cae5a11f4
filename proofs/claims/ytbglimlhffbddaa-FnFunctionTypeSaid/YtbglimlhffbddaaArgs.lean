/- Lists of texts that came in: what they read as; szStringS, toStringS. -/
import Derived.Test.YtbglimlhffbddaaHas
import Derived.Test.YtbglimlhffbddaaMark
import Derived.ProofKit
namespace Go.Proofs.Ytbglimlhffbddaa
set_option linter.unusedVariables false
open Go.RowKit
open Go.ChangeShapes (open_strings)

/-- A list of texts that came in. -/
def ArgS (w : World) (A : Option Addr) (n : Nat) (ss : List ByteArray) : Prop := RowS w A n ss ∧ ∀ s ∈ ss, s.size ≤ maxLen

theorem ArgS.below {w w' : World} {A : Option Addr} {n : Nat} {ss : List ByteArray} (h : ArgS w A n ss) (hb : Below w.heap.size w w') : ArgS w' A n ss := ⟨h.1.below hb, h.2⟩

theorem addr_of_cell {w : World} {a : Addr} {v : Value} (h : w.cell? (a.add 0) = some v) : a = ⟨a.block, a.off, none⟩ ∧ a.block < w.heap.size ∧ ∀ j, a.add j = ⟨a.block, a.off + j, none⟩ := by
  have h' : w.cell? a = some v := h
  have hb := World.block_lt_of_cell? w _ h'
  obtain ⟨b, o, sp⟩ := a
  cases sp with
  | some x =>
    exfalso
    unfold World.cell? at h'
    split at h'
    · simp at h'
    · cases h'
  | none =>
    refine ⟨rfl, hb, fun j => ?_⟩
    unfold Addr.add
    split
    · rename_i h0; simp_all
    · rfl

theorem rowS_of {H : Type} {enc : TypeId × Value → H} {W : World} {A : Option Addr} {len cap : Nat} {d : DataW H} {p : List MemPlace} {held : Bool}
    (h : DataW.Trod enc Try.prog W 0 (fun _ => true) held 27 (.slice A len cap) d p) : ∃ ss, ArgS W A len ss ∧ len ≤ maxLen := by
  obtain ⟨fuel, hf⟩ := h
  rcases open_strings Try.underlying27 Try.underlying9 (by kernel_rfl) hf with ⟨hcs, _⟩ | ⟨a, l, c, ss, hcs, _, hl, hm, hz, _, hcell, hws⟩
  · simp [Value.cells] at hcs
    obtain ⟨rfl, rfl, rfl⟩ := hcs
    exact ⟨[], ⟨⟨rfl, fun h => absurd h (by omega)⟩, by simp⟩, Nat.zero_le _⟩
  · simp [Value.cells] at hcs
    obtain ⟨rfl, rfl, rfl⟩ := hcs
    simp at hz
    refine ⟨ss.take len, ⟨⟨by rw [List.length_take]; omega, fun hn => ?_⟩, fun s hs => hws s (List.mem_of_mem_take hs)⟩, by omega⟩
    have h0 := hcell 0 (by omega)
    obtain ⟨e, hb, hadd⟩ := addr_of_cell h0
    refine ⟨a.block, a.off, by rw [← e], hb, fun i s hi => ?_⟩
    have hi' := (List.getElem?_eq_some_iff.1 hi).1
    rw [List.length_take] at hi'
    rw [List.getElem?_take, if_pos (by omega)] at hi
    rw [← hadd i, hcell i (by omega)]
    simp [List.getD_eq_getElem?_getD, hi]

def SzPost (n : Nat) (z : Int) (w : World) (e : Ending) (w' : World) : Prop := (∃ r : Int, e = .returned (.int .i64 r) ∧ -1 ≤ r ∧ r ≤ z ∧ (0 ≤ r → (n : Int) ≤ z)) ∧ w = w'

/-- What toStringS hands back: a row of its own, the same texts. -/
def TRet (ss : List ByteArray) (w : World) (e : Ending) (w' : World) : Prop :=
  ∃ A c, e = .returned (.slice A ss.length c) ∧ w'.ownsRow w.heap.size 9 1 (.slice A ss.length c) ss.length (ss.map Value.string) ∧ Below w.heap.size w w'

end Go.Proofs.Ytbglimlhffbddaa
