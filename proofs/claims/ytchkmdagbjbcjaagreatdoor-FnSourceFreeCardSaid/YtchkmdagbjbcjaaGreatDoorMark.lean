/- laws.eqStringS. The laws' marks: markText, markStringS, heldStringS. -/
import Derived.Test.YtchkmdagbjbcjaaGreatDoorStrs
import Derived.Test.YtchkmdagbjbcjaaGreatDoorReadF
namespace Go.Proofs.YtchkmdagbjbcjaaGreatDoor
set_option linter.unusedVariables false
open Go.RowKit

end Go.Proofs.YtchkmdagbjbcjaaGreatDoor

namespace Go.Proofs.YtchkmdagbjbcjaaGreatDoor
open Go.RowKit

/-- The digits of k ahead of out; f: at least so many as k needs. -/
def mkL : Nat → Nat → Bs → Bs
  | 0, _, out => out
  | f + 1, k, out => if k = 0 then out else mkL f (k / 10) (UInt8.ofNat (48 + k % 10) :: out)
def mkText (k : Nat) : ByteArray := ⟨(109 :: mkL (k + 1) k []).toArray⟩

theorem conv1 (n : Int) (w : World) : (convert 22 9 (.slice (some ⟨w.heap.size, 0, none⟩) 1 1)).run Tryz.prog (w.alloc (.cells #[.int .u8 n] 5)) = .ok (.string ⟨#[UInt8.ofNat n.toNat]⟩) (w.alloc (.cells #[.int .u8 n] 5)) := by
  rw [run_convert_bytes_string _ _ _ 5 _ _ _ Tryz.underlying22 Tryz.underlying5 Tryz.underlying9]
  refine (run_bytesToString _ _ _ _ [n] ?_).trans rfl
  simp [go_sem, loadCells, loadCellsFrom]

/-- The marks from k on. -/
def marks (k : Nat) : Nat → List ByteArray
  | 0 => []
  | n + 1 => mkText k :: marks (k + 1) n
theorem marks_length (k n : Nat) : (marks k n).length = n := by
  induction n generalizing k with
  | zero => rfl
  | succ n ih => rw [marks, List.length_cons, ih]
theorem marks_get (k n i : Nat) (h : i < n) : (marks k n)[i]? = some (mkText (k + i)) := by
  induction n generalizing k i with
  | zero => omega
  | succ n ih =>
    rw [marks]
    cases i with
    | zero => rfl
    | succ i =>
      rw [List.getElem?_cons_succ, ih (k + 1) i (by omega)]
      congr 2
      omega

/-- The first j are marks, the rest is as it was. -/
def half (k j : Nat) (ss : List ByteArray) : List ByteArray := marks k j ++ ss.drop j
theorem half_zero (k : Nat) (ss : List ByteArray) : half k 0 ss = ss := rfl
theorem half_all {k n : Nat} {ss : List ByteArray} (h : ss.length = n) : half k n ss = marks k n := by
  unfold half; rw [List.drop_of_length_le (by omega), List.append_nil]
theorem marks_snoc (k n : Nat) : marks k (n + 1) = marks k n ++ [mkText (k + n)] := by
  induction n generalizing k with
  | zero => rfl
  | succ n ih =>
    rw [marks, ih (k + 1), marks]
    simp
    congr 1
    omega
theorem half_set {k j : Nat} {ss : List ByteArray} (h : j < ss.length) : (half k j ss).set j (mkText (k + j)) = half k (j + 1) ss := by
  unfold half
  have e : (marks k j).length = j := marks_length k j
  rw [List.set_append_right _ _ (by omega), e, Nat.sub_self, marks_snoc, List.drop_eq_getElem_cons h, List.set_cons_zero]
  simp

end Go.Proofs.YtchkmdagbjbcjaaGreatDoor
