/- Names as keys of maps. -/
import Derived.Test.YtdbdcfijeeelkaaRowNm
import Derived.Maps.Views
import Derived.Maps.OwnSet
import Derived.Maps.OwnOps
import Derived.DeepKeys4
import Derived.ProofKit
namespace Go.Proofs.Ytdbdcfijeeelkaa
set_option linter.unusedVariables false
open Go.RowKit Go.Maps
set_option maxRecDepth 100000

theorem laidOutN : laidOutB Try.prog = true := by kernel_rfl
theorem rowName : (49 : TypeId) < Try.prog.types.size := of_decide_eq_true (by kernel_rfl)
theorem wideName : (match Try.prog.underlying 49 with | some (.array _ _) | some (.struct _) => true | _ => false) = true := by kernel_rfl
theorem lawName : WideMaps.KeyLaw Try.prog 49 := deep_law_laid laidOutN (m := 2) (by omega) rowName (by kernel_rfl) wideName
theorem keyName : Keyed Try.prog 49 := Keyed.of_law lawName
theorem tiledName : Try.prog.tiled 2 49 = true := by kernel_rfl
theorem keyTypeName : Try.prog.keyType 49 = true := by kernel_rfl
theorem cellsOfName : Try.prog.cellsOf 49 = 2 := by kernel_rfl

/-- What a name reads as, as a key. -/
def nkey (s : Bs) : Lit := .string (keyBytes [.int .u8 (hdI s), .string s.tail])
theorem keyOf_name (c : UInt8) (d : Bs) (hd : d.length ≤ 9000) : keyOf Try.prog 49 (nameW (c :: d)) = some (nkey (c :: d)) := by
  unfold keyOf
  rw [Try.underlying49]
  have hf : (nameW (c :: d)).formed Try.prog 49 = true := by simp [Value.formed, Try.underlying49, cellsOfName]
  simp only [keyTypeName, hf, Bool.and_self, if_true]
  obtain ⟨m, hm⟩ : ∃ m, Try.prog.types.size = m + 1 := ⟨Try.prog.types.size - 1, (Nat.succ_pred_eq_of_pos (Nat.lt_of_le_of_lt (Nat.zero_le _) rowName)).symm⟩
  rw [hm]
  have hw : (Lit.int .u8 (c.toNat : Int)).wf = true := by
    have := c.toNat_lt
    simp [Lit.wf, IntKind.min, IntKind.max, IntKind.bits, IntKind.signed]
    omega
  have hs : (⟨d.toArray⟩ : ByteArray).size ≤ maxLen := by
    have e : (⟨d.toArray⟩ : ByteArray).size = d.length := by rw [ba_size]
    rw [e]; unfold maxLen; omega
  have e1 : Try.prog.keyLits (m + 1) 5 [.int .u8 c.toNat] = some [.int .u8 c.toNat] := by simp [Program.keyLits, Try.underlying5, hw]
  have e2 : Try.prog.keyLits (m + 1) 9 [str d] = some [.string d] := by
    simp only [Program.keyLits, Try.underlying9]
    rw [if_pos hs]
  have c1 : Try.prog.cellsOf 5 = 1 := by kernel_rfl
  have c2 : Try.prog.cellsOf 9 = 1 := by kernel_rfl
  have e3 : (nameW (c :: d)).cells.toList = [.int .u8 c.toNat, str d] := rfl
  rw [e3, Program.keyLits.eq_def]
  simp only [Try.underlying49]
  rw [if_pos ⟨by rw [cellsOfName]; rfl, by kernel_rfl⟩]
  simp only [List.mapM_cons, List.mapM_nil, c1, c2, List.drop_zero, List.drop_succ_cons, List.take_succ_cons, List.take_zero, e1, e2]
  rfl

theorem nkey_inj {s t : Bs} (hs : s ≠ []) (ht : t ≠ []) (hs4 : s.length ≤ 9000) (ht4 : t.length ≤ 9000) (h : nkey s = nkey t) : s = t := by
  cases s with
  | nil => exact absurd rfl hs
  | cons c d =>
    cases t with
    | nil => exact absurd rfl ht
    | cons e f =>
      have h1 := keyOf_name c d (by simp at hs4; omega)
      have h2 := keyOf_name e f (by simp at ht4; omega)
      rw [← h] at h2
      have h3 := keyOf_inj_deep tiledName wideName h1 h2
      injection h3 with h3
      have h4 := congrArg Array.toList h3
      simp only [List.cons.injEq, Value.int.injEq, Value.string.injEq, true_and, and_true, hdI, List.tail_cons] at h4
      refine (name_eq hs ht).1 ⟨h4.1, ?_⟩
      have := congrArg (fun b : ByteArray => b.data.toList) h4.2
      exact this

end Go.Proofs.Ytdbdcfijeeelkaa
