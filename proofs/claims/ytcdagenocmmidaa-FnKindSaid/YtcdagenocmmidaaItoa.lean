/- Names as keys of maps. strconv.Itoa of numbers below a hundred. -/
import Derived.Test.YtcdagenocmmidaaUses
import Derived.Maps.Views
import Derived.Maps.OwnSet
import Derived.Maps.OwnOps
import Derived.DeepKeys4
import Derived.ProofKit
import Derived.Test.YtcdagenocmmidaaMathC
namespace Go.Proofs.Ytcdagenocmmidaa
set_option linter.unusedVariables false
open Go.RowKit Go.Maps
set_option maxRecDepth 100000

theorem laidOutN : laidOutB Try.prog = true := by kernel_rfl
theorem rowName : (61 : TypeId) < Try.prog.types.size := of_decide_eq_true (by kernel_rfl)
theorem wideName : (match Try.prog.underlying 61 with | some (.array _ _) | some (.struct _) => true | _ => false) = true := by kernel_rfl
theorem lawName : WideMaps.KeyLaw Try.prog 61 := deep_law_laid laidOutN (m := 2) (by omega) rowName (by kernel_rfl) wideName
theorem keyName : Keyed Try.prog 61 := Keyed.of_law lawName
theorem tiledName : Try.prog.tiled 2 61 = true := by kernel_rfl
theorem keyTypeName : Try.prog.keyType 61 = true := by kernel_rfl
theorem cellsOfName : Try.prog.cellsOf 61 = 2 := by kernel_rfl

/-- What a name reads as, as a key. -/
def nkey (s : Bs) : Lit := .string (keyBytes [.int .u8 (hdI s), .string s.tail])
theorem keyOf_name (c : UInt8) (d : Bs) (hd : d.length ≤ 9000) : keyOf Try.prog 61 (nameW (c :: d)) = some (nkey (c :: d)) := by
  unfold keyOf
  rw [Try.underlying61]
  have hf : (nameW (c :: d)).formed Try.prog 61 = true := by simp [Value.formed, Try.underlying61, cellsOfName]
  simp only [keyTypeName, hf, Bool.and_self, if_true]
  obtain ⟨m, hm⟩ : ∃ m, Try.prog.types.size = m + 1 := ⟨Try.prog.types.size - 1, (Nat.succ_pred_eq_of_pos (Nat.lt_of_le_of_lt (Nat.zero_le _) rowName)).symm⟩
  rw [hm]
  have hw : (Lit.int .u8 (c.toNat : Int)).wf = true := by
    have := c.toNat_lt
    simp [Lit.wf, IntKind.min, IntKind.max, IntKind.bits, IntKind.signed]
    omega
  have hs : (⟨d.toArray⟩ : ByteArray).size ≤ maxLen := by
    have e : (⟨d.toArray⟩ : ByteArray).size = d.length := by rw [ba_size]
    rw [e]; unfold maxLen; omega
  have e1 : Try.prog.keyLits (m + 1) 5 [.int .u8 c.toNat] = some [.int .u8 c.toNat] := by simp [Program.keyLits, Try.underlying5, hw]
  have e2 : Try.prog.keyLits (m + 1) 9 [str d] = some [.string d] := by
    simp only [Program.keyLits, Try.underlying9]
    rw [if_pos hs]
  have c1 : Try.prog.cellsOf 5 = 1 := by kernel_rfl
  have c2 : Try.prog.cellsOf 9 = 1 := by kernel_rfl
  have e3 : (nameW (c :: d)).cells.toList = [.int .u8 c.toNat, str d] := rfl
  rw [e3, Program.keyLits.eq_def]
  simp only [Try.underlying61]
  rw [if_pos ⟨by rw [cellsOfName]; rfl, by kernel_rfl⟩]
  simp only [List.mapM_cons, List.mapM_nil, c1, c2, List.drop_zero, List.drop_succ_cons, List.take_succ_cons, List.take_zero, e1, e2]
  rfl

theorem nkey_inj {s t : Bs} (hs : s ≠ []) (ht : t ≠ []) (hs4 : s.length ≤ 9000) (ht4 : t.length ≤ 9000) (h : nkey s = nkey t) : s = t := by
  cases s with
  | nil => exact absurd rfl hs
  | cons c d =>
    cases t with
    | nil => exact absurd rfl ht
    | cons e f =>
      have h1 := keyOf_name c d (by simp at hs4; omega)
      have h2 := keyOf_name e f (by simp at ht4; omega)
      rw [← h] at h2
      have h3 := keyOf_inj_deep tiledName wideName h1 h2
      injection h3 with h3
      have h4 := congrArg Array.toList h3
      simp only [List.cons.injEq, Value.int.injEq, Value.string.injEq, true_and, and_true, hdI, List.tail_cons] at h4
      refine (name_eq hs ht).1 ⟨h4.1, ?_⟩
      have := congrArg (fun b : ByteArray => b.data.toList) h4.2
      exact this

end Go.Proofs.Ytcdagenocmmidaa

namespace Go.Proofs.Ytcdagenocmmidaa
open Go.RowKit

theorem dig_at : ∀ i : Fin 10, (⟨#[48, 49, 50, 51, 52, 53, 54, 55, 56, 57, 97, 98, 99, 100, 101, 102, 103, 104, 105, 106, 107, 108, 109, 110, 111, 112, 113, 114, 115, 116, 117, 118, 119, 120, 121, 122]⟩ : ByteArray).extract i.val (i.val + 1) = ⟨(dec2 i.val).toArray⟩ := by decide +kernel
theorem two_at : ∀ i : Fin 100, 10 ≤ i.val → (⟨#[48, 48, 48, 49, 48, 50, 48, 51, 48, 52, 48, 53, 48, 54, 48, 55, 48, 56, 48, 57, 49, 48, 49, 49, 49, 50, 49, 51, 49, 52, 49, 53, 49, 54, 49, 55, 49, 56, 49, 57, 50, 48, 50, 49, 50, 50, 50, 51, 50, 52, 50, 53, 50, 54, 50, 55, 50, 56, 50, 57, 51, 48, 51, 49, 51, 50, 51, 51, 51, 52, 51, 53, 51, 54, 51, 55, 51, 56, 51, 57, 52, 48, 52, 49, 52, 50, 52, 51, 52, 52, 52, 53, 52, 54, 52, 55, 52, 56, 52, 57, 53, 48, 53, 49, 53, 50, 53, 51, 53, 52, 53, 53, 53, 54, 53, 55, 53, 56, 53, 57, 54, 48, 54, 49, 54, 50, 54, 51, 54, 52, 54, 53, 54, 54, 54, 55, 54, 56, 54, 57, 55, 48, 55, 49, 55, 50, 55, 51, 55, 52, 55, 53, 55, 54, 55, 55, 55, 56, 55, 57, 56, 48, 56, 49, 56, 50, 56, 51, 56, 52, 56, 53, 56, 54, 56, 55, 56, 56, 56, 57, 57, 48, 57, 49, 57, 50, 57, 51, 57, 52, 57, 53, 57, 54, 57, 55, 57, 56, 57, 57]⟩ : ByteArray).extract (i.val * 2) (i.val * 2 + 2) = ⟨(dec2 i.val).toArray⟩ := by decide +kernel

set_option maxRecDepth 100000 in
theorem small_any (i : Nat) (hi : i < 100) (w : World) : Calls Try.prog 142 #[.int .i64 i] w fun e w' => e = .returned (str (dec2 i)) ∧ w = w' := by
  by_cases h10 : i < 10
  · have h1 : (i : Int) < 10 := by omega
    have e := dig_at ⟨i, h10⟩
    simp only at e
    go_enter Try.func142, Try.ntmps142
    go_wp2_with fail
    go_ret
    exact ⟨rfl, rfl⟩
  · have h1 : ¬ (i : Int) < 10 := by omega
    have e := two_at ⟨i, hi⟩ (by simp only; omega)
    simp only at e
    go_enter Try.func142, Try.ntmps142
    go_wp2_with fail
    go_ret
    exact ⟨rfl, rfl⟩

set_option maxRecDepth 100000 in
theorem formatInt_any (i : Nat) (hi : i < 100) (w : World) : Calls Try.prog 141 #[.int .i64 i, .int .i64 10] w fun e w' => e = .returned (str (dec2 i)) ∧ w = w' := by
  have hs := Lib.hid (fun W => small_any i hi W)
  have h1 : (i : Int) < 100 := by omega
  go_enter Try.func141, Try.ntmps141
  go_wp2_with fail
  refine Calls.mono (hs.out _) ?_
  rintro e w1 ⟨rfl, rfl⟩
  go_wp2_with fail
  go_ret
  exact ⟨rfl, rfl⟩
theorem iItoa_any (i : Nat) (hi : i < 100) (w : World) : Calls Try.prog 140 #[.int .i64 i] w fun e w' => e = .returned (str (dec2 i)) ∧ w = w' := by
  have hs := Lib.hid (fun W => formatInt_any i hi W)
  go_enter Try.func140, Try.ntmps140
  go_wp2_with fail
  refine Calls.mono (hs.out _) ?_
  rintro e w1 ⟨rfl, rfl⟩
  go_wp2_with fail
  go_ret
  exact ⟨rfl, rfl⟩
theorem itoa_any (i : Nat) (hi : i < 100) (w : World) : Calls Try.prog 139 #[.int .i64 i] w fun e w' => e = .returned (str (dec2 i)) ∧ w = w' := by
  have hs := Lib.hid (fun W => iItoa_any i hi W)
  go_enter Try.func139, Try.ntmps139
  go_wp2_with fail
  refine Calls.mono (hs.out _) ?_
  rintro e w1 ⟨rfl, rfl⟩
  go_wp2_with fail
  go_ret
  exact ⟨rfl, rfl⟩

end Go.Proofs.Ytcdagenocmmidaa
