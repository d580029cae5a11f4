/- Names as keys of maps. Sets of names. -/
import Derived.Test.YtaagbnbekfogiaaGreatDoorRowNm
import Derived.Maps.Views
import Derived.Maps.OwnSet
import Derived.Maps.OwnOps
import Derived.DeepKeys4
import Derived.ProofKit
namespace Go.Proofs.YtaagbnbekfogiaaGreatDoor
set_option linter.unusedVariables false
open Go.RowKit Go.Maps
set_option maxRecDepth 100000

theorem laidOutN : laidOutB Tryz.prog = true := by kernel_rfl
theorem rowName : (41 : TypeId) < Tryz.prog.types.size := of_decide_eq_true (by kernel_rfl)
theorem wideName : (match Tryz.prog.underlying 41 with | some (.array _ _) | some (.struct _) => true | _ => false) = true := by kernel_rfl
theorem lawName : WideMaps.KeyLaw Tryz.prog 41 := deep_law_laid laidOutN (m := 2) (by omega) rowName (by kernel_rfl) wideName
theorem keyName : Keyed Tryz.prog 41 := Keyed.of_law lawName
theorem tiledName : Tryz.prog.tiled 2 41 = true := by kernel_rfl
theorem keyTypeName : Tryz.prog.keyType 41 = true := by kernel_rfl
theorem cellsOfName : Tryz.prog.cellsOf 41 = 2 := by kernel_rfl

/-- What a name reads as, as a key. -/
def nkey (s : Bs) : Lit := .string (keyBytes [.int .u8 (hdI s), .string s.tail])
theorem keyOf_name (c : UInt8) (d : Bs) (hd : d.length ≤ 9000) : keyOf Tryz.prog 41 (nameW (c :: d)) = some (nkey (c :: d)) := by
  unfold keyOf
  rw [Tryz.underlying41]
  have hf : (nameW (c :: d)).formed Tryz.prog 41 = true := by simp [Value.formed, Tryz.underlying41, cellsOfName]
  simp only [keyTypeName, hf, Bool.and_self, if_true]
  obtain ⟨m, hm⟩ : ∃ m, Tryz.prog.types.size = m + 1 := ⟨Tryz.prog.types.size - 1, (Nat.succ_pred_eq_of_pos (Nat.lt_of_le_of_lt (Nat.zero_le _) rowName)).symm⟩
  rw [hm]
  have hw : (Lit.int .u8 (c.toNat : Int)).wf = true := by
    have := c.toNat_lt
    simp [Lit.wf, IntKind.min, IntKind.max, IntKind.bits, IntKind.signed]
    omega
  have hs : (⟨d.toArray⟩ : ByteArray).size ≤ maxLen := by
    have e : (⟨d.toArray⟩ : ByteArray).size = d.length := by rw [ba_size]
    rw [e]; unfold maxLen; omega
  have e1 : Tryz.prog.keyLits (m + 1) 5 [.int .u8 c.toNat] = some [.int .u8 c.toNat] := by simp [Program.keyLits, Tryz.underlying5, hw]
  have e2 : Tryz.prog.keyLits (m + 1) 9 [str d] = some [.string d] := by
    simp only [Program.keyLits, Tryz.underlying9]
    rw [if_pos hs]
  have c1 : Tryz.prog.cellsOf 5 = 1 := by kernel_rfl
  have c2 : Tryz.prog.cellsOf 9 = 1 := by kernel_rfl
  have e3 : (nameW (c :: d)).cells.toList = [.int .u8 c.toNat, str d] := rfl
  rw [e3, Program.keyLits.eq_def]
  simp only [Tryz.underlying41]
  rw [if_pos ⟨by rw [cellsOfName]; rfl, by kernel_rfl⟩]
  simp only [List.mapM_cons, List.mapM_nil, c1, c2, List.drop_zero, List.drop_succ_cons, List.take_succ_cons, List.take_zero, e1, e2]
  rfl

theorem nkey_inj {s t : Bs} (hs : s ≠ []) (ht : t ≠ []) (hs4 : s.length ≤ 9000) (ht4 : t.length ≤ 9000) (h : nkey s = nkey t) : s = t := by
  cases s with
  | nil => exact absurd rfl hs
  | cons c d =>
    cases t with
    | nil => exact absurd rfl ht
    | cons e f =>
      have h1 := keyOf_name c d (by simp at hs4; omega)
      have h2 := keyOf_name e f (by simp at ht4; omega)
      rw [← h] at h2
      have h3 := keyOf_inj_deep tiledName wideName h1 h2
      injection h3 with h3
      have h4 := congrArg Array.toList h3
      simp only [List.cons.injEq, Value.int.injEq, Value.string.injEq, true_and, and_true, hdI, List.tail_cons] at h4
      refine (name_eq hs ht).1 ⟨h4.1, ?_⟩
      have := congrArg (fun b : ByteArray => b.data.toList) h4.2
      exact this

end Go.Proofs.YtaagbnbekfogiaaGreatDoor

namespace Go.Proofs.YtaagbnbekfogiaaGreatDoor
set_option linter.unusedVariables false
open Go.RowKit

open Go.Maps

theorem elemBoolN (x : Bool) : plainElem (H := Unit) Tryz.prog 4 (.bool x) = some (.lit (.bool x), []) := plainElem_bool Tryz.underlying4 x

/-- A set of names. -/
def nmap (L : List Bs) : DataW Unit := setOf (.lit (.bool true)) (L.map nkey)

theorem nmap_snoc (L : List Bs) (s : Bs) : nmap (L ++ [s]) = (nmap L).put (nkey s) (.lit (.bool true)) := by
  unfold nmap
  rw [List.map_append]
  exact setOf_snoc _ _ _

theorem nmap_isMap (L : List Bs) : IsMap (nmap L) := by
  unfold nmap setOf
  generalize L.map nkey = ks
  have : ∀ (ks : List Lit) (m : DataW Unit), IsMap m → IsMap (ks.foldl (fun m x => m.put x (.lit (.bool true))) m) := by
    intro ks
    induction ks with
    | nil => intro m h; exact h
    | cons k ks ih => intro m h; exact ih _ (h.put _ _)
  exact this ks _ isMap_empty

theorem nmap_at {s : Bs} (hs : s ≠ []) (hs4 : s.length ≤ 9000) (L : List Bs) (hL : ∀ x ∈ L, x ≠ [] ∧ x.length ≤ 9000) : (nmap L).atKey (nkey s) (.lit (.bool false)) = .lit (.bool (decide (s ∈ L))) := by
  have : ∀ R : List Bs, (∀ x ∈ R, x ≠ [] ∧ x.length ≤ 9000) → (nmap R.reverse).atKey (nkey s) (.lit (.bool false)) = .lit (.bool (decide (s ∈ R.reverse))) := by
    intro R
    induction R with
    | nil => intro _; rfl
    | cons t R ih =>
      intro hR
      rw [List.reverse_cons, nmap_snoc]
      by_cases h : t = s
      · subst h
        rw [atKey_put_same (nmap_isMap _) (by exact True.intro)]
        simp
      · have ht := hR t (by simp)
        rw [atKey_put_other (by intro e; exact h (nkey_inj hs ht.1 hs4 ht.2 e).symm), ih (fun x hx => hR x (List.mem_cons_of_mem _ hx))]
        simp [Ne.symm h]
  have h := this L.reverse (fun x hx => hL x (List.mem_reverse.1 hx))
  rwa [List.reverse_reverse] at h

/-- Block b is the map of just these names. -/
def FR (w : World) (b : Nat) (L : List Bs) : Prop := ∃ n, w.ownsMap (H := Unit) Tryz.prog 41 (plainElem Tryz.prog 4) b n (nmap L)

set_option maxRecDepth 100000 in
theorem FR.look {w : World} {b : Nat} {L : List Bs} (h : FR w b L) (hL : ∀ x ∈ L, x ≠ [] ∧ x.length ≤ 9000) (c : UInt8) (d : Bs) (hd : d.length ≤ 8000) :
    (Instr.lookup 117 (.map (some b)) (.agg #[.int .u8 c.toNat, .string ⟨d.toArray⟩]) false).run Tryz.prog w = .ok (.bool (decide ((c :: d) ∈ L))) w := by
  obtain ⟨n, h⟩ := h
  obtain ⟨v, ps, hrun, hv⟩ := h.lookup keyName Tryz.underlying117 (by kernel_rfl) (elemBoolN false) (keyOf_name c d (by omega))
  rw [nmap_at (by simp) (by simp; omega) L hL] at hv
  have hb : v = .bool (decide ((c :: d) ∈ L)) := by
    unfold plainElem at hv
    rw [Tryz.underlying4] at hv
    split at hv
    · cases hv; rfl
    · simp_all
    · simp_all
    · cases hv
  rw [← hb]
  exact hrun

theorem FR.kept {w w' : World} {b : Nat} {L : List Bs} (h : FR w b L) {row : Option Nat} (hg : w.grownBy w' row) (hne : some b ≠ row) : FR w' b L := by
  obtain ⟨n, h⟩ := h
  exact ⟨n, h.kept hg hne⟩

theorem FR.lt {w : World} {b : Nat} {L : List Bs} (h : FR w b L) : b < w.heap.size := by
  obtain ⟨n, h⟩ := h
  exact h.lt

end Go.Proofs.YtaagbnbekfogiaaGreatDoor
