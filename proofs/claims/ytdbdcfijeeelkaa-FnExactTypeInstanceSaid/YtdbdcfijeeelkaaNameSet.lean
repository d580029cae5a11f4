/- Sets of names. -/
import Derived.Test.YtdbdcfijeeelkaaNameKey
namespace Go.Proofs.Ytdbdcfijeeelkaa
set_option linter.unusedVariables false
open Go.RowKit

open Go.Maps

theorem elemBoolN (x : Bool) : plainElem (H := Unit) Try.prog 4 (.bool x) = some (.lit (.bool x), []) := plainElem_bool Try.underlying4 x

/-- A set of names. -/
def nmap (L : List Bs) : DataW Unit := setOf (.lit (.bool true)) (L.map nkey)

theorem nmap_snoc (L : List Bs) (s : Bs) : nmap (L ++ [s]) = (nmap L).put (nkey s) (.lit (.bool true)) := by
  unfold nmap
  rw [List.map_append]
  exact setOf_snoc _ _ _

theorem nmap_isMap (L : List Bs) : IsMap (nmap L) := by
  unfold nmap setOf
  generalize L.map nkey = ks
  have : ∀ (ks : List Lit) (m : DataW Unit), IsMap m → IsMap (ks.foldl (fun m x => m.put x (.lit (.bool true))) m) := by
    intro ks
    induction ks with
    | nil => intro m h; exact h
    | cons k ks ih => intro m h; exact ih _ (h.put _ _)
  exact this ks _ isMap_empty

theorem nmap_at {s : Bs} (hs : s ≠ []) (hs4 : s.length ≤ 9000) (L : List Bs) (hL : ∀ x ∈ L, x ≠ [] ∧ x.length ≤ 9000) : (nmap L).atKey (nkey s) (.lit (.bool false)) = .lit (.bool (decide (s ∈ L))) := by
  have : ∀ R : List Bs, (∀ x ∈ R, x ≠ [] ∧ x.length ≤ 9000) → (nmap R.reverse).atKey (nkey s) (.lit (.bool false)) = .lit (.bool (decide (s ∈ R.reverse))) := by
    intro R
    induction R with
    | nil => intro _; rfl
    | cons t R ih =>
      intro hR
      rw [List.reverse_cons, nmap_snoc]
      by_cases h : t = s
      · subst h
        rw [atKey_put_same (nmap_isMap _) (by exact True.intro)]
        simp
      · have ht := hR t (by simp)
        rw [atKey_put_other (by intro e; exact h (nkey_inj hs ht.1 hs4 ht.2 e).symm), ih (fun x hx => hR x (List.mem_cons_of_mem _ hx))]
        simp [Ne.symm h]
  have h := this L.reverse (fun x hx => hL x (List.mem_reverse.1 hx))
  rwa [List.reverse_reverse] at h

/-- Block b is the map of just these names. -/
def FR (w : World) (b : Nat) (L : List Bs) : Prop := ∃ n, w.ownsMap (H := Unit) Try.prog 49 (plainElem Try.prog 4) b n (nmap L)

set_option maxRecDepth 100000 in
theorem FR.look {w : World} {b : Nat} {L : List Bs} (h : FR w b L) (hL : ∀ x ∈ L, x ≠ [] ∧ x.length ≤ 9000) (c : UInt8) (d : Bs) (hd : d.length ≤ 8000) :
    (Instr.lookup 80 (.map (some b)) (.agg #[.int .u8 c.toNat, .string ⟨d.toArray⟩]) false).run Try.prog w = .ok (.bool (decide ((c :: d) ∈ L))) w := by
  obtain ⟨n, h⟩ := h
  obtain ⟨v, ps, hrun, hv⟩ := h.lookup keyName Try.underlying80 (by kernel_rfl) (elemBoolN false) (keyOf_name c d (by omega))
  rw [nmap_at (by simp) (by simp; omega) L hL] at hv
  have hb : v = .bool (decide ((c :: d) ∈ L)) := by
    unfold plainElem at hv
    rw [Try.underlying4] at hv
    split at hv
    · cases hv; rfl
    · simp_all
    · simp_all
    · cases hv
  rw [← hb]
  exact hrun

theorem FR.kept {w w' : World} {b : Nat} {L : List Bs} (h : FR w b L) {row : Option Nat} (hg : w.grownBy w' row) (hne : some b ≠ row) : FR w' b L := by
  obtain ⟨n, h⟩ := h
  exact ⟨n, h.kept hg hne⟩

theorem FR.lt {w : World} {b : Nat} {L : List Bs} (h : FR w b L) : b < w.heap.size := by
  obtain ⟨n, h⟩ := h
  exact h.lt

end Go.Proofs.Ytdbdcfijeeelkaa
