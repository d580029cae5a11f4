/- What spec.TypeInstance looks at first, and what instB makes of it. -/
import Derived.Test.YtdbdcfijeeelkaaTyAll2
import Derived.Test.YtdbdcfijeeelkaaMatchN
import Derived.Test.YtdbdcfijeeelkaaInstI
namespace Go.Proofs.Ytdbdcfijeeelkaa
set_option linter.unusedVariables false
open Go.RowKit

theorem mapNodup {ss : List ByteArray} : (ss.map fun s => s.data.toList).Nodup ↔ ss.Nodup := by
  induction ss with
  | nil => simp
  | cons a l ih =>
    rw [List.map_cons, List.nodup_cons, List.nodup_cons, ih]
    have : a.data.toList ∈ l.map (fun s => s.data.toList) ↔ a ∈ l := by
      rw [List.mem_map]
      exact ⟨fun ⟨x, h1, h2⟩ => by
        have : x = a := by
          cases x; cases a; simp only [ByteArray.mk.injEq]; exact Array.toList_inj.1 h2
        exact this ▸ h1, fun h => ⟨a, h, rfl⟩⟩
    rw [this]
theorem allN_ty {ss ts : List ByteArray} {s : ByteArray} (h : (allN ss ts && (readWh s).isSome) = true) : ∃ y, readTy ss ts s = some y ∧ y.ns.Nodup ∧ y.ns = ss.map (fun s => s.data.toList) ∧ readFs ts = some y.fs ∧ readWh s = some y.wh := by
  unfold allN at h
  simp only [Bool.and_eq_true, decide_eq_true_eq] at h
  obtain ⟨⟨⟨⟨h1, h2⟩, h3⟩, h4⟩, h5⟩ := h
  obtain ⟨a, ha⟩ := Option.isSome_iff_exists.1 h2
  obtain ⟨b, hb⟩ := Option.isSome_iff_exists.1 h3
  obtain ⟨c, hc⟩ := Option.isSome_iff_exists.1 h5
  have e := readNs_map ha
  exact ⟨⟨a, b, c⟩, by rw [readTy, if_pos h1, ha, hb, hc], by show a.Nodup; rw [e]; exact mapNodup.2 h4, e, hb, hc⟩
theorem allN_not {ss ts : List ByteArray} {s : ByteArray} (h : (allN ss ts && (readWh s).isSome) = false) {y : Ty} (hy : readTy ss ts s = some y) : ¬ y.ns.Nodup := by
  obtain ⟨h1, h2, h3, h4⟩ := readTy_inv hy
  intro hn
  rw [readNs_map h2] at hn
  have h5 := mapNodup.1 hn
  have : (allN ss ts && (readWh s).isSome) = true := by unfold allN; simp [h1, h2, h3, h4, h5]
  rw [this] at h; cases h

/-- What spec.TypeInstance looks at first. -/
def preI (ss ts : List ByteArray) (s : ByteArray) (ss' ts' : List ByteArray) (s' : ByteArray) : Bool := (allN ss ts && (readWh s).isSome) && (allN ss' ts' && (readWh s').isSome) && decide (ss.length = ss'.length) && (decide (s.size = 0) == decide (s'.size = 0))
theorem preI_not {ss ts : List ByteArray} {s : ByteArray} {ss' ts' : List ByteArray} {s' : ByteArray} (h : preI ss ts s ss' ts' s' = false) : instB (readTy ss ts s) (readTy ss' ts' s') = false := by
  cases h1 : readTy ss ts s with
  | none => rfl
  | some y =>
    cases h2 : readTy ss' ts' s' with
    | none => rfl
    | some z =>
      by_cases hn : y.ns.Nodup
      · by_cases he : y.ns = z.ns
        · obtain ⟨a1, a2, a3, a4⟩ := readTy_inv h1
          obtain ⟨b1, b2, b3, b4⟩ := readTy_inv h2
          have g1 : (allN ss ts && (readWh s).isSome) = true := by
            cases hg : (allN ss ts && (readWh s).isSome) with
            | true => rfl
            | false => exact absurd hn (allN_not hg h1)
          have g2 : (allN ss' ts' && (readWh s').isSome) = true := by
            cases hg : (allN ss' ts' && (readWh s').isSome) with
            | true => rfl
            | false => exact absurd (he ▸ hn) (allN_not hg h2)
          have g3 : ss.length = ss'.length := by rw [← readNs_length a2, ← readNs_length b2, he]
          unfold preI at h
          rw [g1, g2, decide_eq_true g3] at h
          simp only [Bool.and_self, Bool.true_and, beq_eq_false_iff_ne, ne_eq, decide_eq_decide] at h
          have hw : instW y.wh z.wh ((instAll y.fs z.fs []).getD []) = false := by
            by_cases hs : s.size = 0
            · have hs' : s'.size ≠ 0 := fun e => h ⟨fun _ => e, fun _ => hs⟩
              rw [readWh_empty hs] at a4
              rw [readWh_full hs'] at b4
              injection a4 with a4
              rw [← a4]
              cases hr : readF s'.data.toList with
              | none => rw [hr] at b4; cases b4
              | some f => rw [hr] at b4; injection b4 with b4; rw [← b4]; rfl
            · have hs' : s'.size = 0 := by
                by_cases hs' : s'.size = 0
                · exact hs'
                · exact absurd ⟨fun e => absurd e hs, fun e => absurd e hs'⟩ h
              rw [readWh_empty hs'] at b4
              rw [readWh_full hs] at a4
              injection b4 with b4
              rw [← b4]
              cases hr : readF s.data.toList with
              | none => rw [hr] at a4; cases a4
              | some f => rw [hr] at a4; injection a4 with a4; rw [← a4]; rfl
          show (decide y.ns.Nodup && decide (y.ns = z.ns) && instTy y z) = false
          have : instTy y z = false := by
            unfold instTy
            cases hi : instAll y.fs z.fs [] with
            | none => rfl
            | some m => rw [hi] at hw; exact hw
          rw [this, Bool.and_false]
        · show (decide y.ns.Nodup && decide (y.ns = z.ns) && instTy y z) = false
          rw [decide_eq_false he]; simp
      · show (decide y.ns.Nodup && decide (y.ns = z.ns) && instTy y z) = false
        rw [decide_eq_false hn]; simp

/-- A tree that stands in some world, seen from a later one. -/
theorem TC.here {w W : World} {D : Nat → Prop} {t : T} {a : ByteArray} {p : Option Addr} {n c : Nat} (h : TC w D t a p n c) (hD : ∀ g, D g → g < w.heap.size) (hW : Below w.heap.size w W) : TC W (fun g => g < W.heap.size) t a p n c :=
  TC.keep (fun g hg => hW.block g (hD g hg)) (fun g hg => Nat.lt_of_lt_of_le (hD g hg) hW.size) _ _ _ _ _ h

end Go.Proofs.Ytdbdcfijeeelkaa
