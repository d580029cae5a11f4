/- Lists of names in memory. -/
import Derived.Test.YtaagbnbekfogiaaGreatDoorTree
namespace Go.Proofs.YtaagbnbekfogiaaGreatDoor
set_option linter.unusedVariables false
open Go.RowKit

def hdI : Bs → Int
  | [] => 0
  | c :: _ => c.toNat

def NV (s : Bs) : List Value := [.int .u8 (hdI s), str s.tail]

def NVs (l : List Bs) : List Value := l.flatMap NV

theorem NVs_len (l : List Bs) : (NVs l).length = l.length * 2 := by
  induction l with
  | nil => rfl
  | cons a l ih => simp [NVs, NV] at ih ⊢; omega

theorem NVs_append (a b : List Bs) : NVs (a ++ b) = NVs a ++ NVs b := by simp [NVs]

theorem NVs_at : ∀ {l : List Bs} {i : Nat} {s : Bs}, l[i]? = some s → (NVs l)[i * 2]? = some (.int .u8 (hdI s)) ∧ (NVs l)[i * 2 + 1]? = some (str s.tail)
  | [], i, s, h => by simp at h
  | a :: l, 0, s, h => by simp at h; subst h; exact ⟨rfl, rfl⟩
  | a :: l, i + 1, s, h => by
    obtain ⟨h1, h2⟩ := NVs_at (l := l) (i := i) (s := s) (by simpa using h)
    have e : NVs (a :: l) = .int .u8 (hdI a) :: str a.tail :: NVs l := rfl
    rw [e, show (i + 1) * 2 = i * 2 + 1 + 1 from by omega]
    exact ⟨by simpa using h1, by simpa using h2⟩

theorem NVs_one (l : List Bs) : ∀ u ∈ NVs l, u.oneCell' = true := by
  intro u hu
  simp only [NVs, List.mem_flatMap, NV] at hu
  obtain ⟨s, -, hu⟩ := hu
  simp at hu
  rcases hu with rfl | rfl <;> rfl

theorem name_eq {s t : Bs} (hs : s ≠ []) (ht : t ≠ []) : (hdI s = hdI t ∧ s.tail = t.tail) ↔ s = t := by
  cases s with
  | nil => exact absurd rfl hs
  | cons c d =>
    cases t with
    | nil => exact absurd rfl ht
    | cons e f =>
      simp only [hdI, List.tail_cons, List.cons.injEq]
      constructor
      · rintro ⟨h1, h2⟩; exact ⟨UInt8.toNat_inj.1 (by omega), h2⟩
      · rintro ⟨h1, h2⟩; rw [h1]; exact ⟨rfl, h2⟩

/-- The slice (A, n) reads as the names l. -/
def RowN (w : World) (A : Option Addr) (n : Nat) (l : List Bs) : Prop :=
  n = l.length ∧ (0 < n → ∃ b o, A = some ⟨b, o, none⟩ ∧ b < w.heap.size ∧ ∀ (i : Nat) (s : Bs), l[i]? = some s → w.cell? ⟨b, o + i * 2, none⟩ = some (.int .u8 (hdI s)) ∧ w.cell? ⟨b, o + i * 2 + 1, none⟩ = some (str s.tail))

theorem RowN.below {w w' : World} {A : Option Addr} {n : Nat} {l : List Bs} (h : RowN w A n l) (hb : Below w.heap.size w w') : RowN w' A n l := by
  refine ⟨h.1, fun hn => ?_⟩
  obtain ⟨b, o, e, hlt, hc⟩ := h.2 hn
  exact ⟨b, o, e, Nat.lt_of_lt_of_le hlt hb.size, fun i s hi => ⟨(hb.cell (p := ⟨b, o + i * 2, none⟩) hlt).trans (hc i s hi).1, (hb.cell (p := ⟨b, o + i * 2 + 1, none⟩) hlt).trans (hc i s hi).2⟩⟩

theorem RowN.of_own {w : World} {base : Nat} {E : TypeId} {A : Option Addr} {n c : Nat} {l : List Bs} (h : w.ownsRow base E 2 (.slice A n c) n (NVs l)) : RowN w A n l := by
  refine ⟨by have := h.1; rw [NVs_len] at this; omega, fun hn => ?_⟩
  obtain ⟨g, cap, hv, _, hlt⟩ := h.form hn
  have hA : A = some ⟨g, 0, none⟩ := by injection hv
  subst hA
  refine ⟨g, 0, rfl, hlt, fun i s hi => ?_⟩
  obtain ⟨h1, h2⟩ := NVs_at hi
  have k1 := h.cells (g := g) rfl _ _ h1
  have k2 := h.cells (g := g) rfl _ _ h2
  have e : ∀ j, ({ block := g, off := 0, spot := none } : Addr).add j = ⟨g, 0 + j, none⟩ := by intro j; unfold Addr.add; split <;> simp_all
  rw [e] at k1 k2
  exact ⟨k1, by rw [Nat.add_assoc]; exact k2⟩

/-- A call hands back a row of its own with the names l. -/
def UPost (l : List Bs) (w : World) (e : Ending) (w' : World) : Prop :=
  ∃ A c, e = .returned (.slice A l.length c) ∧ w'.ownsRow w.heap.size 41 2 (.slice A l.length c) l.length (NVs l) ∧ Below w.heap.size w w'

theorem infoName : (Tryz.prog.info? 41).map (fun i => (i.zero, i.size, i.bytes)) = some (some (.agg #[.int .u8 0, .string ⟨#[]⟩]), 2, 24) := by kernel_rfl

abbrev nameW (s : Bs) : Value := .agg #[.int .u8 (hdI s), str s.tail]

theorem add_cells {w : World} {g : Nat} {cs : List Value} {E : TypeId} {fr : Nat × Nat} (h : w.heap[g]? = some (.cells cs.toArray E fr)) (j : Nat) (u : Value) (hu : cs[j]? = some u) : w.cell? ((⟨g, 0, none⟩ : Addr).add j) = some u := by
  have e : ({ block := g, off := 0, spot := none } : Addr).add j = ⟨g, j, none⟩ := by unfold Addr.add; split <;> simp_all
  rw [e]
  exact block_cells h j u (by simpa using hu)

theorem bb_alloc2 {B : Nat} {w0 W : World} (h : Below B w0 W) (o o' : Obj) (hB : B ≤ w0.heap.size) : Below B w0 ((W.alloc o).alloc o') := (h.alloc (Nat.le_trans hB h.size) o).alloc (by have := h.size; simp; omega) o'

end Go.Proofs.YtaagbnbekfogiaaGreatDoor
