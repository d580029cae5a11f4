/- spec.l1Head and spec.l1Atoms. -/
import Derived.Test.YtaagbnbekfogiaaGreatDoorText
import Derived.Test.YtaagbnbekfogiaaGreatDoorDig
namespace Go.Proofs.YtaagbnbekfogiaaGreatDoor
set_option linter.unusedVariables false
open Go.RowKit

theorem head_atom (s : Bs) (hs : s ≠ []) (w : World) : Calls Tryz.prog 73 #[.agg #[.string ⟨s.toArray⟩, .slice none 0 0]] w fun e w' => e = .returned (str []) ∧ Below w.heap.size w w' := by
  have he : s.isEmpty = false := by cases s with
    | nil => exact absurd rfl hs
    | cons => rfl
  go_enter Tryz.func73, Tryz.ntmps73
  go_wp2_with fail
  go_ret
  exact ⟨rfl, (by repeat (with_reducible first | exact hbel | exact Below.refl _ _ | refine Below.drew ?_ | refine Below.drewN ?_ _ | refine Below.alloc ?_ (by first | (simp; done) | (simp; omega) | omega | (have := Below.size hbel; simp; omega) | (have := Below.size hbel; omega)) _ | refine Below.setCell ?_ (by first | (simp; done) | (simp; omega) | omega) _))⟩

theorem head_some (g n c : Nat) (a0 : ByteArray) (hn : 1 ≤ n) (w : World) (h0 : w.cell? ⟨g, 0, none⟩ = some (.string a0)) (hg : g < w.heap.size) :
    Calls Tryz.prog 73 #[.agg #[.string ⟨#[]⟩, .slice (some ⟨g, 0, none⟩) n c]] w fun e w' => e = .returned (.string a0) ∧ Below w.heap.size w w' := by
  have hn' : ((n : Int) == 0) = false := by rw [beq_eq_false_iff_ne]; omega
  go_enter Tryz.func73, Tryz.ntmps73
  go_wp2_with fail
  go_ret
  exact ⟨rfl, (by repeat (with_reducible first | exact hbel | exact Below.refl _ _ | refine Below.drew ?_ | refine Below.drewN ?_ _ | refine Below.alloc ?_ (by first | (simp; done) | (simp; omega) | omega | (have := Below.size hbel; simp; omega) | (have := Below.size hbel; omega)) _ | refine Below.setCell ?_ (by first | (simp; done) | (simp; omega) | omega) _))⟩

theorem head_none (A : Option Addr) (c : Nat) (w : World) :
    Calls Tryz.prog 73 #[.agg #[.string ⟨#[]⟩, .slice A 0 c]] w fun e w' => e = .returned (.string ⟨#[]⟩) ∧ Below w.heap.size w w' := by
  go_enter Tryz.func73, Tryz.ntmps73
  go_wp2_with fail
  go_ret
  exact ⟨rfl, (by repeat (with_reducible first | exact hbel | exact Below.refl _ _ | refine Below.drew ?_ | refine Below.drewN ?_ _ | refine Below.alloc ?_ (by first | (simp; done) | (simp; omega) | omega | (have := Below.size hbel; simp; omega) | (have := Below.size hbel; omega)) _ | refine Below.setCell ?_ (by first | (simp; done) | (simp; omega) | omega) _))⟩

/-- The first atom of a node, in whatever later world. -/
theorem head_node {w : World} {D : Nat → Prop} {ps : List T} {a : ByteArray} {p : Option Addr} {n c : Nat} (ht : TC w D (.node ps) a p n c) (hD : ∀ g, D g → g < w.heap.size) :
    ∃ a0 : ByteArray, a0.toList = headOf ps ∧ ∀ W, Below w.heap.size w W → Calls Tryz.prog 73 #[.agg #[.string a, .slice p n c]] W fun e w' => e = .returned (.string a0) ∧ Below W.heap.size W w' := by
  obtain ⟨rfl, hn, g, rfl, hg, hp⟩ := ht.part
  cases ps with
  | nil =>
    have hn' : n = 0 := hn
    subst hn'
    exact ⟨⟨#[]⟩, by rw [Lib.toList_data]; rfl, fun W _ => head_none _ _ W⟩
  | cons x r =>
    obtain ⟨a0, p0, n0, c0, x0, x1, t0⟩ := hp 0 x rfl
    refine ⟨a0, t0.text, fun W hW => head_some g n c a0 (by rw [hn]; simp) W ?_ (Nat.lt_of_lt_of_le (hD g hg) hW.size)⟩
    rw [hW.cell (p := ⟨g, 0, none⟩) (hD g hg)]
    simpa using x0

theorem ba_of_toList {a : ByteArray} {l : Bs} (h : a.toList = l) : a = ⟨l.toArray⟩ := by
  rw [Lib.toList_data] at h
  subst h
  rfl
/-- The same, the atom written out. -/
theorem head_lit {w : World} {D : Nat → Prop} {ps : List T} {a : ByteArray} {p : Option Addr} {n c : Nat} (ht : TC w D (.node ps) a p n c) (hD : ∀ g, D g → g < w.heap.size) (W : World) (hW : Below w.heap.size w W) :
    Calls Tryz.prog 73 #[.agg #[.string a, .slice p n c]] W fun e w' => e = .returned (.string ⟨(headOf ps).toArray⟩) ∧ Below W.heap.size W w' := by
  obtain ⟨a0, h0, hc⟩ := head_node ht hD
  rw [← ba_of_toList h0]
  exact hc W hW

def AT (k : Nat) : Prop := ∀ (t : T) (w : World) (D : Nat → Prop) (a : ByteArray) (p : Option Addr) (n c : Nat), t.sz ≤ k → TC w D t a p n c → (∀ g, D g → g < w.heap.size) →
  Calls Tryz.prog 40 #[.agg #[.string a, .slice p n c]] w fun e w' => e = .returned (.int .i64 t.atoms) ∧ Below w.heap.size w w'

theorem atoms_node (k : Nat) (H : Hid (AT k)) (ps : List T) (w : World) (D : Nat → Prop) (a : ByteArray) (p : Option Addr) (n c : Nat) (hk : (T.node ps).sz ≤ k + 1) (hk9 : k ≤ 9000) (ht : TC w D (.node ps) a p n c) (hD : ∀ g, D g → g < w.heap.size) :
    Calls Tryz.prog 40 #[.agg #[.string a, .slice p n c]] w fun e w' => e = .returned (.int .i64 (T.node ps).atoms) ∧ Below w.heap.size w w' := by
  obtain ⟨rfl, rfl, g, rfl, hg, hp⟩ := ht.part
  have hlen : ps.length ≤ 9000 := by
    have h1 := length_sz ps
    rw [T.sz.eq_2] at hk
    omega
  have hp' := Lib.hid hp
  have hD' := Lib.hid hD
  have hgw := hD g hg
  clear hp ht hD hg
  go_enter Tryz.func40, Tryz.ntmps40
  go_wp2_with fail
  go_loopw [3, 4] (fun v i wr => ∃ j : Nat, j ≤ ps.length ∧ i = .int .i64 j ∧ v = .int .i64 (atomsAll (ps.take j) : Nat) ∧ Below w.heap.size w wr ∧ wr.heap[w.heap.size]? = some (.cells #[.string ⟨#[]⟩, .slice (some ⟨g, 0, none⟩) ps.length c] 29 (0, 0)))
    (fun _ i _ => ps.length - (intOf i).toNat)
  case atStart => exact ⟨0, Nat.zero_le _, rfl, rfl, (by repeat (with_reducible first | exact hbel | exact Below.refl _ _ | refine Below.drew ?_ | refine Below.drewN ?_ _ | refine Below.alloc ?_ (by first | (simp; done) | (simp; omega) | omega | (have := Below.size hbel; simp; omega) | (have := Below.size hbel; omega)) _ | refine Below.setCell ?_ (by first | (simp; done) | (simp; omega) | omega) _)), heap_alloc_new _ _⟩
  case round =>
    obtain ⟨j, hj, rfl, rfl, hbel, hbox⟩ := hrel
    obtain ⟨z0, b0, b1, -, -⟩ := two_cells hbox
    have hbox' := Lib.hid hbox
    have hbel' := Lib.hid hbel
    clear hbox
    by_cases hlt : j < ps.length
    · obtain ⟨t, htj⟩ : ∃ t, ps[j]? = some t := ⟨ps[j], List.getElem?_eq_getElem hlt⟩
      obtain ⟨a1, p1, n1, c1, x0, x1, t1⟩ := hp'.out j t htj
      have y0 := (hbel.cell (p := ⟨g, j * 2, none⟩) hgw).trans x0
      have y1 := (hbel.cell (p := ⟨g, j * 2 + 1, none⟩) hgw).trans x1
      have htj' := Lib.hid htj
      have t1' := Lib.hid t1
      clear x0 x1 t1 htj hbel
      have hs1 := atomsAll_take htj'.out
      have hs2 := atomsAll_take_le ps (j + 1)
      have hs3 := atomsAll_sz ps
      have hsum : atomsAll (ps.take j) + t.atoms ≤ 9000 := by rw [T.sz.eq_2] at hk; omega
      have hs1' := Lib.hid hs1
      have htk : t.sz ≤ k := by have := T.sz_part htj'.out; omega
      clear hs1 hs2 hs3
      go_wp2_with fail
      refine (H.out t _ D a1 p1 n1 c1 htk (t1'.out.below hbel'.out hD'.out) (fun g hg => by have := hD'.out g hg; omega)).mono ?_
      rintro e w1 ⟨rfl, hb1⟩
      go_wp2_with fail
      go_roundw
      case rel =>
        exact ⟨j + 1, by omega, by go_num, by rw [hs1'.out]; go_num, below_step hbel'.out (Nat.le_refl _) hb1, (hb1.block _ (by omega)).trans hbox'.out⟩
      case measure => simp [intOf]; omega
    · have hjl : j = ps.length := by omega
      have hjl' := Lib.hid hjl
      clear hjl
      go_wp2_with fail
      go_ret
      exact ⟨ret_int (by rw [hjl'.out, List.take_length, T.atoms.eq_2]), hbel'.out⟩

theorem atoms_atom (s : Bs) (hs : s ≠ []) (w : World) : Calls Tryz.prog 40 #[.agg #[.string ⟨s.toArray⟩, .slice none 0 0]] w fun e w' => e = .returned (.int .i64 1) ∧ Below w.heap.size w w' := by
  have he : s.isEmpty = false := by cases s with
    | nil => exact absurd rfl hs
    | cons => rfl
  go_enter Tryz.func40, Tryz.ntmps40
  go_wp2_with fail
  go_ret
  exact ⟨rfl, (by repeat (with_reducible first | exact hbel | exact Below.refl _ _ | refine Below.drew ?_ | refine Below.drewN ?_ _ | refine Below.alloc ?_ (by first | (simp; done) | (simp; omega) | omega | (have := Below.size hbel; simp; omega) | (have := Below.size hbel; omega)) _ | refine Below.setCell ?_ (by first | (simp; done) | (simp; omega) | omega) _))⟩

theorem atoms_all : ∀ k, k ≤ 9001 → AT k := by
  intro k
  induction k with
  | zero => intro _ t w D a p n c hk; have := t.sz_pos; omega
  | succ k ih =>
    intro hk9 t w D a p n c hk ht hD
    match t, hk, ht with
    | .atom s, _, ht =>
      rw [TC] at ht
      obtain ⟨hs, rfl, rfl, rfl, rfl⟩ := ht
      exact atoms_atom s hs w
    | .node ps, hk, ht => exact atoms_node k (ih (by omega)) ps w D a p n c hk (by omega) ht hD

end Go.Proofs.YtaagbnbekfogiaaGreatDoor
