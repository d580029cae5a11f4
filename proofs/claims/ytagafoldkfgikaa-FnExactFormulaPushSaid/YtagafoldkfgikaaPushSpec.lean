/- Not moved inwards in the model: l1Push. -/
import Derived.Test.YtagafoldkfgikaaPush
namespace Go.Proofs.Ytagafoldkfgikaa
set_option linter.unusedVariables false
open Go.RowKit

def LP (c : Bool) (f : F) : Prop := ∀ (w : World) (D : Nat → Prop) (a : ByteArray) (p : Option Addr) (n k : Nat), TC w D f.tree a p n k → (∀ g, D g → g < w.heap.size) →
  Calls Try.prog 20 #[.agg #[.string a, .slice p n k], .bool c] w (TreeRet D (f.push c).tree w)

theorem lpush_lt_false (s : Bs) : LP false (.lt s) := by
  intro w D a p n c ht hD
  rw [F.tree, TC] at ht
  obtain ⟨hs, rfl, rfl, rfl, rfl⟩ := ht
  go_enter Try.func20, Try.ntmps20
  go_wp2_with fail
  refine (head_atom s hs _).mono ?_
  rintro e w1 ⟨rfl, hb1⟩
  obtain ⟨z0, b0, b1, -, -⟩ := two_cells ((hb1.block w.heap.size (by simp; omega)).trans (first_alloc w _ _))
  obtain ⟨z1, r0, r1, f0, f1⟩ := two_cells ((hb1.block (w.heap.size + 1) (by simp)).trans (second_alloc w _ _))
  have hbel' := Lib.hid (below_step (((Below.refl _ _).alloc (Nat.le_refl _) _).alloc (by simp) _ : Below w.heap.size w ((w.alloc _).alloc _)) (by simp) hb1)
  clear hb1
  go_wp2_with fail
  refine bodyPost_ret (v := .agg #[.string ⟨s.toArray⟩, .slice none 0 0]) (by simp [results, Try.results20, go_sem, r0, r1]) rfl ?_
  have hbel := hbel'.out
  exact ⟨_, _, _, _, rfl, ⟨hs, rfl, rfl, rfl, rfl⟩, (by repeat (with_reducible first | exact hbel | exact Below.refl _ _ | refine Below.drew ?_ | refine Below.drewN ?_ _ | refine Below.alloc ?_ (by first | (simp; done) | (simp; omega) | omega | (have := Below.size hbel; simp; omega) | (have := Below.size hbel; omega)) _ | refine Below.setCell ?_ (by first | (simp; done) | (simp; omega) | omega) _))⟩

theorem lpush_lt_true (s : Bs) : LP true (.lt s) := by
  intro w D a p n c ht hD
  rw [F.tree, TC] at ht
  obtain ⟨hs, rfl, rfl, rfl, rfl⟩ := ht
  go_enter Try.func20, Try.ntmps20
  go_wp2_with fail
  refine (head_atom s hs _).mono ?_
  rintro e w1 ⟨rfl, hb1⟩
  have hrx := (hb1.block (w.heap.size + 1) (by simp)).trans (second_alloc w _ _)
  obtain ⟨z0, b0, b1, -, -⟩ := two_cells ((hb1.block w.heap.size (by simp; omega)).trans (first_alloc w _ _))
  obtain ⟨z1, -⟩ := two_cells hrx
  have hR : Hid (∀ W', Below w1.heap.size w1 W' → w.heap.size + 1 < W'.heap.size ∧ W'.cell? ⟨w.heap.size + 1, 0, none⟩ = some (.string ⟨#[]⟩) ∧ W'.cell? ⟨w.heap.size + 1, 1, none⟩ = some (.slice none 0 0) ∧
      W'.frozen? ⟨w.heap.size + 1, 0, none⟩ = false ∧ W'.frozen? ⟨w.heap.size + 1, 1, none⟩ = false) := fun W' h => two_cells ((h.block _ z1).trans hrx)
  have hbel' := Lib.hid (below_step (((Below.refl _ _).alloc (Nat.le_refl _) _).alloc (by simp) _ : Below w.heap.size w ((w.alloc _).alloc _)) (by simp) hb1)
  clear hb1 hrx
  go_wp2_with fail
  refine Calls.mono (list1 (D := fun _ => False) [45] (by simp) (.atom s) (fun _ h => h.elim) ⟨hs, rfl, rfl, rfl, rfl⟩) ?_
  rintro e w3 ⟨u3, v3, m3, d3, rfl, tc3, hb3⟩
  have tc3' := Lib.hid tc3
  have hbb3 : Below w1.heap.size w1 w3 := below_step ((Below.refl _ _).alloc (Nat.le_refl _) _) (by simp) hb3
  have hbb3' := Lib.hid hbb3
  obtain ⟨e0, e1, e2, e3, e4⟩ := hR.out w3 hbb3
  have s3 := hb3.size
  simp at s3
  clear tc3 hbb3
  go_wp2_with fail
  refine bodyPost_ret (v := .agg #[.string u3, .slice v3 m3 d3]) (by simp [results, Try.results20, go_sem, e1, e2]) rfl ?_
  have hbel : Below w.heap.size w w3 := below_step hbel'.out (Nat.le_refl _) hbb3'.out
  refine ⟨_, _, _, _, rfl, TC.keep (fun g' hg' => ?_) (fun g' hg' => ?_) _ _ _ _ _ tc3'.out, (by repeat (with_reducible first | exact hbel | exact Below.refl _ _ | refine Below.drew ?_ | refine Below.drewN ?_ _ | refine Below.alloc ?_ (by first | (simp; done) | (simp; omega) | omega | (have := Below.size hbel; simp; omega) | (have := Below.size hbel; omega)) _ | refine Below.setCell ?_ (by first | (simp; done) | (simp; omega) | omega) _))⟩
  · refine same_set _ _ _ _ _ ?_
    rcases hg' with hg' | hg'
    · exact hg'.elim
    · simp at hg'; omega
  · rcases hg' with hg' | hg'
    · exact hg'.elim
    · simp at hg'; exact .inr ⟨by omega, by simp; omega⟩

set_option maxRecDepth 100000 in
set_option maxHeartbeats 1000000 in
theorem lpush_an_false (a b : F) (ha : Hid (LP false a)) (hb : Hid (LP false b)) (w : World) (D : Nat → Prop) (s : ByteArray) (p : Option Addr) (n c : Nat)
    (ht : TC w D (.node [.atom [42], a.tree, b.tree]) s p n c) (hD : ∀ g, D g → g < w.heap.size) :
    Calls Try.prog 20 #[.agg #[.string s, .slice p n c], .bool false] w (TreeRet D (.node [.atom [42], (a.push false).tree, (b.push false).tree]) w) := by
  have hcall := head_lit ht hD
  obtain ⟨rfl, hn, g, rfl, hg, hp⟩ := ht.part
  have hn' : n = 3 := hn
  subst hn'
  obtain ⟨a1, p1, n1, c1, y0, y1, t1⟩ := hp 1 a.tree rfl
  obtain ⟨a2, p2, n2, c2, q0, q1, t2⟩ := hp 2 b.tree rfl
  have hgw := hD g hg
  simp only [Nat.one_mul, Nat.reduceMul, Nat.reduceAdd] at y0 y1 q0 q1
  have hcall' := Lib.hid hcall
  have t1' := Lib.hid t1
  have t2' := Lib.hid t2
  have hD' := Lib.hid hD
  clear hcall hp t1 t2 hD ht hg hn
  go_enter Try.func20, Try.ntmps20
  go_wp2_with fail
  refine (hcall'.out _ (by repeat (with_reducible first | exact hbel | exact Below.refl _ _ | refine Below.drew ?_ | refine Below.drewN ?_ _ | refine Below.alloc ?_ (by first | (simp; done) | (simp; omega) | omega | (have := Below.size hbel; simp; omega) | (have := Below.size hbel; omega)) _ | refine Below.setCell ?_ (by first | (simp; done) | (simp; omega) | omega) _))).mono ?_
  rintro e w0 ⟨rfl, hb0⟩
  have hw0 := Lib.hid (below_step (((Below.refl _ _).alloc (Nat.le_refl _) _).alloc (by simp) _ : Below w.heap.size w ((w.alloc _).alloc _)) (by simp) hb0)
  have hbx := (hb0.block w.heap.size (by simp; omega)).trans (first_alloc w _ _)
  have hrx := (hb0.block (w.heap.size + 1) (by simp)).trans (second_alloc w _ _)
  obtain ⟨z0, b0, b1, -, -⟩ := two_cells hbx
  obtain ⟨z1, r0, r1, f0, f1⟩ := two_cells hrx
  have hS : Hid (∀ W', SB w0 (w.heap.size + 1) W' → W'.cell? ⟨w.heap.size, 1, none⟩ = some (.slice (some ⟨g, 0, none⟩) 3 c) ∧ W'.cell? ⟨g, 2, none⟩ = some (.string a1) ∧ W'.cell? ⟨g, 3, none⟩ = some (.slice p1 n1 c1) ∧
      W'.cell? ⟨g, 4, none⟩ = some (.string a2) ∧ W'.cell? ⟨g, 5, none⟩ = some (.slice p2 n2 c2)) := by
    intro W' h
    have hc : ∀ o, W'.cell? ⟨g, o, none⟩ = w.cell? ⟨g, o, none⟩ := fun o => (h.cell (by omega) (by omega)).trans (hw0.out.cell (p := ⟨g, o, none⟩) hgw)
    exact ⟨(h.cell z0 (by omega)).trans b1, (hc 2).trans y0, (hc 3).trans y1, (hc 4).trans q0, (hc 5).trans q1⟩
  have hA : Hid (∀ W', SB w0 (w.heap.size + 1) W' → Calls Try.prog 20 #[.agg #[.string a1, .slice p1 n1 c1], .bool false] W' (TreeRet D (a.push false).tree W')) := fun W' h =>
    ha.out W' D a1 p1 n1 c1 (TC.keep (fun g hg => (h.block g (by have := hD'.out g hg; omega) (by have := hD'.out g hg; omega)).trans (hw0.out.block g (hD'.out g hg))) (fun _ h => h) _ _ _ _ _ t1'.out) (fun g hg => by have := hD'.out g hg; have := h.size; omega)
  have hB : Hid (∀ W', SB w0 (w.heap.size + 1) W' → Calls Try.prog 20 #[.agg #[.string a2, .slice p2 n2 c2], .bool false] W' (TreeRet D (b.push false).tree W')) := fun W' h =>
    hb.out W' D a2 p2 n2 c2 (TC.keep (fun g hg => (h.block g (by have := hD'.out g hg; omega) (by have := hD'.out g hg; omega)).trans (hw0.out.block g (hD'.out g hg))) (fun _ h => h) _ _ _ _ _ t2'.out) (fun g hg => by have := hD'.out g hg; have := h.size; omega)
  have hR : Hid (∀ W', Below w0.heap.size w0 W' → w.heap.size + 1 < W'.heap.size ∧ W'.cell? ⟨w.heap.size + 1, 0, none⟩ = some (.string ⟨#[]⟩) ∧ W'.cell? ⟨w.heap.size + 1, 1, none⟩ = some (.slice none 0 0) ∧
      W'.frozen? ⟨w.heap.size + 1, 0, none⟩ = false ∧ W'.frozen? ⟨w.heap.size + 1, 1, none⟩ = false) := fun W' h => two_cells ((h.block _ z1).trans hrx)
  have hDw : ∀ g, D g → g < w0.heap.size := fun g hg => by have := hD'.out g hg; omega
  have hDw' := Lib.hid hDw
  clear hb0 hbx hrx hDw
  go_wp2_with fail
  go_region_held3 (fun W' => W'.cell? ⟨w.heap.size, 1, none⟩ = some (.slice (some ⟨g, 0, none⟩) 3 c) ∧ W'.cell? ⟨g, 2, none⟩ = some (.string a1) ∧ W'.cell? ⟨g, 3, none⟩ = some (.slice p1 n1 c1) ∧
      W'.cell? ⟨g, 4, none⟩ = some (.string a2) ∧ W'.cell? ⟨g, 5, none⟩ = some (.slice p2 n2 c2))
    (first | exact hS.out _ (by repeat (with_reducible first | exact sb_refl _ _ | exact hsb | refine sb_drew ?_ | refine sb_alloc ?_ _ | refine sb_set ?_ _ _ | refine sb_step ?_ hb1 | refine sb_step ?_ hb2 | refine sb_step ?_ hb3 | refine sb_step ?_ hb4)))
    (first
      | (go_at_call_of 20 a1; refine Calls.mono (hA.out _ (by repeat (with_reducible first | exact sb_refl _ _ | exact hsb | refine sb_drew ?_ | refine sb_alloc ?_ _ | refine sb_set ?_ _ _ | refine sb_step ?_ hb1 | refine sb_step ?_ hb2 | refine sb_step ?_ hb3 | refine sb_step ?_ hb4))) ?_; rintro e w1 ⟨u1, v1, m1, d1, rfl, tc1, hb1⟩)
      | (go_at_call_of 20 a2; refine Calls.mono (hB.out _ (by repeat (with_reducible first | exact sb_refl _ _ | exact hsb | refine sb_drew ?_ | refine sb_alloc ?_ _ | refine sb_set ?_ _ _ | refine sb_step ?_ hb1 | refine sb_step ?_ hb2 | refine sb_step ?_ hb3 | refine sb_step ?_ hb4))) ?_; rintro e w2 ⟨u2, v2, m2, d2, rfl, tc2, hb2⟩)
      | (go_at_call 36; (first | (refine Calls.mono (list2 [42] (by simp) (a.push false).tree (b.push false).tree (dn_lt (lo := w0.heap.size) hDw'.out (by repeat (with_reducible first | exact Below.refl _ _ | exact hbb | refine Below.drew ?_ | refine bb_alloc ?_ _ | refine below_step ?_ (Nat.le_refl _) hb1 | refine below_step ?_ (Nat.le_refl _) hb2 | refine below_step ?_ (Nat.le_refl _) hb3 | refine below_step ?_ (Nat.le_refl _) hb4))) (tc1.dn (Below.size (B := w0.heap.size) (by repeat (with_reducible first | exact Below.refl _ _ | exact hbb | refine Below.drew ?_ | refine bb_alloc ?_ _ | refine below_step ?_ (Nat.le_refl _) hb1 | refine below_step ?_ (Nat.le_refl _) hb2 | refine below_step ?_ (Nat.le_refl _) hb3 | refine below_step ?_ (Nat.le_refl _) hb4))) (dn_ltD hDw'.out (by repeat (with_reducible first | exact Below.refl _ _ | exact hbb | refine Below.drew ?_ | refine bb_alloc ?_ _ | refine below_step ?_ (Nat.le_refl _) hb1 | refine below_step ?_ (Nat.le_refl _) hb2 | refine below_step ?_ (Nat.le_refl _) hb3 | refine below_step ?_ (Nat.le_refl _) hb4))) hb2) (tc2.dn (Below.size (B := w0.heap.size) (by repeat (with_reducible first | exact Below.refl _ _ | exact hbb | refine Below.drew ?_ | refine bb_alloc ?_ _ | refine below_step ?_ (Nat.le_refl _) hb1 | refine below_step ?_ (Nat.le_refl _) hb2 | refine below_step ?_ (Nat.le_refl _) hb3 | refine below_step ?_ (Nat.le_refl _) hb4))) (dn_ltD hDw'.out (by repeat (with_reducible first | exact Below.refl _ _ | exact hbb | refine Below.drew ?_ | refine bb_alloc ?_ _ | refine below_step ?_ (Nat.le_refl _) hb1 | refine below_step ?_ (Nat.le_refl _) hb2 | refine below_step ?_ (Nat.le_refl _) hb3 | refine below_step ?_ (Nat.le_refl _) hb4))) (Below.refl _ _))) ?_) | (refine Calls.mono (list2 [42] (by simp) (a.push false).tree (b.push false).tree (dn_lt (lo := w0.heap.size) hDw'.out (by repeat (with_reducible first | exact Below.refl _ _ | exact hbb | refine Below.drew ?_ | refine bb_alloc ?_ _ | refine below_step ?_ (Nat.le_refl _) hb1 | refine below_step ?_ (Nat.le_refl _) hb2 | refine below_step ?_ (Nat.le_refl _) hb3 | refine below_step ?_ (Nat.le_refl _) hb4))) (tc1.dn (Below.size (B := w0.heap.size) (by repeat (with_reducible first | exact Below.refl _ _ | exact hbb | refine Below.drew ?_ | refine bb_alloc ?_ _ | refine below_step ?_ (Nat.le_refl _) hb1 | refine below_step ?_ (Nat.le_refl _) hb2 | refine below_step ?_ (Nat.le_refl _) hb3 | refine below_step ?_ (Nat.le_refl _) hb4))) (dn_ltD hDw'.out (by repeat (with_reducible first | exact Below.refl _ _ | exact hbb | refine Below.drew ?_ | refine bb_alloc ?_ _ | refine below_step ?_ (Nat.le_refl _) hb1 | refine below_step ?_ (Nat.le_refl _) hb2 | refine below_step ?_ (Nat.le_refl _) hb3 | refine below_step ?_ (Nat.le_refl _) hb4))) (Below.refl _ _)) (tc2.dn (Below.size (B := w0.heap.size) (by repeat (with_reducible first | exact Below.refl _ _ | exact hbb | refine Below.drew ?_ | refine bb_alloc ?_ _ | refine below_step ?_ (Nat.le_refl _) hb1 | refine below_step ?_ (Nat.le_refl _) hb2 | refine below_step ?_ (Nat.le_refl _) hb3 | refine below_step ?_ (Nat.le_refl _) hb4))) (dn_ltD hDw'.out (by repeat (with_reducible first | exact Below.refl _ _ | exact hbb | refine Below.drew ?_ | refine bb_alloc ?_ _ | refine below_step ?_ (Nat.le_refl _) hb1 | refine below_step ?_ (Nat.le_refl _) hb2 | refine below_step ?_ (Nat.le_refl _) hb3 | refine below_step ?_ (Nat.le_refl _) hb4))) hb1)) ?_)); rintro e w3 ⟨u3, v3, m3, d3, rfl, tc3, hb3⟩; obtain ⟨e0, e1, e2, e3, e4⟩ := hR.out w3 (by repeat (with_reducible first | exact Below.refl _ _ | exact hbb | refine Below.drew ?_ | refine bb_alloc ?_ _ | refine below_step ?_ (Nat.le_refl _) hb1 | refine below_step ?_ (Nat.le_refl _) hb2 | refine below_step ?_ (Nat.le_refl _) hb3 | refine below_step ?_ (Nat.le_refl _) hb4))))
  go_wp2_with fail
  refine bodyPost_ret (v := .agg #[.string u3, .slice v3 m3 d3]) (by simp [results, Try.results20, go_sem, e1, e2]) rfl ?_
  have hbel : Below w.heap.size w w3 := below_step hw0.out (Nat.le_refl _) ((by repeat (with_reducible first | exact Below.refl _ _ | exact hbb | refine Below.drew ?_ | refine bb_alloc ?_ _ | refine below_step ?_ (Nat.le_refl _) hb1 | refine below_step ?_ (Nat.le_refl _) hb2 | refine below_step ?_ (Nat.le_refl _) hb3 | refine below_step ?_ (Nat.le_refl _) hb4)) : Below w0.heap.size w0 w3)
  have s1 := hb1.size
  have s2 := hb2.size
  have s3 := hb3.size
  simp at s1 s2 s3
  refine ⟨_, _, _, _, rfl, TC.keep (fun g' hg' => ?_) (fun g' hg' => ?_) _ _ _ _ _ tc3, (by repeat (with_reducible first | exact hbel | exact Below.refl _ _ | refine Below.drew ?_ | refine Below.drewN ?_ _ | refine Below.alloc ?_ (by first | (simp; done) | (simp; omega) | omega | (have := Below.size hbel; simp; omega) | (have := Below.size hbel; omega)) _ | refine Below.setCell ?_ (by first | (simp; done) | (simp; omega) | omega) _))⟩
  · refine same_set _ _ _ _ _ ?_
    rcases hg' with (hg' | hg') | hg'
    · have := hD'.out g' hg'; omega
    · omega
    · simp at hg'; omega
  · rcases hg' with (hg' | hg') | hg'
    · exact .inl hg'
    · exact .inr ⟨by omega, by simp; omega⟩
    · simp at hg'; exact .inr ⟨by omega, by simp; omega⟩


set_option maxRecDepth 100000 in
set_option maxHeartbeats 1000000 in
theorem lpush_an_true (a b : F) (ha : Hid (LP true a)) (hb : Hid (LP true b)) (w : World) (D : Nat → Prop) (s : ByteArray) (p : Option Addr) (n c : Nat)
    (ht : TC w D (.node [.atom [42], a.tree, b.tree]) s p n c) (hD : ∀ g, D g → g < w.heap.size) :
    Calls Try.prog 20 #[.agg #[.string s, .slice p n c], .bool true] w (TreeRet D (.node [.atom [43], (a.push true).tree, (b.push true).tree]) w) := by
  have hcall := head_lit ht hD
  obtain ⟨rfl, hn, g, rfl, hg, hp⟩ := ht.part
  have hn' : n = 3 := hn
  subst hn'
  obtain ⟨a1, p1, n1, c1, y0, y1, t1⟩ := hp 1 a.tree rfl
  obtain ⟨a2, p2, n2, c2, q0, q1, t2⟩ := hp 2 b.tree rfl
  have hgw := hD g hg
  simp only [Nat.one_mul, Nat.reduceMul, Nat.reduceAdd] at y0 y1 q0 q1
  have hcall' := Lib.hid hcall
  have t1' := Lib.hid t1
  have t2' := Lib.hid t2
  have hD' := Lib.hid hD
  clear hcall hp t1 t2 hD ht hg hn
  go_enter Try.func20, Try.ntmps20
  go_wp2_with fail
  refine (hcall'.out _ (by repeat (with_reducible first | exact hbel | exact Below.refl _ _ | refine Below.drew ?_ | refine Below.drewN ?_ _ | refine Below.alloc ?_ (by first | (simp; done) | (simp; omega) | omega | (have := Below.size hbel; simp; omega) | (have := Below.size hbel; omega)) _ | refine Below.setCell ?_ (by first | (simp; done) | (simp; omega) | omega) _))).mono ?_
  rintro e w0 ⟨rfl, hb0⟩
  have hw0 := Lib.hid (below_step (((Below.refl _ _).alloc (Nat.le_refl _) _).alloc (by simp) _ : Below w.heap.size w ((w.alloc _).alloc _)) (by simp) hb0)
  have hbx := (hb0.block w.heap.size (by simp; omega)).trans (first_alloc w _ _)
  have hrx := (hb0.block (w.heap.size + 1) (by simp)).trans (second_alloc w _ _)
  obtain ⟨z0, b0, b1, -, -⟩ := two_cells hbx
  obtain ⟨z1, r0, r1, f0, f1⟩ := two_cells hrx
  have hS : Hid (∀ W', SB w0 (w.heap.size + 1) W' → W'.cell? ⟨w.heap.size, 1, none⟩ = some (.slice (some ⟨g, 0, none⟩) 3 c) ∧ W'.cell? ⟨g, 2, none⟩ = some (.string a1) ∧ W'.cell? ⟨g, 3, none⟩ = some (.slice p1 n1 c1) ∧
      W'.cell? ⟨g, 4, none⟩ = some (.string a2) ∧ W'.cell? ⟨g, 5, none⟩ = some (.slice p2 n2 c2)) := by
    intro W' h
    have hc : ∀ o, W'.cell? ⟨g, o, none⟩ = w.cell? ⟨g, o, none⟩ := fun o => (h.cell (by omega) (by omega)).trans (hw0.out.cell (p := ⟨g, o, none⟩) hgw)
    exact ⟨(h.cell z0 (by omega)).trans b1, (hc 2).trans y0, (hc 3).trans y1, (hc 4).trans q0, (hc 5).trans q1⟩
  have hA : Hid (∀ W', SB w0 (w.heap.size + 1) W' → Calls Try.prog 20 #[.agg #[.string a1, .slice p1 n1 c1], .bool true] W' (TreeRet D (a.push true).tree W')) := fun W' h =>
    ha.out W' D a1 p1 n1 c1 (TC.keep (fun g hg => (h.block g (by have := hD'.out g hg; omega) (by have := hD'.out g hg; omega)).trans (hw0.out.block g (hD'.out g hg))) (fun _ h => h) _ _ _ _ _ t1'.out) (fun g hg => by have := hD'.out g hg; have := h.size; omega)
  have hB : Hid (∀ W', SB w0 (w.heap.size + 1) W' → Calls Try.prog 20 #[.agg #[.string a2, .slice p2 n2 c2], .bool true] W' (TreeRet D (b.push true).tree W')) := fun W' h =>
    hb.out W' D a2 p2 n2 c2 (TC.keep (fun g hg => (h.block g (by have := hD'.out g hg; omega) (by have := hD'.out g hg; omega)).trans (hw0.out.block g (hD'.out g hg))) (fun _ h => h) _ _ _ _ _ t2'.out) (fun g hg => by have := hD'.out g hg; have := h.size; omega)
  have hR : Hid (∀ W', Below w0.heap.size w0 W' → w.heap.size + 1 < W'.heap.size ∧ W'.cell? ⟨w.heap.size + 1, 0, none⟩ = some (.string ⟨#[]⟩) ∧ W'.cell? ⟨w.heap.size + 1, 1, none⟩ = some (.slice none 0 0) ∧
      W'.frozen? ⟨w.heap.size + 1, 0, none⟩ = false ∧ W'.frozen? ⟨w.heap.size + 1, 1, none⟩ = false) := fun W' h => two_cells ((h.block _ z1).trans hrx)
  have hDw : ∀ g, D g → g < w0.heap.size := fun g hg => by have := hD'.out g hg; omega
  have hDw' := Lib.hid hDw
  clear hb0 hbx hrx hDw
  go_wp2_with fail
  go_region_held3 (fun W' => W'.cell? ⟨w.heap.size, 1, none⟩ = some (.slice (some ⟨g, 0, none⟩) 3 c) ∧ W'.cell? ⟨g, 2, none⟩ = some (.string a1) ∧ W'.cell? ⟨g, 3, none⟩ = some (.slice p1 n1 c1) ∧
      W'.cell? ⟨g, 4, none⟩ = some (.string a2) ∧ W'.cell? ⟨g, 5, none⟩ = some (.slice p2 n2 c2))
    (first | exact hS.out _ (by repeat (with_reducible first | exact sb_refl _ _ | exact hsb | refine sb_drew ?_ | refine sb_alloc ?_ _ | refine sb_set ?_ _ _ | refine sb_step ?_ hb1 | refine sb_step ?_ hb2 | refine sb_step ?_ hb3 | refine sb_step ?_ hb4)))
    (first
      | (go_at_call_of 20 a1; refine Calls.mono (hA.out _ (by repeat (with_reducible first | exact sb_refl _ _ | exact hsb | refine sb_drew ?_ | refine sb_alloc ?_ _ | refine sb_set ?_ _ _ | refine sb_step ?_ hb1 | refine sb_step ?_ hb2 | refine sb_step ?_ hb3 | refine sb_step ?_ hb4))) ?_; rintro e w1 ⟨u1, v1, m1, d1, rfl, tc1, hb1⟩)
      | (go_at_call_of 20 a2; refine Calls.mono (hB.out _ (by repeat (with_reducible first | exact sb_refl _ _ | exact hsb | refine sb_drew ?_ | refine sb_alloc ?_ _ | refine sb_set ?_ _ _ | refine sb_step ?_ hb1 | refine sb_step ?_ hb2 | refine sb_step ?_ hb3 | refine sb_step ?_ hb4))) ?_; rintro e w2 ⟨u2, v2, m2, d2, rfl, tc2, hb2⟩)
      | (go_at_call 36; (first | (refine Calls.mono (list2 [43] (by simp) (a.push true).tree (b.push true).tree (dn_lt (lo := w0.heap.size) hDw'.out (by repeat (with_reducible first | exact Below.refl _ _ | exact hbb | refine Below.drew ?_ | refine bb_alloc ?_ _ | refine below_step ?_ (Nat.le_refl _) hb1 | refine below_step ?_ (Nat.le_refl _) hb2 | refine below_step ?_ (Nat.le_refl _) hb3 | refine below_step ?_ (Nat.le_refl _) hb4))) (tc1.dn (Below.size (B := w0.heap.size) (by repeat (with_reducible first | exact Below.refl _ _ | exact hbb | refine Below.drew ?_ | refine bb_alloc ?_ _ | refine below_step ?_ (Nat.le_refl _) hb1 | refine below_step ?_ (Nat.le_refl _) hb2 | refine below_step ?_ (Nat.le_refl _) hb3 | refine below_step ?_ (Nat.le_refl _) hb4))) (dn_ltD hDw'.out (by repeat (with_reducible first | exact Below.refl _ _ | exact hbb | refine Below.drew ?_ | refine bb_alloc ?_ _ | refine below_step ?_ (Nat.le_refl _) hb1 | refine below_step ?_ (Nat.le_refl _) hb2 | refine below_step ?_ (Nat.le_refl _) hb3 | refine below_step ?_ (Nat.le_refl _) hb4))) hb2) (tc2.dn (Below.size (B := w0.heap.size) (by repeat (with_reducible first | exact Below.refl _ _ | exact hbb | refine Below.drew ?_ | refine bb_alloc ?_ _ | refine below_step ?_ (Nat.le_refl _) hb1 | refine below_step ?_ (Nat.le_refl _) hb2 | refine below_step ?_ (Nat.le_refl _) hb3 | refine below_step ?_ (Nat.le_refl _) hb4))) (dn_ltD hDw'.out (by repeat (with_reducible first | exact Below.refl _ _ | exact hbb | refine Below.drew ?_ | refine bb_alloc ?_ _ | refine below_step ?_ (Nat.le_refl _) hb1 | refine below_step ?_ (Nat.le_refl _) hb2 | refine below_step ?_ (Nat.le_refl _) hb3 | refine below_step ?_ (Nat.le_refl _) hb4))) (Below.refl _ _))) ?_) | (refine Calls.mono (list2 [43] (by simp) (a.push true).tree (b.push true).tree (dn_lt (lo := w0.heap.size) hDw'.out (by repeat (with_reducible first | exact Below.refl _ _ | exact hbb | refine Below.drew ?_ | refine bb_alloc ?_ _ | refine below_step ?_ (Nat.le_refl _) hb1 | refine below_step ?_ (Nat.le_refl _) hb2 | refine below_step ?_ (Nat.le_refl _) hb3 | refine below_step ?_ (Nat.le_refl _) hb4))) (tc1.dn (Below.size (B := w0.heap.size) (by repeat (with_reducible first | exact Below.refl _ _ | exact hbb | refine Below.drew ?_ | refine bb_alloc ?_ _ | refine below_step ?_ (Nat.le_refl _) hb1 | refine below_step ?_ (Nat.le_refl _) hb2 | refine below_step ?_ (Nat.le_refl _) hb3 | refine below_step ?_ (Nat.le_refl _) hb4))) (dn_ltD hDw'.out (by repeat (with_reducible first | exact Below.refl _ _ | exact hbb | refine Below.drew ?_ | refine bb_alloc ?_ _ | refine below_step ?_ (Nat.le_refl _) hb1 | refine below_step ?_ (Nat.le_refl _) hb2 | refine below_step ?_ (Nat.le_refl _) hb3 | refine below_step ?_ (Nat.le_refl _) hb4))) (Below.refl _ _)) (tc2.dn (Below.size (B := w0.heap.size) (by repeat (with_reducible first | exact Below.refl _ _ | exact hbb | refine Below.drew ?_ | refine bb_alloc ?_ _ | refine below_step ?_ (Nat.le_refl _) hb1 | refine below_step ?_ (Nat.le_refl _) hb2 | refine below_step ?_ (Nat.le_refl _) hb3 | refine below_step ?_ (Nat.le_refl _) hb4))) (dn_ltD hDw'.out (by repeat (with_reducible first | exact Below.refl _ _ | exact hbb | refine Below.drew ?_ | refine bb_alloc ?_ _ | refine below_step ?_ (Nat.le_refl _) hb1 | refine below_step ?_ (Nat.le_refl _) hb2 | refine below_step ?_ (Nat.le_refl _) hb3 | refine below_step ?_ (Nat.le_refl _) hb4))) hb1)) ?_)); rintro e w3 ⟨u3, v3, m3, d3, rfl, tc3, hb3⟩; obtain ⟨e0, e1, e2, e3, e4⟩ := hR.out w3 (by repeat (with_reducible first | exact Below.refl _ _ | exact hbb | refine Below.drew ?_ | refine bb_alloc ?_ _ | refine below_step ?_ (Nat.le_refl _) hb1 | refine below_step ?_ (Nat.le_refl _) hb2 | refine below_step ?_ (Nat.le_refl _) hb3 | refine below_step ?_ (Nat.le_refl _) hb4))))
  go_wp2_with fail
  refine bodyPost_ret (v := .agg #[.string u3, .slice v3 m3 d3]) (by simp [results, Try.results20, go_sem, e1, e2]) rfl ?_
  have hbel : Below w.heap.size w w3 := below_step hw0.out (Nat.le_refl _) ((by repeat (with_reducible first | exact Below.refl _ _ | exact hbb | refine Below.drew ?_ | refine bb_alloc ?_ _ | refine below_step ?_ (Nat.le_refl _) hb1 | refine below_step ?_ (Nat.le_refl _) hb2 | refine below_step ?_ (Nat.le_refl _) hb3 | refine below_step ?_ (Nat.le_refl _) hb4)) : Below w0.heap.size w0 w3)
  have s1 := hb1.size
  have s2 := hb2.size
  have s3 := hb3.size
  simp at s1 s2 s3
  refine ⟨_, _, _, _, rfl, TC.keep (fun g' hg' => ?_) (fun g' hg' => ?_) _ _ _ _ _ tc3, (by repeat (with_reducible first | exact hbel | exact Below.refl _ _ | refine Below.drew ?_ | refine Below.drewN ?_ _ | refine Below.alloc ?_ (by first | (simp; done) | (simp; omega) | omega | (have := Below.size hbel; simp; omega) | (have := Below.size hbel; omega)) _ | refine Below.setCell ?_ (by first | (simp; done) | (simp; omega) | omega) _))⟩
  · refine same_set _ _ _ _ _ ?_
    rcases hg' with (hg' | hg') | hg'
    · have := hD'.out g' hg'; omega
    · omega
    · simp at hg'; omega
  · rcases hg' with (hg' | hg') | hg'
    · exact .inl hg'
    · exact .inr ⟨by omega, by simp; omega⟩
    · simp at hg'; exact .inr ⟨by omega, by simp; omega⟩


set_option maxRecDepth 100000 in
set_option maxHeartbeats 1000000 in
theorem lpush_or_false (a b : F) (ha : Hid (LP false a)) (hb : Hid (LP false b)) (w : World) (D : Nat → Prop) (s : ByteArray) (p : Option Addr) (n c : Nat)
    (ht : TC w D (.node [.atom [43], a.tree, b.tree]) s p n c) (hD : ∀ g, D g → g < w.heap.size) :
    Calls Try.prog 20 #[.agg #[.string s, .slice p n c], .bool false] w (TreeRet D (.node [.atom [43], (a.push false).tree, (b.push false).tree]) w) := by
  have hcall := head_lit ht hD
  obtain ⟨rfl, hn, g, rfl, hg, hp⟩ := ht.part
  have hn' : n = 3 := hn
  subst hn'
  obtain ⟨a1, p1, n1, c1, y0, y1, t1⟩ := hp 1 a.tree rfl
  obtain ⟨a2, p2, n2, c2, q0, q1, t2⟩ := hp 2 b.tree rfl
  have hgw := hD g hg
  simp only [Nat.one_mul, Nat.reduceMul, Nat.reduceAdd] at y0 y1 q0 q1
  have hcall' := Lib.hid hcall
  have t1' := Lib.hid t1
  have t2' := Lib.hid t2
  have hD' := Lib.hid hD
  clear hcall hp t1 t2 hD ht hg hn
  go_enter Try.func20, Try.ntmps20
  go_wp2_with fail
  refine (hcall'.out _ (by repeat (with_reducible first | exact hbel | exact Below.refl _ _ | refine Below.drew ?_ | refine Below.drewN ?_ _ | refine Below.alloc ?_ (by first | (simp; done) | (simp; omega) | omega | (have := Below.size hbel; simp; omega) | (have := Below.size hbel; omega)) _ | refine Below.setCell ?_ (by first | (simp; done) | (simp; omega) | omega) _))).mono ?_
  rintro e w0 ⟨rfl, hb0⟩
  have hw0 := Lib.hid (below_step (((Below.refl _ _).alloc (Nat.le_refl _) _).alloc (by simp) _ : Below w.heap.size w ((w.alloc _).alloc _)) (by simp) hb0)
  have hbx := (hb0.block w.heap.size (by simp; omega)).trans (first_alloc w _ _)
  have hrx := (hb0.block (w.heap.size + 1) (by simp)).trans (second_alloc w _ _)
  obtain ⟨z0, b0, b1, -, -⟩ := two_cells hbx
  obtain ⟨z1, r0, r1, f0, f1⟩ := two_cells hrx
  have hS : Hid (∀ W', SB w0 (w.heap.size + 1) W' → W'.cell? ⟨w.heap.size, 1, none⟩ = some (.slice (some ⟨g, 0, none⟩) 3 c) ∧ W'.cell? ⟨g, 2, none⟩ = some (.string a1) ∧ W'.cell? ⟨g, 3, none⟩ = some (.slice p1 n1 c1) ∧
      W'.cell? ⟨g, 4, none⟩ = some (.string a2) ∧ W'.cell? ⟨g, 5, none⟩ = some (.slice p2 n2 c2)) := by
    intro W' h
    have hc : ∀ o, W'.cell? ⟨g, o, none⟩ = w.cell? ⟨g, o, none⟩ := fun o => (h.cell (by omega) (by omega)).trans (hw0.out.cell (p := ⟨g, o, none⟩) hgw)
    exact ⟨(h.cell z0 (by omega)).trans b1, (hc 2).trans y0, (hc 3).trans y1, (hc 4).trans q0, (hc 5).trans q1⟩
  have hA : Hid (∀ W', SB w0 (w.heap.size + 1) W' → Calls Try.prog 20 #[.agg #[.string a1, .slice p1 n1 c1], .bool false] W' (TreeRet D (a.push false).tree W')) := fun W' h =>
    ha.out W' D a1 p1 n1 c1 (TC.keep (fun g hg => (h.block g (by have := hD'.out g hg; omega) (by have := hD'.out g hg; omega)).trans (hw0.out.block g (hD'.out g hg))) (fun _ h => h) _ _ _ _ _ t1'.out) (fun g hg => by have := hD'.out g hg; have := h.size; omega)
  have hB : Hid (∀ W', SB w0 (w.heap.size + 1) W' → Calls Try.prog 20 #[.agg #[.string a2, .slice p2 n2 c2], .bool false] W' (TreeRet D (b.push false).tree W')) := fun W' h =>
    hb.out W' D a2 p2 n2 c2 (TC.keep (fun g hg => (h.block g (by have := hD'.out g hg; omega) (by have := hD'.out g hg; omega)).trans (hw0.out.block g (hD'.out g hg))) (fun _ h => h) _ _ _ _ _ t2'.out) (fun g hg => by have := hD'.out g hg; have := h.size; omega)
  have hR : Hid (∀ W', Below w0.heap.size w0 W' → w.heap.size + 1 < W'.heap.size ∧ W'.cell? ⟨w.heap.size + 1, 0, none⟩ = some (.string ⟨#[]⟩) ∧ W'.cell? ⟨w.heap.size + 1, 1, none⟩ = some (.slice none 0 0) ∧
      W'.frozen? ⟨w.heap.size + 1, 0, none⟩ = false ∧ W'.frozen? ⟨w.heap.size + 1, 1, none⟩ = false) := fun W' h => two_cells ((h.block _ z1).trans hrx)
  have hDw : ∀ g, D g → g < w0.heap.size := fun g hg => by have := hD'.out g hg; omega
  have hDw' := Lib.hid hDw
  clear hb0 hbx hrx hDw
  go_wp2_with fail
  go_region_held3 (fun W' => W'.cell? ⟨w.heap.size, 1, none⟩ = some (.slice (some ⟨g, 0, none⟩) 3 c) ∧ W'.cell? ⟨g, 2, none⟩ = some (.string a1) ∧ W'.cell? ⟨g, 3, none⟩ = some (.slice p1 n1 c1) ∧
      W'.cell? ⟨g, 4, none⟩ = some (.string a2) ∧ W'.cell? ⟨g, 5, none⟩ = some (.slice p2 n2 c2))
    (first | exact hS.out _ (by repeat (with_reducible first | exact sb_refl _ _ | exact hsb | refine sb_drew ?_ | refine sb_alloc ?_ _ | refine sb_set ?_ _ _ | refine sb_step ?_ hb1 | refine sb_step ?_ hb2 | refine sb_step ?_ hb3 | refine sb_step ?_ hb4)))
    (first
      | (go_at_call_of 20 a1; refine Calls.mono (hA.out _ (by repeat (with_reducible first | exact sb_refl _ _ | exact hsb | refine sb_drew ?_ | refine sb_alloc ?_ _ | refine sb_set ?_ _ _ | refine sb_step ?_ hb1 | refine sb_step ?_ hb2 | refine sb_step ?_ hb3 | refine sb_step ?_ hb4))) ?_; rintro e w1 ⟨u1, v1, m1, d1, rfl, tc1, hb1⟩)
      | (go_at_call_of 20 a2; refine Calls.mono (hB.out _ (by repeat (with_reducible first | exact sb_refl _ _ | exact hsb | refine sb_drew ?_ | refine sb_alloc ?_ _ | refine sb_set ?_ _ _ | refine sb_step ?_ hb1 | refine sb_step ?_ hb2 | refine sb_step ?_ hb3 | refine sb_step ?_ hb4))) ?_; rintro e w2 ⟨u2, v2, m2, d2, rfl, tc2, hb2⟩)
      | (go_at_call 36; (first | (refine Calls.mono (list2 [43] (by simp) (a.push false).tree (b.push false).tree (dn_lt (lo := w0.heap.size) hDw'.out (by repeat (with_reducible first | exact Below.refl _ _ | exact hbb | refine Below.drew ?_ | refine bb_alloc ?_ _ | refine below_step ?_ (Nat.le_refl _) hb1 | refine below_step ?_ (Nat.le_refl _) hb2 | refine below_step ?_ (Nat.le_refl _) hb3 | refine below_step ?_ (Nat.le_refl _) hb4))) (tc1.dn (Below.size (B := w0.heap.size) (by repeat (with_reducible first | exact Below.refl _ _ | exact hbb | refine Below.drew ?_ | refine bb_alloc ?_ _ | refine below_step ?_ (Nat.le_refl _) hb1 | refine below_step ?_ (Nat.le_refl _) hb2 | refine below_step ?_ (Nat.le_refl _) hb3 | refine below_step ?_ (Nat.le_refl _) hb4))) (dn_ltD hDw'.out (by repeat (with_reducible first | exact Below.refl _ _ | exact hbb | refine Below.drew ?_ | refine bb_alloc ?_ _ | refine below_step ?_ (Nat.le_refl _) hb1 | refine below_step ?_ (Nat.le_refl _) hb2 | refine below_step ?_ (Nat.le_refl _) hb3 | refine below_step ?_ (Nat.le_refl _) hb4))) hb2) (tc2.dn (Below.size (B := w0.heap.size) (by repeat (with_reducible first | exact Below.refl _ _ | exact hbb | refine Below.drew ?_ | refine bb_alloc ?_ _ | refine below_step ?_ (Nat.le_refl _) hb1 | refine below_step ?_ (Nat.le_refl _) hb2 | refine below_step ?_ (Nat.le_refl _) hb3 | refine below_step ?_ (Nat.le_refl _) hb4))) (dn_ltD hDw'.out (by repeat (with_reducible first | exact Below.refl _ _ | exact hbb | refine Below.drew ?_ | refine bb_alloc ?_ _ | refine below_step ?_ (Nat.le_refl _) hb1 | refine below_step ?_ (Nat.le_refl _) hb2 | refine below_step ?_ (Nat.le_refl _) hb3 | refine below_step ?_ (Nat.le_refl _) hb4))) (Below.refl _ _))) ?_) | (refine Calls.mono (list2 [43] (by simp) (a.push false).tree (b.push false).tree (dn_lt (lo := w0.heap.size) hDw'.out (by repeat (with_reducible first | exact Below.refl _ _ | exact hbb | refine Below.drew ?_ | refine bb_alloc ?_ _ | refine below_step ?_ (Nat.le_refl _) hb1 | refine below_step ?_ (Nat.le_refl _) hb2 | refine below_step ?_ (Nat.le_refl _) hb3 | refine below_step ?_ (Nat.le_refl _) hb4))) (tc1.dn (Below.size (B := w0.heap.size) (by repeat (with_reducible first | exact Below.refl _ _ | exact hbb | refine Below.drew ?_ | refine bb_alloc ?_ _ | refine below_step ?_ (Nat.le_refl _) hb1 | refine below_step ?_ (Nat.le_refl _) hb2 | refine below_step ?_ (Nat.le_refl _) hb3 | refine below_step ?_ (Nat.le_refl _) hb4))) (dn_ltD hDw'.out (by repeat (with_reducible first | exact Below.refl _ _ | exact hbb | refine Below.drew ?_ | refine bb_alloc ?_ _ | refine below_step ?_ (Nat.le_refl _) hb1 | refine below_step ?_ (Nat.le_refl _) hb2 | refine below_step ?_ (Nat.le_refl _) hb3 | refine below_step ?_ (Nat.le_refl _) hb4))) (Below.refl _ _)) (tc2.dn (Below.size (B := w0.heap.size) (by repeat (with_reducible first | exact Below.refl _ _ | exact hbb | refine Below.drew ?_ | refine bb_alloc ?_ _ | refine below_step ?_ (Nat.le_refl _) hb1 | refine below_step ?_ (Nat.le_refl _) hb2 | refine below_step ?_ (Nat.le_refl _) hb3 | refine below_step ?_ (Nat.le_refl _) hb4))) (dn_ltD hDw'.out (by repeat (with_reducible first | exact Below.refl _ _ | exact hbb | refine Below.drew ?_ | refine bb_alloc ?_ _ | refine below_step ?_ (Nat.le_refl _) hb1 | refine below_step ?_ (Nat.le_refl _) hb2 | refine below_step ?_ (Nat.le_refl _) hb3 | refine below_step ?_ (Nat.le_refl _) hb4))) hb1)) ?_)); rintro e w3 ⟨u3, v3, m3, d3, rfl, tc3, hb3⟩; obtain ⟨e0, e1, e2, e3, e4⟩ := hR.out w3 (by repeat (with_reducible first | exact Below.refl _ _ | exact hbb | refine Below.drew ?_ | refine bb_alloc ?_ _ | refine below_step ?_ (Nat.le_refl _) hb1 | refine below_step ?_ (Nat.le_refl _) hb2 | refine below_step ?_ (Nat.le_refl _) hb3 | refine below_step ?_ (Nat.le_refl _) hb4))))
  go_wp2_with fail
  refine bodyPost_ret (v := .agg #[.string u3, .slice v3 m3 d3]) (by simp [results, Try.results20, go_sem, e1, e2]) rfl ?_
  have hbel : Below w.heap.size w w3 := below_step hw0.out (Nat.le_refl _) ((by repeat (with_reducible first | exact Below.refl _ _ | exact hbb | refine Below.drew ?_ | refine bb_alloc ?_ _ | refine below_step ?_ (Nat.le_refl _) hb1 | refine below_step ?_ (Nat.le_refl _) hb2 | refine below_step ?_ (Nat.le_refl _) hb3 | refine below_step ?_ (Nat.le_refl _) hb4)) : Below w0.heap.size w0 w3)
  have s1 := hb1.size
  have s2 := hb2.size
  have s3 := hb3.size
  simp at s1 s2 s3
  refine ⟨_, _, _, _, rfl, TC.keep (fun g' hg' => ?_) (fun g' hg' => ?_) _ _ _ _ _ tc3, (by repeat (with_reducible first | exact hbel | exact Below.refl _ _ | refine Below.drew ?_ | refine Below.drewN ?_ _ | refine Below.alloc ?_ (by first | (simp; done) | (simp; omega) | omega | (have := Below.size hbel; simp; omega) | (have := Below.size hbel; omega)) _ | refine Below.setCell ?_ (by first | (simp; done) | (simp; omega) | omega) _))⟩
  · refine same_set _ _ _ _ _ ?_
    rcases hg' with (hg' | hg') | hg'
    · have := hD'.out g' hg'; omega
    · omega
    · simp at hg'; omega
  · rcases hg' with (hg' | hg') | hg'
    · exact .inl hg'
    · exact .inr ⟨by omega, by simp; omega⟩
    · simp at hg'; exact .inr ⟨by omega, by simp; omega⟩


set_option maxRecDepth 100000 in
set_option maxHeartbeats 1000000 in
theorem lpush_or_true (a b : F) (ha : Hid (LP true a)) (hb : Hid (LP true b)) (w : World) (D : Nat → Prop) (s : ByteArray) (p : Option Addr) (n c : Nat)
    (ht : TC w D (.node [.atom [43], a.tree, b.tree]) s p n c) (hD : ∀ g, D g → g < w.heap.size) :
    Calls Try.prog 20 #[.agg #[.string s, .slice p n c], .bool true] w (TreeRet D (.node [.atom [42], (a.push true).tree, (b.push true).tree]) w) := by
  have hcall := head_lit ht hD
  obtain ⟨rfl, hn, g, rfl, hg, hp⟩ := ht.part
  have hn' : n = 3 := hn
  subst hn'
  obtain ⟨a1, p1, n1, c1, y0, y1, t1⟩ := hp 1 a.tree rfl
  obtain ⟨a2, p2, n2, c2, q0, q1, t2⟩ := hp 2 b.tree rfl
  have hgw := hD g hg
  simp only [Nat.one_mul, Nat.reduceMul, Nat.reduceAdd] at y0 y1 q0 q1
  have hcall' := Lib.hid hcall
  have t1' := Lib.hid t1
  have t2' := Lib.hid t2
  have hD' := Lib.hid hD
  clear hcall hp t1 t2 hD ht hg hn
  go_enter Try.func20, Try.ntmps20
  go_wp2_with fail
  refine (hcall'.out _ (by repeat (with_reducible first | exact hbel | exact Below.refl _ _ | refine Below.drew ?_ | refine Below.drewN ?_ _ | refine Below.alloc ?_ (by first | (simp; done) | (simp; omega) | omega | (have := Below.size hbel; simp; omega) | (have := Below.size hbel; omega)) _ | refine Below.setCell ?_ (by first | (simp; done) | (simp; omega) | omega) _))).mono ?_
  rintro e w0 ⟨rfl, hb0⟩
  have hw0 := Lib.hid (below_step (((Below.refl _ _).alloc (Nat.le_refl _) _).alloc (by simp) _ : Below w.heap.size w ((w.alloc _).alloc _)) (by simp) hb0)
  have hbx := (hb0.block w.heap.size (by simp; omega)).trans (first_alloc w _ _)
  have hrx := (hb0.block (w.heap.size + 1) (by simp)).trans (second_alloc w _ _)
  obtain ⟨z0, b0, b1, -, -⟩ := two_cells hbx
  obtain ⟨z1, r0, r1, f0, f1⟩ := two_cells hrx
  have hS : Hid (∀ W', SB w0 (w.heap.size + 1) W' → W'.cell? ⟨w.heap.size, 1, none⟩ = some (.slice (some ⟨g, 0, none⟩) 3 c) ∧ W'.cell? ⟨g, 2, none⟩ = some (.string a1) ∧ W'.cell? ⟨g, 3, none⟩ = some (.slice p1 n1 c1) ∧
      W'.cell? ⟨g, 4, none⟩ = some (.string a2) ∧ W'.cell? ⟨g, 5, none⟩ = some (.slice p2 n2 c2)) := by
    intro W' h
    have hc : ∀ o, W'.cell? ⟨g, o, none⟩ = w.cell? ⟨g, o, none⟩ := fun o => (h.cell (by omega) (by omega)).trans (hw0.out.cell (p := ⟨g, o, none⟩) hgw)
    exact ⟨(h.cell z0 (by omega)).trans b1, (hc 2).trans y0, (hc 3).trans y1, (hc 4).trans q0, (hc 5).trans q1⟩
  have hA : Hid (∀ W', SB w0 (w.heap.size + 1) W' → Calls Try.prog 20 #[.agg #[.string a1, .slice p1 n1 c1], .bool true] W' (TreeRet D (a.push true).tree W')) := fun W' h =>
    ha.out W' D a1 p1 n1 c1 (TC.keep (fun g hg => (h.block g (by have := hD'.out g hg; omega) (by have := hD'.out g hg; omega)).trans (hw0.out.block g (hD'.out g hg))) (fun _ h => h) _ _ _ _ _ t1'.out) (fun g hg => by have := hD'.out g hg; have := h.size; omega)
  have hB : Hid (∀ W', SB w0 (w.heap.size + 1) W' → Calls Try.prog 20 #[.agg #[.string a2, .slice p2 n2 c2], .bool true] W' (TreeRet D (b.push true).tree W')) := fun W' h =>
    hb.out W' D a2 p2 n2 c2 (TC.keep (fun g hg => (h.block g (by have := hD'.out g hg; omega) (by have := hD'.out g hg; omega)).trans (hw0.out.block g (hD'.out g hg))) (fun _ h => h) _ _ _ _ _ t2'.out) (fun g hg => by have := hD'.out g hg; have := h.size; omega)
  have hR : Hid (∀ W', Below w0.heap.size w0 W' → w.heap.size + 1 < W'.heap.size ∧ W'.cell? ⟨w.heap.size + 1, 0, none⟩ = some (.string ⟨#[]⟩) ∧ W'.cell? ⟨w.heap.size + 1, 1, none⟩ = some (.slice none 0 0) ∧
      W'.frozen? ⟨w.heap.size + 1, 0, none⟩ = false ∧ W'.frozen? ⟨w.heap.size + 1, 1, none⟩ = false) := fun W' h => two_cells ((h.block _ z1).trans hrx)
  have hDw : ∀ g, D g → g < w0.heap.size := fun g hg => by have := hD'.out g hg; omega
  have hDw' := Lib.hid hDw
  clear hb0 hbx hrx hDw
  go_wp2_with fail
  go_region_held3 (fun W' => W'.cell? ⟨w.heap.size, 1, none⟩ = some (.slice (some ⟨g, 0, none⟩) 3 c) ∧ W'.cell? ⟨g, 2, none⟩ = some (.string a1) ∧ W'.cell? ⟨g, 3, none⟩ = some (.slice p1 n1 c1) ∧
      W'.cell? ⟨g, 4, none⟩ = some (.string a2) ∧ W'.cell? ⟨g, 5, none⟩ = some (.slice p2 n2 c2))
    (first | exact hS.out _ (by repeat (with_reducible first | exact sb_refl _ _ | exact hsb | refine sb_drew ?_ | refine sb_alloc ?_ _ | refine sb_set ?_ _ _ | refine sb_step ?_ hb1 | refine sb_step ?_ hb2 | refine sb_step ?_ hb3 | refine sb_step ?_ hb4)))
    (first
      | (go_at_call_of 20 a1; refine Calls.mono (hA.out _ (by repeat (with_reducible first | exact sb_refl _ _ | exact hsb | refine sb_drew ?_ | refine sb_alloc ?_ _ | refine sb_set ?_ _ _ | refine sb_step ?_ hb1 | refine sb_step ?_ hb2 | refine sb_step ?_ hb3 | refine sb_step ?_ hb4))) ?_; rintro e w1 ⟨u1, v1, m1, d1, rfl, tc1, hb1⟩)
      | (go_at_call_of 20 a2; refine Calls.mono (hB.out _ (by repeat (with_reducible first | exact sb_refl _ _ | exact hsb | refine sb_drew ?_ | refine sb_alloc ?_ _ | refine sb_set ?_ _ _ | refine sb_step ?_ hb1 | refine sb_step ?_ hb2 | refine sb_step ?_ hb3 | refine sb_step ?_ hb4))) ?_; rintro e w2 ⟨u2, v2, m2, d2, rfl, tc2, hb2⟩)
      | (go_at_call 36; (first | (refine Calls.mono (list2 [42] (by simp) (a.push true).tree (b.push true).tree (dn_lt (lo := w0.heap.size) hDw'.out (by repeat (with_reducible first | exact Below.refl _ _ | exact hbb | refine Below.drew ?_ | refine bb_alloc ?_ _ | refine below_step ?_ (Nat.le_refl _) hb1 | refine below_step ?_ (Nat.le_refl _) hb2 | refine below_step ?_ (Nat.le_refl _) hb3 | refine below_step ?_ (Nat.le_refl _) hb4))) (tc1.dn (Below.size (B := w0.heap.size) (by repeat (with_reducible first | exact Below.refl _ _ | exact hbb | refine Below.drew ?_ | refine bb_alloc ?_ _ | refine below_step ?_ (Nat.le_refl _) hb1 | refine below_step ?_ (Nat.le_refl _) hb2 | refine below_step ?_ (Nat.le_refl _) hb3 | refine below_step ?_ (Nat.le_refl _) hb4))) (dn_ltD hDw'.out (by repeat (with_reducible first | exact Below.refl _ _ | exact hbb | refine Below.drew ?_ | refine bb_alloc ?_ _ | refine below_step ?_ (Nat.le_refl _) hb1 | refine below_step ?_ (Nat.le_refl _) hb2 | refine below_step ?_ (Nat.le_refl _) hb3 | refine below_step ?_ (Nat.le_refl _) hb4))) hb2) (tc2.dn (Below.size (B := w0.heap.size) (by repeat (with_reducible first | exact Below.refl _ _ | exact hbb | refine Below.drew ?_ | refine bb_alloc ?_ _ | refine below_step ?_ (Nat.le_refl _) hb1 | refine below_step ?_ (Nat.le_refl _) hb2 | refine below_step ?_ (Nat.le_refl _) hb3 | refine below_step ?_ (Nat.le_refl _) hb4))) (dn_ltD hDw'.out (by repeat (with_reducible first | exact Below.refl _ _ | exact hbb | refine Below.drew ?_ | refine bb_alloc ?_ _ | refine below_step ?_ (Nat.le_refl _) hb1 | refine below_step ?_ (Nat.le_refl _) hb2 | refine below_step ?_ (Nat.le_refl _) hb3 | refine below_step ?_ (Nat.le_refl _) hb4))) (Below.refl _ _))) ?_) | (refine Calls.mono (list2 [42] (by simp) (a.push true).tree (b.push true).tree (dn_lt (lo := w0.heap.size) hDw'.out (by repeat (with_reducible first | exact Below.refl _ _ | exact hbb | refine Below.drew ?_ | refine bb_alloc ?_ _ | refine below_step ?_ (Nat.le_refl _) hb1 | refine below_step ?_ (Nat.le_refl _) hb2 | refine below_step ?_ (Nat.le_refl _) hb3 | refine below_step ?_ (Nat.le_refl _) hb4))) (tc1.dn (Below.size (B := w0.heap.size) (by repeat (with_reducible first | exact Below.refl _ _ | exact hbb | refine Below.drew ?_ | refine bb_alloc ?_ _ | refine below_step ?_ (Nat.le_refl _) hb1 | refine below_step ?_ (Nat.le_refl _) hb2 | refine below_step ?_ (Nat.le_refl _) hb3 | refine below_step ?_ (Nat.le_refl _) hb4))) (dn_ltD hDw'.out (by repeat (with_reducible first | exact Below.refl _ _ | exact hbb | refine Below.drew ?_ | refine bb_alloc ?_ _ | refine below_step ?_ (Nat.le_refl _) hb1 | refine below_step ?_ (Nat.le_refl _) hb2 | refine below_step ?_ (Nat.le_refl _) hb3 | refine below_step ?_ (Nat.le_refl _) hb4))) (Below.refl _ _)) (tc2.dn (Below.size (B := w0.heap.size) (by repeat (with_reducible first | exact Below.refl _ _ | exact hbb | refine Below.drew ?_ | refine bb_alloc ?_ _ | refine below_step ?_ (Nat.le_refl _) hb1 | refine below_step ?_ (Nat.le_refl _) hb2 | refine below_step ?_ (Nat.le_refl _) hb3 | refine below_step ?_ (Nat.le_refl _) hb4))) (dn_ltD hDw'.out (by repeat (with_reducible first | exact Below.refl _ _ | exact hbb | refine Below.drew ?_ | refine bb_alloc ?_ _ | refine below_step ?_ (Nat.le_refl _) hb1 | refine below_step ?_ (Nat.le_refl _) hb2 | refine below_step ?_ (Nat.le_refl _) hb3 | refine below_step ?_ (Nat.le_refl _) hb4))) hb1)) ?_)); rintro e w3 ⟨u3, v3, m3, d3, rfl, tc3, hb3⟩; obtain ⟨e0, e1, e2, e3, e4⟩ := hR.out w3 (by repeat (with_reducible first | exact Below.refl _ _ | exact hbb | refine Below.drew ?_ | refine bb_alloc ?_ _ | refine below_step ?_ (Nat.le_refl _) hb1 | refine below_step ?_ (Nat.le_refl _) hb2 | refine below_step ?_ (Nat.le_refl _) hb3 | refine below_step ?_ (Nat.le_refl _) hb4))))
  go_wp2_with fail
  refine bodyPost_ret (v := .agg #[.string u3, .slice v3 m3 d3]) (by simp [results, Try.results20, go_sem, e1, e2]) rfl ?_
  have hbel : Below w.heap.size w w3 := below_step hw0.out (Nat.le_refl _) ((by repeat (with_reducible first | exact Below.refl _ _ | exact hbb | refine Below.drew ?_ | refine bb_alloc ?_ _ | refine below_step ?_ (Nat.le_refl _) hb1 | refine below_step ?_ (Nat.le_refl _) hb2 | refine below_step ?_ (Nat.le_refl _) hb3 | refine below_step ?_ (Nat.le_refl _) hb4)) : Below w0.heap.size w0 w3)
  have s1 := hb1.size
  have s2 := hb2.size
  have s3 := hb3.size
  simp at s1 s2 s3
  refine ⟨_, _, _, _, rfl, TC.keep (fun g' hg' => ?_) (fun g' hg' => ?_) _ _ _ _ _ tc3, (by repeat (with_reducible first | exact hbel | exact Below.refl _ _ | refine Below.drew ?_ | refine Below.drewN ?_ _ | refine Below.alloc ?_ (by first | (simp; done) | (simp; omega) | omega | (have := Below.size hbel; simp; omega) | (have := Below.size hbel; omega)) _ | refine Below.setCell ?_ (by first | (simp; done) | (simp; omega) | omega) _))⟩
  · refine same_set _ _ _ _ _ ?_
    rcases hg' with (hg' | hg') | hg'
    · have := hD'.out g' hg'; omega
    · omega
    · simp at hg'; omega
  · rcases hg' with (hg' | hg') | hg'
    · exact .inl hg'
    · exact .inr ⟨by omega, by simp; omega⟩
    · simp at hg'; exact .inr ⟨by omega, by simp; omega⟩


set_option maxRecDepth 100000 in
set_option maxHeartbeats 1000000 in
theorem lpush_no_false (a : F) (ha : Hid (LP true a)) (w : World) (D : Nat → Prop) (s : ByteArray) (p : Option Addr) (n c : Nat)
    (ht : TC w D (.node [.atom [45], a.tree]) s p n c) (hD : ∀ g, D g → g < w.heap.size) :
    Calls Try.prog 20 #[.agg #[.string s, .slice p n c], .bool false] w (TreeRet D (a.push true).tree w) := by
  have hcall := head_lit ht hD
  obtain ⟨rfl, hn, g, rfl, hg, hp⟩ := ht.part
  have hn' : n = 2 := hn
  subst hn'
  obtain ⟨a1, p1, n1, c1, y0, y1, t1⟩ := hp 1 a.tree rfl
  have hgw := hD g hg
  simp only [Nat.one_mul, Nat.reduceAdd] at y0 y1
  have hcall' := Lib.hid hcall
  have t1' := Lib.hid t1
  have hD' := Lib.hid hD
  clear hcall hp t1 hD ht hg hn
  go_enter Try.func20, Try.ntmps20
  go_wp2_with fail
  refine (hcall'.out _ (by repeat (with_reducible first | exact hbel | exact Below.refl _ _ | refine Below.drew ?_ | refine Below.drewN ?_ _ | refine Below.alloc ?_ (by first | (simp; done) | (simp; omega) | omega | (have := Below.size hbel; simp; omega) | (have := Below.size hbel; omega)) _ | refine Below.setCell ?_ (by first | (simp; done) | (simp; omega) | omega) _))).mono ?_
  rintro e w0 ⟨rfl, hb0⟩
  have hw0 := Lib.hid (below_step (((Below.refl _ _).alloc (Nat.le_refl _) _).alloc (by simp) _ : Below w.heap.size w ((w.alloc _).alloc _)) (by simp) hb0)
  have hbx := (hb0.block w.heap.size (by simp; omega)).trans (first_alloc w _ _)
  have hrx := (hb0.block (w.heap.size + 1) (by simp)).trans (second_alloc w _ _)
  obtain ⟨z0, b0, b1, -, -⟩ := two_cells hbx
  obtain ⟨z1, -⟩ := two_cells hrx
  have y0' := (hw0.out.cell (p := ⟨g, 2, none⟩) hgw).trans y0
  have y1' := (hw0.out.cell (p := ⟨g, 3, none⟩) hgw).trans y1
  have hA : Hid (Calls Try.prog 20 #[.agg #[.string a1, .slice p1 n1 c1], .bool true] w0 (TreeRet D (a.push true).tree w0)) :=
    ha.out w0 D a1 p1 n1 c1 (TC.keep (fun g hg => hw0.out.block g (hD'.out g hg)) (fun _ h => h) _ _ _ _ _ t1'.out) (fun g hg => by have := hD'.out g hg; omega)
  have hR : Hid (∀ W', Below w0.heap.size w0 W' → w.heap.size + 1 < W'.heap.size ∧ W'.cell? ⟨w.heap.size + 1, 0, none⟩ = some (.string ⟨#[]⟩) ∧ W'.cell? ⟨w.heap.size + 1, 1, none⟩ = some (.slice none 0 0) ∧
      W'.frozen? ⟨w.heap.size + 1, 0, none⟩ = false ∧ W'.frozen? ⟨w.heap.size + 1, 1, none⟩ = false) := fun W' h => two_cells ((h.block _ z1).trans hrx)
  have hDw : ∀ g, D g → g < w0.heap.size := fun g hg => by have := hD'.out g hg; omega
  have hDw' := Lib.hid hDw
  clear hb0 hbx hrx hDw y0 y1
  go_wp2_with fail
  refine hA.out.mono ?_
  rintro e w1 ⟨u3, v3, m3, d3, rfl, tc3, hb1⟩
  have tc3' := Lib.hid tc3
  obtain ⟨e0, e1, e2, e3, e4⟩ := hR.out w1 (by repeat (with_reducible first | exact Below.refl _ _ | exact hbb | refine Below.drew ?_ | refine bb_alloc ?_ _ | refine below_step ?_ (Nat.le_refl _) hb1 | refine below_step ?_ (Nat.le_refl _) hb2 | refine below_step ?_ (Nat.le_refl _) hb3 | refine below_step ?_ (Nat.le_refl _) hb4))
  clear tc3
  go_wp2_with fail
  refine bodyPost_ret (v := .agg #[.string u3, .slice v3 m3 d3]) (by simp [results, Try.results20, go_sem, e1, e2]) rfl ?_
  have hbel : Below w.heap.size w w1 := below_step hw0.out (Nat.le_refl _) hb1
  have s1 := hb1.size
  refine ⟨_, _, _, _, rfl, TC.keep (fun g' hg' => ?_) (fun g' hg' => ?_) _ _ _ _ _ tc3'.out, (by repeat (with_reducible first | exact hbel | exact Below.refl _ _ | refine Below.drew ?_ | refine Below.drewN ?_ _ | refine Below.alloc ?_ (by first | (simp; done) | (simp; omega) | omega | (have := Below.size hbel; simp; omega) | (have := Below.size hbel; omega)) _ | refine Below.setCell ?_ (by first | (simp; done) | (simp; omega) | omega) _))⟩
  · refine same_set _ _ _ _ _ ?_
    rcases hg' with hg' | hg'
    · have := hD'.out g' hg'; omega
    · omega
  · rcases hg' with hg' | hg'
    · exact .inl hg'
    · exact .inr ⟨by omega, by simp; omega⟩

set_option maxRecDepth 100000 in
set_option maxHeartbeats 1000000 in
theorem lpush_no_true (a : F) (ha : Hid (LP false a)) (w : World) (D : Nat → Prop) (s : ByteArray) (p : Option Addr) (n c : Nat)
    (ht : TC w D (.node [.atom [45], a.tree]) s p n c) (hD : ∀ g, D g → g < w.heap.size) :
    Calls Try.prog 20 #[.agg #[.string s, .slice p n c], .bool true] w (TreeRet D (a.push false).tree w) := by
  have hcall := head_lit ht hD
  obtain ⟨rfl, hn, g, rfl, hg, hp⟩ := ht.part
  have hn' : n = 2 := hn
  subst hn'
  obtain ⟨a1, p1, n1, c1, y0, y1, t1⟩ := hp 1 a.tree rfl
  have hgw := hD g hg
  simp only [Nat.one_mul, Nat.reduceAdd] at y0 y1
  have hcall' := Lib.hid hcall
  have t1' := Lib.hid t1
  have hD' := Lib.hid hD
  clear hcall hp t1 hD ht hg hn
  go_enter Try.func20, Try.ntmps20
  go_wp2_with fail
  refine (hcall'.out _ (by repeat (with_reducible first | exact hbel | exact Below.refl _ _ | refine Below.drew ?_ | refine Below.drewN ?_ _ | refine Below.alloc ?_ (by first | (simp; done) | (simp; omega) | omega | (have := Below.size hbel; simp; omega) | (have := Below.size hbel; omega)) _ | refine Below.setCell ?_ (by first | (simp; done) | (simp; omega) | omega) _))).mono ?_
  rintro e w0 ⟨rfl, hb0⟩
  have hw0 := Lib.hid (below_step (((Below.refl _ _).alloc (Nat.le_refl _) _).alloc (by simp) _ : Below w.heap.size w ((w.alloc _).alloc _)) (by simp) hb0)
  have hbx := (hb0.block w.heap.size (by simp; omega)).trans (first_alloc w _ _)
  have hrx := (hb0.block (w.heap.size + 1) (by simp)).trans (second_alloc w _ _)
  obtain ⟨z0, b0, b1, -, -⟩ := two_cells hbx
  obtain ⟨z1, -⟩ := two_cells hrx
  have y0' := (hw0.out.cell (p := ⟨g, 2, none⟩) hgw).trans y0
  have y1' := (hw0.out.cell (p := ⟨g, 3, none⟩) hgw).trans y1
  have hA : Hid (Calls Try.prog 20 #[.agg #[.string a1, .slice p1 n1 c1], .bool false] w0 (TreeRet D (a.push false).tree w0)) :=
    ha.out w0 D a1 p1 n1 c1 (TC.keep (fun g hg => hw0.out.block g (hD'.out g hg)) (fun _ h => h) _ _ _ _ _ t1'.out) (fun g hg => by have := hD'.out g hg; omega)
  have hR : Hid (∀ W', Below w0.heap.size w0 W' → w.heap.size + 1 < W'.heap.size ∧ W'.cell? ⟨w.heap.size + 1, 0, none⟩ = some (.string ⟨#[]⟩) ∧ W'.cell? ⟨w.heap.size + 1, 1, none⟩ = some (.slice none 0 0) ∧
      W'.frozen? ⟨w.heap.size + 1, 0, none⟩ = false ∧ W'.frozen? ⟨w.heap.size + 1, 1, none⟩ = false) := fun W' h => two_cells ((h.block _ z1).trans hrx)
  have hDw : ∀ g, D g → g < w0.heap.size := fun g hg => by have := hD'.out g hg; omega
  have hDw' := Lib.hid hDw
  clear hb0 hbx hrx hDw y0 y1
  go_wp2_with fail
  refine hA.out.mono ?_
  rintro e w1 ⟨u3, v3, m3, d3, rfl, tc3, hb1⟩
  have tc3' := Lib.hid tc3
  obtain ⟨e0, e1, e2, e3, e4⟩ := hR.out w1 (by repeat (with_reducible first | exact Below.refl _ _ | exact hbb | refine Below.drew ?_ | refine bb_alloc ?_ _ | refine below_step ?_ (Nat.le_refl _) hb1 | refine below_step ?_ (Nat.le_refl _) hb2 | refine below_step ?_ (Nat.le_refl _) hb3 | refine below_step ?_ (Nat.le_refl _) hb4))
  clear tc3
  go_wp2_with fail
  refine bodyPost_ret (v := .agg #[.string u3, .slice v3 m3 d3]) (by simp [results, Try.results20, go_sem, e1, e2]) rfl ?_
  have hbel : Below w.heap.size w w1 := below_step hw0.out (Nat.le_refl _) hb1
  have s1 := hb1.size
  refine ⟨_, _, _, _, rfl, TC.keep (fun g' hg' => ?_) (fun g' hg' => ?_) _ _ _ _ _ tc3'.out, (by repeat (with_reducible first | exact hbel | exact Below.refl _ _ | refine Below.drew ?_ | refine Below.drewN ?_ _ | refine Below.alloc ?_ (by first | (simp; done) | (simp; omega) | omega | (have := Below.size hbel; simp; omega) | (have := Below.size hbel; omega)) _ | refine Below.setCell ?_ (by first | (simp; done) | (simp; omega) | omega) _))⟩
  · refine same_set _ _ _ _ _ ?_
    rcases hg' with hg' | hg'
    · have := hD'.out g' hg'; omega
    · omega
  · rcases hg' with hg' | hg'
    · exact .inl hg'
    · exact .inr ⟨by omega, by simp; omega⟩

theorem lpush_of : ∀ (c : Bool) (f : F), LP c f
  | false, .lt s => lpush_lt_false s
  | true, .lt s => lpush_lt_true s
  | false, .an a b => fun w D s p n c ht hD => lpush_an_false a b (lpush_of _ a) (lpush_of _ b) w D s p n c ht hD
  | true, .an a b => fun w D s p n c ht hD => lpush_an_true a b (lpush_of _ a) (lpush_of _ b) w D s p n c ht hD
  | false, .or a b => fun w D s p n c ht hD => lpush_or_false a b (lpush_of _ a) (lpush_of _ b) w D s p n c ht hD
  | true, .or a b => fun w D s p n c ht hD => lpush_or_true a b (lpush_of _ a) (lpush_of _ b) w D s p n c ht hD
  | false, .no a => fun w D s p n c ht hD => lpush_no_false a (lpush_of true a) w D s p n c ht hD
  | true, .no a => fun w D s p n c ht hD => lpush_no_true a (lpush_of false a) w D s p n c ht hD

end Go.Proofs.Ytagafoldkfgikaa
