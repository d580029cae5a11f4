/- The model's l1Holds. -/
import Derived.Test.YtmnppkmgohpmaaaTruths
import Derived.Test.YtmnppkmgohpmaaaSpecForm
namespace Go.Proofs.Ytmnppkmgohpmaaa
open Go.RowKit

def HS (f : F) : Prop := ∀ (w : World) (D : Nat → Prop) (a : ByteArray) (p : Option Addr) (n c : Nat) (A : Option Addr) (m k : Nat) (L : List ByteArray),
  TC w D f.tree a p n c → (∀ g, D g → g < w.heap.size) → RowS w A m L → m ≤ 100000000 →
  Calls Try.prog 41 #[.agg #[.string a, .slice p n c], .slice A m k] w fun e w' => e = .returned (.bool (f.holds L)) ∧ Below w.heap.size w w'

theorem hs_lt (s : Bs) : HS (.lt s) := by
  intro w D a p n c A m k L ht hD hr hm
  rw [F.tree, TC] at ht
  obtain ⟨hs, rfl, rfl, rfl, rfl⟩ := ht
  have hhas := Lib.hid (fun W (hW : Below w.heap.size w W) => has_any A m k L ⟨s.toArray⟩ W (hr.below hW) hm)
  show Calls _ _ _ _ fun e w' => e = .returned (.bool (isIn ⟨s.toArray⟩ L)) ∧ _
  generalize isIn ⟨s.toArray⟩ L = r at *
  clear hr hD
  go_enter Try.func41, Try.ntmps41
  go_wp2_with fail
  refine (head_atom s hs _).mono ?_
  rintro e w0 ⟨rfl, hb0⟩
  have hw0 := Lib.hid (below_step ((Below.refl _ _).alloc (Nat.le_refl _) _ : Below w.heap.size w (w.alloc _)) (by simp) hb0)
  obtain ⟨z0, b0, b1, -, -⟩ := two_cells ((hb0.block w.heap.size (by simp)).trans (heap_alloc_new w _))
  clear hb0
  go_wp2_with (go_at_call 58; refine (hhas.out _ hw0.out).mono ?_; rintro e w' ⟨rfl, rfl⟩)
  go_ret
  exact ⟨rfl, hw0.out⟩

set_option maxRecDepth 100000 in
theorem hs_an (a b : F) (ha : Hid (HS a)) (hb : Hid (HS b)) (w : World) (D : Nat → Prop) (s : ByteArray) (p : Option Addr) (n c : Nat) (A : Option Addr) (m k : Nat) (L : List ByteArray)
    (ht : TC w D (.node [.atom [42], a.tree, b.tree]) s p n c) (hD : ∀ g, D g → g < w.heap.size) (hr : RowS w A m L) (hm : m ≤ 100000000) :
    Calls Try.prog 41 #[.agg #[.string s, .slice p n c], .slice A m k] w fun e w' => e = .returned (.bool (a.holds L && b.holds L)) ∧ Below w.heap.size w w' := by
  obtain ⟨x0, hx0, hcall⟩ := head_node ht hD
  obtain ⟨rfl, hn, g, rfl, hg, hp⟩ := ht.part
  have hn' : n = 3 := hn
  subst hn'
  obtain ⟨a1, p1, n1, c1, y0, y1, t1⟩ := hp 1 a.tree rfl
  obtain ⟨a2, p2, n2, c2, q0, q1, t2⟩ := hp 2 b.tree rfl
  have hgw := hD g hg
  have h42 : (x0.toList == [42]) = true := by rw [hx0]; rfl
  simp only [Nat.one_mul, Nat.reduceMul, Nat.reduceAdd] at y0 y1 q0 q1
  have hcall' := Lib.hid hcall
  have hA := Lib.hid (fun W (hW : Below w.heap.size w W) => ha.out W D a1 p1 n1 c1 A m k L (t1.below hW hD) (fun g hg => Nat.lt_of_lt_of_le (hD g hg) hW.size) (hr.below hW) hm)
  have hB := Lib.hid (fun W (hW : Below w.heap.size w W) => hb.out W D a2 p2 n2 c2 A m k L (t2.below hW hD) (fun g hg => Nat.lt_of_lt_of_le (hD g hg) hW.size) (hr.below hW) hm)
  generalize a.holds L = r at *
  generalize b.holds L = r' at *
  clear hcall hp t1 t2 hD hx0 ht hg hn hr
  go_enter Try.func41, Try.ntmps41
  go_wp2_with fail
  refine (hcall'.out _ (by repeat (with_reducible first | exact hbel | exact Below.refl _ _ | refine Below.drew ?_ | refine Below.drewN ?_ _ | refine Below.alloc ?_ (by first | (simp; done) | (simp; omega) | omega | (have := Below.size hbel; simp; omega) | (have := Below.size hbel; omega)) _ | refine Below.setCell ?_ (by first | (simp; done) | (simp; omega) | omega) _))).mono ?_
  rintro e w0 ⟨rfl, hb0⟩
  have hw0 := Lib.hid (below_step ((Below.refl _ _).alloc (Nat.le_refl _) _ : Below w.heap.size w (w.alloc _)) (by simp) hb0)
  obtain ⟨z0, b0, b1, -, -⟩ := two_cells ((hb0.block w.heap.size (by simp)).trans (heap_alloc_new w _))
  have y0' := (hw0.out.cell (p := ⟨g, 2, none⟩) hgw).trans y0
  have y1' := (hw0.out.cell (p := ⟨g, 3, none⟩) hgw).trans y1
  have q0' := (hw0.out.cell (p := ⟨g, 4, none⟩) hgw).trans q0
  have q1' := (hw0.out.cell (p := ⟨g, 5, none⟩) hgw).trans q1
  clear hb0 y0 y1 q0 q1
  go_wp2_with fail
  refine Calls.mono (hA.out _ hw0.out) ?_
  rintro e w1 ⟨rfl, hb1⟩
  have hw1 := Lib.hid (below_step hw0.out (Nat.le_refl _) hb1 : Below w.heap.size w w1)
  have z1 : w.heap.size < w1.heap.size := Nat.lt_of_lt_of_le z0 hb1.size
  have d1 := (hb1.cell (p := ⟨w.heap.size, 1, none⟩) z0).trans b1
  have q0'' := (hb1.cell (p := ⟨g, 4, none⟩) (Nat.lt_of_lt_of_le hgw hw0.out.size)).trans q0'
  have q1'' := (hb1.cell (p := ⟨g, 5, none⟩) (Nat.lt_of_lt_of_le hgw hw0.out.size)).trans q1'
  clear hb1 y0' y1' q0' q1' b0 b1
  cases r
  · go_wp2_with fail
    go_ret
    exact ⟨rfl, hw1.out⟩
  · go_wp2_with (refine Calls.mono (hB.out _ hw1.out) ?_; rintro e w2 ⟨rfl, hb2⟩)
    go_ret
    exact ⟨rfl, below_step hw1.out (Nat.le_refl _) hb2⟩

set_option maxRecDepth 100000 in
theorem hs_or (a b : F) (ha : Hid (HS a)) (hb : Hid (HS b)) (w : World) (D : Nat → Prop) (s : ByteArray) (p : Option Addr) (n c : Nat) (A : Option Addr) (m k : Nat) (L : List ByteArray)
    (ht : TC w D (.node [.atom [43], a.tree, b.tree]) s p n c) (hD : ∀ g, D g → g < w.heap.size) (hr : RowS w A m L) (hm : m ≤ 100000000) :
    Calls Try.prog 41 #[.agg #[.string s, .slice p n c], .slice A m k] w fun e w' => e = .returned (.bool (a.holds L || b.holds L)) ∧ Below w.heap.size w w' := by
  obtain ⟨x0, hx0, hcall⟩ := head_node ht hD
  obtain ⟨rfl, hn, g, rfl, hg, hp⟩ := ht.part
  have hn' : n = 3 := hn
  subst hn'
  obtain ⟨a1, p1, n1, c1, y0, y1, t1⟩ := hp 1 a.tree rfl
  obtain ⟨a2, p2, n2, c2, q0, q1, t2⟩ := hp 2 b.tree rfl
  have hgw := hD g hg
  have h42 : (x0.toList == [42]) = false := by rw [hx0]; rfl
  have h43 : (x0.toList == [43]) = true := by rw [hx0]; rfl
  simp only [Nat.one_mul, Nat.reduceMul, Nat.reduceAdd] at y0 y1 q0 q1
  have hcall' := Lib.hid hcall
  have hA := Lib.hid (fun W (hW : Below w.heap.size w W) => ha.out W D a1 p1 n1 c1 A m k L (t1.below hW hD) (fun g hg => Nat.lt_of_lt_of_le (hD g hg) hW.size) (hr.below hW) hm)
  have hB := Lib.hid (fun W (hW : Below w.heap.size w W) => hb.out W D a2 p2 n2 c2 A m k L (t2.below hW hD) (fun g hg => Nat.lt_of_lt_of_le (hD g hg) hW.size) (hr.below hW) hm)
  generalize a.holds L = r at *
  generalize b.holds L = r' at *
  clear hcall hp t1 t2 hD hx0 ht hg hn hr
  go_enter Try.func41, Try.ntmps41
  go_wp2_with fail
  refine (hcall'.out _ (by repeat (with_reducible first | exact hbel | exact Below.refl _ _ | refine Below.drew ?_ | refine Below.drewN ?_ _ | refine Below.alloc ?_ (by first | (simp; done) | (simp; omega) | omega | (have := Below.size hbel; simp; omega) | (have := Below.size hbel; omega)) _ | refine Below.setCell ?_ (by first | (simp; done) | (simp; omega) | omega) _))).mono ?_
  rintro e w0 ⟨rfl, hb0⟩
  have hw0 := Lib.hid (below_step ((Below.refl _ _).alloc (Nat.le_refl _) _ : Below w.heap.size w (w.alloc _)) (by simp) hb0)
  obtain ⟨z0, b0, b1, -, -⟩ := two_cells ((hb0.block w.heap.size (by simp)).trans (heap_alloc_new w _))
  have y0' := (hw0.out.cell (p := ⟨g, 2, none⟩) hgw).trans y0
  have y1' := (hw0.out.cell (p := ⟨g, 3, none⟩) hgw).trans y1
  have q0' := (hw0.out.cell (p := ⟨g, 4, none⟩) hgw).trans q0
  have q1' := (hw0.out.cell (p := ⟨g, 5, none⟩) hgw).trans q1
  clear hb0 y0 y1 q0 q1
  go_wp2_with fail
  refine Calls.mono (hA.out _ hw0.out) ?_
  rintro e w1 ⟨rfl, hb1⟩
  have hw1 := Lib.hid (below_step hw0.out (Nat.le_refl _) hb1 : Below w.heap.size w w1)
  have z1 : w.heap.size < w1.heap.size := Nat.lt_of_lt_of_le z0 hb1.size
  have d1 := (hb1.cell (p := ⟨w.heap.size, 1, none⟩) z0).trans b1
  have q0'' := (hb1.cell (p := ⟨g, 4, none⟩) (Nat.lt_of_lt_of_le hgw hw0.out.size)).trans q0'
  have q1'' := (hb1.cell (p := ⟨g, 5, none⟩) (Nat.lt_of_lt_of_le hgw hw0.out.size)).trans q1'
  clear hb1 y0' y1' q0' q1' b0 b1
  cases r
  · go_wp2_with (refine Calls.mono (hB.out _ hw1.out) ?_; rintro e w2 ⟨rfl, hb2⟩)
    go_ret
    exact ⟨rfl, below_step hw1.out (Nat.le_refl _) hb2⟩
  · go_wp2_with fail
    go_ret
    exact ⟨rfl, hw1.out⟩

theorem hs_no (a : F) (ha : Hid (HS a)) (w : World) (D : Nat → Prop) (s : ByteArray) (p : Option Addr) (n c : Nat) (A : Option Addr) (m k : Nat) (L : List ByteArray)
    (ht : TC w D (.node [.atom [45], a.tree]) s p n c) (hD : ∀ g, D g → g < w.heap.size) (hr : RowS w A m L) (hm : m ≤ 100000000) :
    Calls Try.prog 41 #[.agg #[.string s, .slice p n c], .slice A m k] w fun e w' => e = .returned (.bool (!a.holds L)) ∧ Below w.heap.size w w' := by
  obtain ⟨x0, hx0, hcall⟩ := head_node ht hD
  obtain ⟨rfl, hn, g, rfl, hg, hp⟩ := ht.part
  have hn' : n = 2 := hn
  subst hn'
  obtain ⟨a1, p1, n1, c1, y0, y1, t1⟩ := hp 1 a.tree rfl
  have hgw := hD g hg
  have h42 : (x0.toList == [42]) = false := by rw [hx0]; rfl
  have h43 : (x0.toList == [43]) = false := by rw [hx0]; rfl
  have h45 : (x0.toList == [45]) = true := by rw [hx0]; rfl
  simp only [Nat.one_mul, Nat.reduceAdd] at y0 y1
  have hcall' := Lib.hid hcall
  have hA := Lib.hid (fun W (hW : Below w.heap.size w W) => ha.out W D a1 p1 n1 c1 A m k L (t1.below hW hD) (fun g hg => Nat.lt_of_lt_of_le (hD g hg) hW.size) (hr.below hW) hm)
  generalize a.holds L = r at *
  clear hcall hp t1 hD hx0 ht hg hn hr
  go_enter Try.func41, Try.ntmps41
  go_wp2_with fail
  refine (hcall'.out _ (by repeat (with_reducible first | exact hbel | exact Below.refl _ _ | refine Below.drew ?_ | refine Below.drewN ?_ _ | refine Below.alloc ?_ (by first | (simp; done) | (simp; omega) | omega | (have := Below.size hbel; simp; omega) | (have := Below.size hbel; omega)) _ | refine Below.setCell ?_ (by first | (simp; done) | (simp; omega) | omega) _))).mono ?_
  rintro e w0 ⟨rfl, hb0⟩
  have hw0 := Lib.hid (below_step ((Below.refl _ _).alloc (Nat.le_refl _) _ : Below w.heap.size w (w.alloc _)) (by simp) hb0)
  obtain ⟨z0, b0, b1, -, -⟩ := two_cells ((hb0.block w.heap.size (by simp)).trans (heap_alloc_new w _))
  have y0' := (hw0.out.cell (p := ⟨g, 2, none⟩) hgw).trans y0
  have y1' := (hw0.out.cell (p := ⟨g, 3, none⟩) hgw).trans y1
  clear hb0 y0 y1
  go_wp2_with (refine Calls.mono (hA.out _ hw0.out) ?_; rintro e w1 ⟨rfl, hb1⟩)
  go_ret
  exact ⟨rfl, below_step hw0.out (Nat.le_refl _) hb1⟩

theorem hs_any : ∀ f : F, HS f
  | .lt s => hs_lt s
  | .an a b => fun w D s p n c A m k L ht hD hr hm => hs_an a b (hs_any a) (hs_any b) w D s p n c A m k L ht hD hr hm
  | .or a b => fun w D s p n c A m k L ht hD hr hm => hs_or a b (hs_any a) (hs_any b) w D s p n c A m k L ht hD hr hm
  | .no a => fun w D s p n c A m k L ht hD hr hm => hs_no a (hs_any a) w D s p n c A m k L ht hD hr hm

end Go.Proofs.Ytmnppkmgohpmaaa
