/- spec.l6sIs. -/
import Derived.Test.YtchkmdagbjbcjaaGreatDoorHead
import Derived.Test.YtchkmdagbjbcjaaGreatDoorSpecV
import Derived.Test.YtchkmdagbjbcjaaGreatDoorMathE
namespace Go.Proofs.YtchkmdagbjbcjaaGreatDoor
set_option linter.unusedVariables false
open Go.RowKit
set_option maxRecDepth 100000

theorem toSrc_len3 {ps : List T} (h1 : h1B (headOf ps) = false) (hl : ps.length ≠ 3) : toSrc (.node ps) = none := by
  match ps, h1, hl with
  | [], _, _ => exact toSrc_nil
  | [x], _, _ => exact toSrc_one x
  | [x, a], h1, _ => rw [toSrc_two, show atomOf x = headOf [x, a] from rfl, h1]; rfl
  | [x, a, b], _, hl => exact absurd rfl hl
  | _ :: _ :: _ :: _ :: _, _, _ => exact toSrc_many ..
theorem toSrc_len2 {ps : List T} (h1 : isNb (headOf ps) = false) (h2 : h2B (headOf ps) = false) (hl : ps.length ≠ 2) : toSrc (.node ps) = none := by
  match ps, h1, h2, hl with
  | [], _, _, _ => exact toSrc_nil
  | [x], _, _, _ => exact toSrc_one x
  | [x, a], _, _, hl => exact absurd rfl hl
  | [x, a, b], h1, h2, _ => rw [toSrc_three, show atomOf x = headOf [x, a, b] from rfl, h1, h2]; rfl
  | _ :: _ :: _ :: _ :: _, _, _, _ => exact toSrc_many ..
theorem toSrc_other {ps : List T} (h1 : h1B (headOf ps) = false) (h2 : isNb (headOf ps) = false) (h3 : h2B (headOf ps) = false) : toSrc (.node ps) = none := by
  by_cases hl : ps.length = 3
  · exact toSrc_len2 h2 h3 (by omega)
  · exact toSrc_len3 h1 hl

def ISK (k : Nat) : Prop := ∀ (t : T) (w : World) (D : Nat → Prop) (a : ByteArray) (p : Option Addr) (n c : Nat), t.sz ≤ k → TC w D t a p n c → (∀ g, D g → g < w.heap.size) →
  Calls Tryz.prog 36 #[.agg #[.string a, .slice p n c]] w fun e w' => e = .returned (.bool (toSrc t).isSome) ∧ Below w.heap.size w w'

theorem is_atom (s : Bs) (hs : s ≠ []) (w : World) : Calls Tryz.prog 36 #[.agg #[.string ⟨s.toArray⟩, .slice none 0 0]] w fun e w' => e = .returned (.bool (toSrc (.atom s)).isSome) ∧ Below w.heap.size w w' := by
  have he : s.isEmpty = false := by cases s with
    | nil => exact absurd rfl hs
    | cons => rfl
  have hv : (toSrc (.atom s)).isSome = isVar s := by rw [toSrc_atom]; cases isVar s <;> rfl
  have hcall := Lib.hid (fun W => l2Var_any ⟨s.toArray⟩ W)
  rw [show (⟨s.toArray⟩ : ByteArray).data.toList = s from rfl] at hcall
  rw [hv]
  clear hv
  generalize isVar s = v at *
  go_enter Tryz.func36, Tryz.ntmps36
  go_wp2_with (first | (go_at_call 52; refine Calls.mono (hcall.out _) ?_; rintro e w1 ⟨rfl, rfl⟩))
  go_ret
  exact ⟨rfl, (by repeat (with_reducible first | exact hbel | exact Below.refl _ _ | refine Below.drew ?_ | refine Below.drewN ?_ _ | refine Below.alloc ?_ (by first | (simp; done) | (simp; omega) | omega | (have := Below.size hbel; simp; omega) | (have := Below.size hbel; omega)) _ | refine Below.setCell ?_ (by first | (simp; done) | (simp; omega) | omega) _))⟩

/-- What has not as many parts as its word takes, or no word. -/
theorem is_no (ps : List T) (h : Bs) (hh : headOf ps = h)
    (hc : (((h == [108, 97, 109]) = true ∨ (h == [99, 97, 116, 99, 104]) = true ∨ (h == [116, 104, 114, 111, 119]) = true ∨ (h == [97, 112, 112]) = true ∨ (h == [98, 111, 116, 104]) = true) ∧ ps.length ≠ 3) ∨
      (((h == [108, 101, 102, 116]) = true ∨ (h == [114, 105, 103, 104, 116]) = true) ∧ ps.length ≠ 2) ∨
      ((h == [108, 97, 109]) = false ∧ (h == [99, 97, 116, 99, 104]) = false ∧ (h == [116, 104, 114, 111, 119]) = false ∧ (h == [97, 112, 112]) = false ∧ (h == [98, 111, 116, 104]) = false ∧ (h == [108, 101, 102, 116]) = false ∧ (h == [114, 105, 103, 104, 116]) = false))
    (w : World) (D : Nat → Prop) (a : ByteArray) (p : Option Addr) (n c : Nat) (ht : TC w D (.node ps) a p n c) (hD : ∀ g, D g → g < w.heap.size) :
    Calls Tryz.prog 36 #[.agg #[.string a, .slice p n c]] w fun e w' => e = .returned (.bool false) ∧ Below w.heap.size w w' := by
  have hcall := Lib.hid (head_lit ht hD)
  rw [hh] at hcall
  obtain ⟨rfl, hn, g, rfl, hg, -⟩ := ht.part
  subst hn
  clear hh ht hD hg
  generalize ps.length = l at *
  rcases hc with ⟨hc, hl⟩ | ⟨hc, hl⟩ | ⟨h1, h2, h3, h4, h5, h6, h7⟩
  · have hl3 : ((l : Int) == 3) = false := by rw [beq_eq_false_iff_ne]; omega
    rcases hc with h1 | h1 | h1 | h1 | h1
    all_goals
      obtain rfl := eq_of_beq h1
      clear h1
      go_enter Tryz.func36, Tryz.ntmps36
      go_wp2_with fail
      refine (hcall.out _ (by repeat (with_reducible first | exact hbel | exact Below.refl _ _ | refine Below.drew ?_ | refine Below.drewN ?_ _ | refine Below.alloc ?_ (by first | (simp; done) | (simp; omega) | omega | (have := Below.size hbel; simp; omega) | (have := Below.size hbel; omega)) _ | refine Below.setCell ?_ (by first | (simp; done) | (simp; omega) | omega) _))).mono ?_
      rintro e w0 ⟨rfl, hb0⟩
      obtain ⟨z0, b0, b1, -, -⟩ := two_cells ((hb0.block w.heap.size (by simp)).trans (heap_alloc_new w _))
      go_wp2_with fail
      go_ret
      exact ⟨rfl, below_step (by repeat (with_reducible first | exact hbel | exact Below.refl _ _ | refine Below.drew ?_ | refine Below.drewN ?_ _ | refine Below.alloc ?_ (by first | (simp; done) | (simp; omega) | omega | (have := Below.size hbel; simp; omega) | (have := Below.size hbel; omega)) _ | refine Below.setCell ?_ (by first | (simp; done) | (simp; omega) | omega) _)) (by simp) hb0⟩
  · have hl2 : ((l : Int) == 2) = false := by rw [beq_eq_false_iff_ne]; omega
    rcases hc with h1 | h1
    all_goals
      obtain rfl := eq_of_beq h1
      clear h1
      go_enter Tryz.func36, Tryz.ntmps36
      go_wp2_with fail
      refine (hcall.out _ (by repeat (with_reducible first | exact hbel | exact Below.refl _ _ | refine Below.drew ?_ | refine Below.drewN ?_ _ | refine Below.alloc ?_ (by first | (simp; done) | (simp; omega) | omega | (have := Below.size hbel; simp; omega) | (have := Below.size hbel; omega)) _ | refine Below.setCell ?_ (by first | (simp; done) | (simp; omega) | omega) _))).mono ?_
      rintro e w0 ⟨rfl, hb0⟩
      obtain ⟨z0, b0, b1, -, -⟩ := two_cells ((hb0.block w.heap.size (by simp)).trans (heap_alloc_new w _))
      go_wp2_with fail
      go_ret
      exact ⟨rfl, below_step (by repeat (with_reducible first | exact hbel | exact Below.refl _ _ | refine Below.drew ?_ | refine Below.drewN ?_ _ | refine Below.alloc ?_ (by first | (simp; done) | (simp; omega) | omega | (have := Below.size hbel; simp; omega) | (have := Below.size hbel; omega)) _ | refine Below.setCell ?_ (by first | (simp; done) | (simp; omega) | omega) _)) (by simp) hb0⟩
  · go_enter Tryz.func36, Tryz.ntmps36
    go_wp2_with fail
    refine (hcall.out _ (by repeat (with_reducible first | exact hbel | exact Below.refl _ _ | refine Below.drew ?_ | refine Below.drewN ?_ _ | refine Below.alloc ?_ (by first | (simp; done) | (simp; omega) | omega | (have := Below.size hbel; simp; omega) | (have := Below.size hbel; omega)) _ | refine Below.setCell ?_ (by first | (simp; done) | (simp; omega) | omega) _))).mono ?_
    rintro e w0 ⟨rfl, hb0⟩
    obtain ⟨z0, b0, b1, -, -⟩ := two_cells ((hb0.block w.heap.size (by simp)).trans (heap_alloc_new w _))
    go_wp2_with fail
    go_ret
    exact ⟨rfl, below_step (by repeat (with_reducible first | exact hbel | exact Below.refl _ _ | refine Below.drew ?_ | refine Below.drewN ?_ _ | refine Below.alloc ?_ (by first | (simp; done) | (simp; omega) | omega | (have := Below.size hbel; simp; omega) | (have := Below.size hbel; omega)) _ | refine Below.setCell ?_ (by first | (simp; done) | (simp; omega) | omega) _)) (by simp) hb0⟩

theorem is_lam (k : Nat) (H : Hid (ISK k)) (x u v : T) (hx : atomOf x = [108, 97, 109]) (hk : v.sz ≤ k) (w : World) (D : Nat → Prop) (a : ByteArray) (p : Option Addr) (n c : Nat) (ht : TC w D (.node [x, u, v]) a p n c) (hD : ∀ g, D g → g < w.heap.size) :
    Calls Tryz.prog 36 #[.agg #[.string a, .slice p n c]] w fun e w' => e = .returned (.bool (isVar (atomOf u) && (toSrc v).isSome)) ∧ Below w.heap.size w w' := by
  have hcall := Lib.hid (head_lit ht hD)
  rw [show headOf [x, u, v] = [108, 97, 109] from hx] at hcall
  obtain ⟨rfl, hn, g, rfl, hg, hp⟩ := ht.part
  have hn' : n = 3 := hn
  subst hn'
  obtain ⟨a1, p1, n1, c1, y0, y1, t1⟩ := hp 1 u rfl
  obtain ⟨a2, p2, n2, c2, q0, q1, t2⟩ := hp 2 v rfl
  have hgw := hD g hg
  simp only [Nat.one_mul, Nat.reduceMul, Nat.reduceAdd] at y0 y1 q0 q1
  have hN := Lib.hid (fun W => l2Var_any a1 W)
  rw [← Lib.toList_data, t1.text] at hN
  have hB := Lib.hid (fun W (hW : Below w.heap.size w W) => H.out v W D a2 p2 n2 c2 hk (t2.below hW hD) (fun g hg => Nat.lt_of_lt_of_le (hD g hg) hW.size))
  generalize (toSrc v).isSome = r at *
  generalize isVar (atomOf u) = r' at *
  clear hp hD ht hn hg t1 t2 hx
  go_enter Tryz.func36, Tryz.ntmps36
  go_wp2_with fail
  refine (hcall.out _ (by repeat (with_reducible first | exact hbel | exact Below.refl _ _ | refine Below.drew ?_ | refine Below.drewN ?_ _ | refine Below.alloc ?_ (by first | (simp; done) | (simp; omega) | omega | (have := Below.size hbel; simp; omega) | (have := Below.size hbel; omega)) _ | refine Below.setCell ?_ (by first | (simp; done) | (simp; omega) | omega) _))).mono ?_
  rintro e w0 ⟨rfl, hb0⟩
  have hw0 := Lib.hid (below_step ((Below.refl _ _).alloc (Nat.le_refl _) _ : Below w.heap.size w (w.alloc _)) (by simp) hb0)
  obtain ⟨z0, b0, b1, -, -⟩ := two_cells ((hb0.block w.heap.size (by simp)).trans (heap_alloc_new w _))
  have y0' := (hw0.out.cell (p := ⟨g, 2, none⟩) hgw).trans y0
  have y1' := (hw0.out.cell (p := ⟨g, 3, none⟩) hgw).trans y1
  have q0' := (hw0.out.cell (p := ⟨g, 4, none⟩) hgw).trans q0
  have q1' := (hw0.out.cell (p := ⟨g, 5, none⟩) hgw).trans q1
  clear hb0 y0 y1 q0 q1
  cases r'
  · go_wp2_with (first | (go_at_call 52; refine Calls.mono (hN.out _) ?_; rintro e w1 ⟨rfl, rfl⟩))
    go_ret
    exact ⟨rfl, hw0.out⟩
  · go_wp2_with (first
      | (go_at_call 52; refine Calls.mono (hN.out _) ?_; rintro e w1 ⟨rfl, rfl⟩)
      | (go_at_call 36; refine Calls.mono (hB.out _ hw0.out) ?_; rintro e w2 ⟨rfl, hb2⟩))
    go_ret
    exact ⟨rfl, below_step hw0.out (Nat.le_refl _) hb2⟩

theorem is_catch (k : Nat) (H : Hid (ISK k)) (x u v : T) (hx : atomOf x = [99, 97, 116, 99, 104]) (hk : v.sz ≤ k) (w : World) (D : Nat → Prop) (a : ByteArray) (p : Option Addr) (n c : Nat) (ht : TC w D (.node [x, u, v]) a p n c) (hD : ∀ g, D g → g < w.heap.size) :
    Calls Tryz.prog 36 #[.agg #[.string a, .slice p n c]] w fun e w' => e = .returned (.bool (isCov (atomOf u) && (toSrc v).isSome)) ∧ Below w.heap.size w w' := by
  have hcall := Lib.hid (head_lit ht hD)
  rw [show headOf [x, u, v] = [99, 97, 116, 99, 104] from hx] at hcall
  obtain ⟨rfl, hn, g, rfl, hg, hp⟩ := ht.part
  have hn' : n = 3 := hn
  subst hn'
  obtain ⟨a1, p1, n1, c1, y0, y1, t1⟩ := hp 1 u rfl
  obtain ⟨a2, p2, n2, c2, q0, q1, t2⟩ := hp 2 v rfl
  have hgw := hD g hg
  simp only [Nat.one_mul, Nat.reduceMul, Nat.reduceAdd] at y0 y1 q0 q1
  have hN := Lib.hid (fun W => l2Covar_any a1 W)
  rw [← Lib.toList_data, t1.text] at hN
  have hB := Lib.hid (fun W (hW : Below w.heap.size w W) => H.out v W D a2 p2 n2 c2 hk (t2.below hW hD) (fun g hg => Nat.lt_of_lt_of_le (hD g hg) hW.size))
  generalize (toSrc v).isSome = r at *
  generalize isCov (atomOf u) = r' at *
  clear hp hD ht hn hg t1 t2 hx
  go_enter Tryz.func36, Tryz.ntmps36
  go_wp2_with fail
  refine (hcall.out _ (by repeat (with_reducible first | exact hbel | exact Below.refl _ _ | refine Below.drew ?_ | refine Below.drewN ?_ _ | refine Below.alloc ?_ (by first | (simp; done) | (simp; omega) | omega | (have := Below.size hbel; simp; omega) | (have := Below.size hbel; omega)) _ | refine Below.setCell ?_ (by first | (simp; done) | (simp; omega) | omega) _))).mono ?_
  rintro e w0 ⟨rfl, hb0⟩
  have hw0 := Lib.hid (below_step ((Below.refl _ _).alloc (Nat.le_refl _) _ : Below w.heap.size w (w.alloc _)) (by simp) hb0)
  obtain ⟨z0, b0, b1, -, -⟩ := two_cells ((hb0.block w.heap.size (by simp)).trans (heap_alloc_new w _))
  have y0' := (hw0.out.cell (p := ⟨g, 2, none⟩) hgw).trans y0
  have y1' := (hw0.out.cell (p := ⟨g, 3, none⟩) hgw).trans y1
  have q0' := (hw0.out.cell (p := ⟨g, 4, none⟩) hgw).trans q0
  have q1' := (hw0.out.cell (p := ⟨g, 5, none⟩) hgw).trans q1
  clear hb0 y0 y1 q0 q1
  cases r'
  · go_wp2_with (first | (go_at_call 53; refine Calls.mono (hN.out _) ?_; rintro e w1 ⟨rfl, rfl⟩))
    go_ret
    exact ⟨rfl, hw0.out⟩
  · go_wp2_with (first
      | (go_at_call 53; refine Calls.mono (hN.out _) ?_; rintro e w1 ⟨rfl, rfl⟩)
      | (go_at_call 36; refine Calls.mono (hB.out _ hw0.out) ?_; rintro e w2 ⟨rfl, hb2⟩))
    go_ret
    exact ⟨rfl, below_step hw0.out (Nat.le_refl _) hb2⟩

theorem is_throw (k : Nat) (H : Hid (ISK k)) (x u v : T) (hx : atomOf x = [116, 104, 114, 111, 119]) (hk : v.sz ≤ k) (w : World) (D : Nat → Prop) (a : ByteArray) (p : Option Addr) (n c : Nat) (ht : TC w D (.node [x, u, v]) a p n c) (hD : ∀ g, D g → g < w.heap.size) :
    Calls Tryz.prog 36 #[.agg #[.string a, .slice p n c]] w fun e w' => e = .returned (.bool (isCov (atomOf u) && (toSrc v).isSome)) ∧ Below w.heap.size w w' := by
  have hcall := Lib.hid (head_lit ht hD)
  rw [show headOf [x, u, v] = [116, 104, 114, 111, 119] from hx] at hcall
  obtain ⟨rfl, hn, g, rfl, hg, hp⟩ := ht.part
  have hn' : n = 3 := hn
  subst hn'
  obtain ⟨a1, p1, n1, c1, y0, y1, t1⟩ := hp 1 u rfl
  obtain ⟨a2, p2, n2, c2, q0, q1, t2⟩ := hp 2 v rfl
  have hgw := hD g hg
  simp only [Nat.one_mul, Nat.reduceMul, Nat.reduceAdd] at y0 y1 q0 q1
  have hN := Lib.hid (fun W => l2Covar_any a1 W)
  rw [← Lib.toList_data, t1.text] at hN
  have hB := Lib.hid (fun W (hW : Below w.heap.size w W) => H.out v W D a2 p2 n2 c2 hk (t2.below hW hD) (fun g hg => Nat.lt_of_lt_of_le (hD g hg) hW.size))
  generalize (toSrc v).isSome = r at *
  generalize isCov (atomOf u) = r' at *
  clear hp hD ht hn hg t1 t2 hx
  go_enter Tryz.func36, Tryz.ntmps36
  go_wp2_with fail
  refine (hcall.out _ (by repeat (with_reducible first | exact hbel | exact Below.refl _ _ | refine Below.drew ?_ | refine Below.drewN ?_ _ | refine Below.alloc ?_ (by first | (simp; done) | (simp; omega) | omega | (have := Below.size hbel; simp; omega) | (have := Below.size hbel; omega)) _ | refine Below.setCell ?_ (by first | (simp; done) | (simp; omega) | omega) _))).mono ?_
  rintro e w0 ⟨rfl, hb0⟩
  have hw0 := Lib.hid (below_step ((Below.refl _ _).alloc (Nat.le_refl _) _ : Below w.heap.size w (w.alloc _)) (by simp) hb0)
  obtain ⟨z0, b0, b1, -, -⟩ := two_cells ((hb0.block w.heap.size (by simp)).trans (heap_alloc_new w _))
  have y0' := (hw0.out.cell (p := ⟨g, 2, none⟩) hgw).trans y0
  have y1' := (hw0.out.cell (p := ⟨g, 3, none⟩) hgw).trans y1
  have q0' := (hw0.out.cell (p := ⟨g, 4, none⟩) hgw).trans q0
  have q1' := (hw0.out.cell (p := ⟨g, 5, none⟩) hgw).trans q1
  clear hb0 y0 y1 q0 q1
  cases r'
  · go_wp2_with (first | (go_at_call 53; refine Calls.mono (hN.out _) ?_; rintro e w1 ⟨rfl, rfl⟩))
    go_ret
    exact ⟨rfl, hw0.out⟩
  · go_wp2_with (first
      | (go_at_call 53; refine Calls.mono (hN.out _) ?_; rintro e w1 ⟨rfl, rfl⟩)
      | (go_at_call 36; refine Calls.mono (hB.out _ hw0.out) ?_; rintro e w2 ⟨rfl, hb2⟩))
    go_ret
    exact ⟨rfl, below_step hw0.out (Nat.le_refl _) hb2⟩

theorem is_app (k : Nat) (H : Hid (ISK k)) (x u v : T) (hx : atomOf x = [97, 112, 112]) (hk1 : u.sz ≤ k) (hk : v.sz ≤ k) (w : World) (D : Nat → Prop) (a : ByteArray) (p : Option Addr) (n c : Nat) (ht : TC w D (.node [x, u, v]) a p n c) (hD : ∀ g, D g → g < w.heap.size) :
    Calls Tryz.prog 36 #[.agg #[.string a, .slice p n c]] w fun e w' => e = .returned (.bool ((toSrc u).isSome && (toSrc v).isSome)) ∧ Below w.heap.size w w' := by
  have hcall := Lib.hid (head_lit ht hD)
  rw [show headOf [x, u, v] = [97, 112, 112] from hx] at hcall
  obtain ⟨rfl, hn, g, rfl, hg, hp⟩ := ht.part
  have hn' : n = 3 := hn
  subst hn'
  obtain ⟨a1, p1, n1, c1, y0, y1, t1⟩ := hp 1 u rfl
  obtain ⟨a2, p2, n2, c2, q0, q1, t2⟩ := hp 2 v rfl
  have hgw := hD g hg
  simp only [Nat.one_mul, Nat.reduceMul, Nat.reduceAdd] at y0 y1 q0 q1
  have hA := Lib.hid (fun W (hW : Below w.heap.size w W) => H.out u W D a1 p1 n1 c1 hk1 (t1.below hW hD) (fun g hg => Nat.lt_of_lt_of_le (hD g hg) hW.size))
  have hB := Lib.hid (fun W (hW : Below w.heap.size w W) => H.out v W D a2 p2 n2 c2 hk (t2.below hW hD) (fun g hg => Nat.lt_of_lt_of_le (hD g hg) hW.size))
  generalize (toSrc v).isSome = r at *
  generalize (toSrc u).isSome = r' at *
  clear hp hD ht hn hg t1 t2 hx
  go_enter Tryz.func36, Tryz.ntmps36
  go_wp2_with fail
  refine (hcall.out _ (by repeat (with_reducible first | exact hbel | exact Below.refl _ _ | refine Below.drew ?_ | refine Below.drewN ?_ _ | refine Below.alloc ?_ (by first | (simp; done) | (simp; omega) | omega | (have := Below.size hbel; simp; omega) | (have := Below.size hbel; omega)) _ | refine Below.setCell ?_ (by first | (simp; done) | (simp; omega) | omega) _))).mono ?_
  rintro e w0 ⟨rfl, hb0⟩
  have hw0 := Lib.hid (below_step ((Below.refl _ _).alloc (Nat.le_refl _) _ : Below w.heap.size w (w.alloc _)) (by simp) hb0)
  obtain ⟨z0, b0, b1, -, -⟩ := two_cells ((hb0.block w.heap.size (by simp)).trans (heap_alloc_new w _))
  have y0' := (hw0.out.cell (p := ⟨g, 2, none⟩) hgw).trans y0
  have y1' := (hw0.out.cell (p := ⟨g, 3, none⟩) hgw).trans y1
  have q0' := (hw0.out.cell (p := ⟨g, 4, none⟩) hgw).trans q0
  have q1' := (hw0.out.cell (p := ⟨g, 5, none⟩) hgw).trans q1
  clear hb0 y0 y1 q0 q1
  go_wp2_with fail
  refine Calls.mono (hA.out _ hw0.out) ?_
  rintro e w1 ⟨rfl, hb1⟩
  have hw1 := Lib.hid (below_step hw0.out (Nat.le_refl _) hb1 : Below w.heap.size w w1)
  have z1 : w.heap.size < w1.heap.size := Nat.lt_of_lt_of_le z0 hb1.size
  have d1 := (hb1.cell (p := ⟨w.heap.size, 1, none⟩) z0).trans b1
  have q0'' := (hb1.cell (p := ⟨g, 4, none⟩) (Nat.lt_of_lt_of_le hgw hw0.out.size)).trans q0'
  have q1'' := (hb1.cell (p := ⟨g, 5, none⟩) (Nat.lt_of_lt_of_le hgw hw0.out.size)).trans q1'
  clear hb1 y0' y1' q0' q1' b0 b1
  cases r'
  · go_wp2_with fail
    go_ret
    exact ⟨rfl, hw1.out⟩
  · go_wp2_with (first | (go_at_call 36; refine Calls.mono (hB.out _ hw1.out) ?_; rintro e w2 ⟨rfl, hb2⟩))
    go_ret
    exact ⟨rfl, below_step hw1.out (Nat.le_refl _) hb2⟩

theorem is_both (k : Nat) (H : Hid (ISK k)) (x u v : T) (hx : atomOf x = [98, 111, 116, 104]) (hk1 : u.sz ≤ k) (hk : v.sz ≤ k) (w : World) (D : Nat → Prop) (a : ByteArray) (p : Option Addr) (n c : Nat) (ht : TC w D (.node [x, u, v]) a p n c) (hD : ∀ g, D g → g < w.heap.size) :
    Calls Tryz.prog 36 #[.agg #[.string a, .slice p n c]] w fun e w' => e = .returned (.bool ((toSrc u).isSome && (toSrc v).isSome)) ∧ Below w.heap.size w w' := by
  have hcall := Lib.hid (head_lit ht hD)
  rw [show headOf [x, u, v] = [98, 111, 116, 104] from hx] at hcall
  obtain ⟨rfl, hn, g, rfl, hg, hp⟩ := ht.part
  have hn' : n = 3 := hn
  subst hn'
  obtain ⟨a1, p1, n1, c1, y0, y1, t1⟩ := hp 1 u rfl
  obtain ⟨a2, p2, n2, c2, q0, q1, t2⟩ := hp 2 v rfl
  have hgw := hD g hg
  simp only [Nat.one_mul, Nat.reduceMul, Nat.reduceAdd] at y0 y1 q0 q1
  have hA := Lib.hid (fun W (hW : Below w.heap.size w W) => H.out u W D a1 p1 n1 c1 hk1 (t1.below hW hD) (fun g hg => Nat.lt_of_lt_of_le (hD g hg) hW.size))
  have hB := Lib.hid (fun W (hW : Below w.heap.size w W) => H.out v W D a2 p2 n2 c2 hk (t2.below hW hD) (fun g hg => Nat.lt_of_lt_of_le (hD g hg) hW.size))
  generalize (toSrc v).isSome = r at *
  generalize (toSrc u).isSome = r' at *
  clear hp hD ht hn hg t1 t2 hx
  go_enter Tryz.func36, Tryz.ntmps36
  go_wp2_with fail
  refine (hcall.out _ (by repeat (with_reducible first | exact hbel | exact Below.refl _ _ | refine Below.drew ?_ | refine Below.drewN ?_ _ | refine Below.alloc ?_ (by first | (simp; done) | (simp; omega) | omega | (have := Below.size hbel; simp; omega) | (have := Below.size hbel; omega)) _ | refine Below.setCell ?_ (by first | (simp; done) | (simp; omega) | omega) _))).mono ?_
  rintro e w0 ⟨rfl, hb0⟩
  have hw0 := Lib.hid (below_step ((Below.refl _ _).alloc (Nat.le_refl _) _ : Below w.heap.size w (w.alloc _)) (by simp) hb0)
  obtain ⟨z0, b0, b1, -, -⟩ := two_cells ((hb0.block w.heap.size (by simp)).trans (heap_alloc_new w _))
  have y0' := (hw0.out.cell (p := ⟨g, 2, none⟩) hgw).trans y0
  have y1' := (hw0.out.cell (p := ⟨g, 3, none⟩) hgw).trans y1
  have q0' := (hw0.out.cell (p := ⟨g, 4, none⟩) hgw).trans q0
  have q1' := (hw0.out.cell (p := ⟨g, 5, none⟩) hgw).trans q1
  clear hb0 y0 y1 q0 q1
  go_wp2_with fail
  refine Calls.mono (hA.out _ hw0.out) ?_
  rintro e w1 ⟨rfl, hb1⟩
  have hw1 := Lib.hid (below_step hw0.out (Nat.le_refl _) hb1 : Below w.heap.size w w1)
  have z1 : w.heap.size < w1.heap.size := Nat.lt_of_lt_of_le z0 hb1.size
  have d1 := (hb1.cell (p := ⟨w.heap.size, 1, none⟩) z0).trans b1
  have q0'' := (hb1.cell (p := ⟨g, 4, none⟩) (Nat.lt_of_lt_of_le hgw hw0.out.size)).trans q0'
  have q1'' := (hb1.cell (p := ⟨g, 5, none⟩) (Nat.lt_of_lt_of_le hgw hw0.out.size)).trans q1'
  clear hb1 y0' y1' q0' q1' b0 b1
  cases r'
  · go_wp2_with fail
    go_ret
    exact ⟨rfl, hw1.out⟩
  · go_wp2_with (first | (go_at_call 36; refine Calls.mono (hB.out _ hw1.out) ?_; rintro e w2 ⟨rfl, hb2⟩))
    go_ret
    exact ⟨rfl, below_step hw1.out (Nat.le_refl _) hb2⟩

theorem is_left (k : Nat) (H : Hid (ISK k)) (x u : T) (hx : atomOf x = [108, 101, 102, 116]) (hk1 : u.sz ≤ k) (w : World) (D : Nat → Prop) (a : ByteArray) (p : Option Addr) (n c : Nat) (ht : TC w D (.node [x, u]) a p n c) (hD : ∀ g, D g → g < w.heap.size) :
    Calls Tryz.prog 36 #[.agg #[.string a, .slice p n c]] w fun e w' => e = .returned (.bool (toSrc u).isSome) ∧ Below w.heap.size w w' := by
  have hcall := Lib.hid (head_lit ht hD)
  rw [show headOf [x, u] = [108, 101, 102, 116] from hx] at hcall
  obtain ⟨rfl, hn, g, rfl, hg, hp⟩ := ht.part
  have hn' : n = 2 := hn
  subst hn'
  obtain ⟨a1, p1, n1, c1, y0, y1, t1⟩ := hp 1 u rfl
  have hgw := hD g hg
  simp only [Nat.one_mul, Nat.reduceAdd] at y0 y1
  have hA := Lib.hid (fun W (hW : Below w.heap.size w W) => H.out u W D a1 p1 n1 c1 hk1 (t1.below hW hD) (fun g hg => Nat.lt_of_lt_of_le (hD g hg) hW.size))
  generalize (toSrc u).isSome = r' at *
  clear hp hD ht hn hg t1 hx
  go_enter Tryz.func36, Tryz.ntmps36
  go_wp2_with fail
  refine (hcall.out _ (by repeat (with_reducible first | exact hbel | exact Below.refl _ _ | refine Below.drew ?_ | refine Below.drewN ?_ _ | refine Below.alloc ?_ (by first | (simp; done) | (simp; omega) | omega | (have := Below.size hbel; simp; omega) | (have := Below.size hbel; omega)) _ | refine Below.setCell ?_ (by first | (simp; done) | (simp; omega) | omega) _))).mono ?_
  rintro e w0 ⟨rfl, hb0⟩
  have hw0 := Lib.hid (below_step ((Below.refl _ _).alloc (Nat.le_refl _) _ : Below w.heap.size w (w.alloc _)) (by simp) hb0)
  obtain ⟨z0, b0, b1, -, -⟩ := two_cells ((hb0.block w.heap.size (by simp)).trans (heap_alloc_new w _))
  have y0' := (hw0.out.cell (p := ⟨g, 2, none⟩) hgw).trans y0
  have y1' := (hw0.out.cell (p := ⟨g, 3, none⟩) hgw).trans y1
  clear hb0 y0 y1
  go_wp2_with (first | (go_at_call 36; refine Calls.mono (hA.out _ hw0.out) ?_; rintro e w2 ⟨rfl, hb2⟩))
  go_ret
  exact ⟨rfl, below_step hw0.out (Nat.le_refl _) hb2⟩

theorem is_right (k : Nat) (H : Hid (ISK k)) (x u : T) (hx : atomOf x = [114, 105, 103, 104, 116]) (hk1 : u.sz ≤ k) (w : World) (D : Nat → Prop) (a : ByteArray) (p : Option Addr) (n c : Nat) (ht : TC w D (.node [x, u]) a p n c) (hD : ∀ g, D g → g < w.heap.size) :
    Calls Tryz.prog 36 #[.agg #[.string a, .slice p n c]] w fun e w' => e = .returned (.bool (toSrc u).isSome) ∧ Below w.heap.size w w' := by
  have hcall := Lib.hid (head_lit ht hD)
  rw [show headOf [x, u] = [114, 105, 103, 104, 116] from hx] at hcall
  obtain ⟨rfl, hn, g, rfl, hg, hp⟩ := ht.part
  have hn' : n = 2 := hn
  subst hn'
  obtain ⟨a1, p1, n1, c1, y0, y1, t1⟩ := hp 1 u rfl
  have hgw := hD g hg
  simp only [Nat.one_mul, Nat.reduceAdd] at y0 y1
  have hA := Lib.hid (fun W (hW : Below w.heap.size w W) => H.out u W D a1 p1 n1 c1 hk1 (t1.below hW hD) (fun g hg => Nat.lt_of_lt_of_le (hD g hg) hW.size))
  generalize (toSrc u).isSome = r' at *
  clear hp hD ht hn hg t1 hx
  go_enter Tryz.func36, Tryz.ntmps36
  go_wp2_with fail
  refine (hcall.out _ (by repeat (with_reducible first | exact hbel | exact Below.refl _ _ | refine Below.drew ?_ | refine Below.drewN ?_ _ | refine Below.alloc ?_ (by first | (simp; done) | (simp; omega) | omega | (have := Below.size hbel; simp; omega) | (have := Below.size hbel; omega)) _ | refine Below.setCell ?_ (by first | (simp; done) | (simp; omega) | omega) _))).mono ?_
  rintro e w0 ⟨rfl, hb0⟩
  have hw0 := Lib.hid (below_step ((Below.refl _ _).alloc (Nat.le_refl _) _ : Below w.heap.size w (w.alloc _)) (by simp) hb0)
  obtain ⟨z0, b0, b1, -, -⟩ := two_cells ((hb0.block w.heap.size (by simp)).trans (heap_alloc_new w _))
  have y0' := (hw0.out.cell (p := ⟨g, 2, none⟩) hgw).trans y0
  have y1' := (hw0.out.cell (p := ⟨g, 3, none⟩) hgw).trans y1
  clear hb0 y0 y1
  go_wp2_with (first | (go_at_call 36; refine Calls.mono (hA.out _ hw0.out) ?_; rintro e w2 ⟨rfl, hb2⟩))
  go_ret
  exact ⟨rfl, below_step hw0.out (Nat.le_refl _) hb2⟩

theorem some_nb {h s : Bs} {o : Option Src} : (mkSb h s o).isSome = (hnB h s && o.isSome) := by
  cases o with
  | none => simp [mkSb]
  | some m => cases hh : hnB h s <;> simp [mkSb, hh]
theorem some_n2 {h : Bs} {o o' : Option Src} : (mkS2 h o o').isSome = (o.isSome && o'.isSome) := by cases o <;> cases o' <;> rfl
theorem some_n1 {h : Bs} {o : Option Src} : (mkS1 h o).isSome = o.isSome := by cases o <;> rfl

theorem is_all : ∀ k, ISK k := by
  intro k
  induction k with
  | zero => intro t w D a p n c hk; have := t.sz_pos; omega
  | succ k ih =>
    intro t w D a p n c hk ht hD
    have H := Lib.hid ih
    have hps : ∀ (ps : List T) (i : Nat) (u : T), T.node ps = t → ps[i]? = some u → u.sz ≤ k := fun ps i u e hi => by
      subst e; have := T.sz_part hi; omega
    match t, ht, hps with
    | .atom s, ht, _ =>
      rw [TC] at ht
      obtain ⟨hs, rfl, rfl, rfl, rfl⟩ := ht
      exact is_atom s hs w
    | .node ps, ht, hps =>
      have no := fun (e : toSrc (.node ps) = none) hc => is_no ps (headOf ps) rfl hc w D a p n c ht hD
      cases e1 : (headOf ps == [108, 97, 109]) with
      | true =>
        by_cases hl : ps.length = 3
        · match ps, hl, e1, ht, hps with
          | [x, u, v], _, e1, ht, hps =>
            have hx : atomOf x = [108, 97, 109] := eq_of_beq e1
            rw [toSrc_three, if_pos (by rw [hx]; rfl), some_nb, hx]
            exact is_lam k H x u v hx (hps _ 2 v rfl rfl) w D a p n c ht hD
        · have e := toSrc_len3 (ps := ps) (by rw [eq_of_beq e1]; rfl) hl
          rw [e]; exact no e (.inl ⟨.inl e1, hl⟩)
      | false =>
      cases e2 : (headOf ps == [99, 97, 116, 99, 104]) with
      | true =>
        by_cases hl : ps.length = 3
        · match ps, hl, e2, ht, hps with
          | [x, u, v], _, e2, ht, hps =>
            have hx : atomOf x = [99, 97, 116, 99, 104] := eq_of_beq e2
            rw [toSrc_three, if_pos (by rw [hx]; rfl), some_nb, hx]
            exact is_catch k H x u v hx (hps _ 2 v rfl rfl) w D a p n c ht hD
        · have e := toSrc_len3 (ps := ps) (by rw [eq_of_beq e2]; rfl) hl
          rw [e]; exact no e (.inl ⟨.inr (.inl e2), hl⟩)
      | false =>
      cases e3 : (headOf ps == [116, 104, 114, 111, 119]) with
      | true =>
        by_cases hl : ps.length = 3
        · match ps, hl, e3, ht, hps with
          | [x, u, v], _, e3, ht, hps =>
            have hx : atomOf x = [116, 104, 114, 111, 119] := eq_of_beq e3
            rw [toSrc_three, if_pos (by rw [hx]; rfl), some_nb, hx]
            exact is_throw k H x u v hx (hps _ 2 v rfl rfl) w D a p n c ht hD
        · have e := toSrc_len3 (ps := ps) (by rw [eq_of_beq e3]; rfl) hl
          rw [e]; exact no e (.inl ⟨.inr (.inr (.inl e3)), hl⟩)
      | false =>
      cases e4 : (headOf ps == [97, 112, 112]) with
      | true =>
        by_cases hl : ps.length = 3
        · match ps, hl, e4, ht, hps with
          | [x, u, v], _, e4, ht, hps =>
            have hx : atomOf x = [97, 112, 112] := eq_of_beq e4
            rw [toSrc_three, if_neg (by rw [hx]; decide), if_pos (by rw [hx]; rfl), some_n2]
            exact is_app k H x u v hx (hps _ 1 u rfl rfl) (hps _ 2 v rfl rfl) w D a p n c ht hD
        · have e := toSrc_len3 (ps := ps) (by rw [eq_of_beq e4]; rfl) hl
          rw [e]; exact no e (.inl ⟨.inr (.inr (.inr (.inl e4))), hl⟩)
      | false =>
      cases e5 : (headOf ps == [98, 111, 116, 104]) with
      | true =>
        by_cases hl : ps.length = 3
        · match ps, hl, e5, ht, hps with
          | [x, u, v], _, e5, ht, hps =>
            have hx : atomOf x = [98, 111, 116, 104] := eq_of_beq e5
            rw [toSrc_three, if_neg (by rw [hx]; decide), if_pos (by rw [hx]; rfl), some_n2]
            exact is_both k H x u v hx (hps _ 1 u rfl rfl) (hps _ 2 v rfl rfl) w D a p n c ht hD
        · have e := toSrc_len3 (ps := ps) (by rw [eq_of_beq e5]; rfl) hl
          rw [e]; exact no e (.inl ⟨.inr (.inr (.inr (.inr e5))), hl⟩)
      | false =>
      cases e6 : (headOf ps == [108, 101, 102, 116]) with
      | true =>
        by_cases hl : ps.length = 2
        · match ps, hl, e6, ht, hps with
          | [x, u], _, e6, ht, hps =>
            have hx : atomOf x = [108, 101, 102, 116] := eq_of_beq e6
            rw [toSrc_two, if_pos (by rw [hx]; rfl), some_n1]
            exact is_left k H x u hx (hps _ 1 u rfl rfl) w D a p n c ht hD
        · have e := toSrc_len2 (ps := ps) (by rw [eq_of_beq e6]; rfl) (by rw [eq_of_beq e6]; rfl) hl
          rw [e]; exact no e (.inr (.inl ⟨.inl e6, hl⟩))
      | false =>
      cases e7 : (headOf ps == [114, 105, 103, 104, 116]) with
      | true =>
        by_cases hl : ps.length = 2
        · match ps, hl, e7, ht, hps with
          | [x, u], _, e7, ht, hps =>
            have hx : atomOf x = [114, 105, 103, 104, 116] := eq_of_beq e7
            rw [toSrc_two, if_pos (by rw [hx]; rfl), some_n1]
            exact is_right k H x u hx (hps _ 1 u rfl rfl) w D a p n c ht hD
        · have e := toSrc_len2 (ps := ps) (by rw [eq_of_beq e7]; rfl) (by rw [eq_of_beq e7]; rfl) hl
          rw [e]; exact no e (.inr (.inl ⟨.inr e7, hl⟩))
      | false =>
        have e := toSrc_other (ps := ps) (by simp only [h1B, leftB, rightB, e6, e7]; decide) (by simp only [isNb, lamB, catchB, throwB, e1, e2, e3]; decide) (by simp only [h2B, appB, bothB, e4, e5]; decide)
        rw [e]; exact no e (.inr (.inr ⟨e1, e2, e3, e4, e5, e6, e7⟩))

end Go.Proofs.YtchkmdagbjbcjaaGreatDoor
