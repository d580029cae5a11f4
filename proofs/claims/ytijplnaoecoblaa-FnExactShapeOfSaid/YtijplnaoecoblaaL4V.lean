/- spec.l4Value. -/
import Derived.Test.YtijplnaoecoblaaFormT
import Derived.Test.YtijplnaoecoblaaMathV
namespace Go.Proofs.Ytijplnaoecoblaa
set_option linter.unusedVariables false
open Go.RowKit
set_option maxRecDepth 100000

def LV (p : P) : Prop := ∀ (w : World) (D : Nat → Prop) (a : ByteArray) (q : Option Addr) (n c : Nat), TC w D p.tree a q n c → (∀ g, D g → g < w.heap.size) →
  Calls Try.prog 16 #[.agg #[.string a, .slice q n c]] w fun e w' => e = .returned (.bool p.val) ∧ Below w.heap.size w w'

theorem lv_nm (s : Bs) (hk : (P.nm s).kind = .t) : LV (.nm s) := by
  intro w D a q n c ht hD
  rw [P.tree, TC] at ht
  obtain ⟨hs, rfl, rfl, rfl, rfl⟩ := ht
  have hv : (P.nm s).val = true := by
    rw [P.val]; rw [P.kind] at hk
    cases h : firstIs varB s
    · rw [h] at hk; cases hk
    · rfl
  rw [hv]
  clear hv hk
  go_enter Try.func16, Try.ntmps16
  go_wp2_with fail
  refine (head_atom s hs _).mono ?_
  rintro e w0 ⟨rfl, hb0⟩
  go_wp2_with fail
  go_ret
  exact ⟨rfl, below_step (by repeat (with_reducible first | exact hbel | exact Below.refl _ _ | refine Below.drew ?_ | refine Below.drewN ?_ _ | refine Below.alloc ?_ (by first | (simp; done) | (simp; omega) | omega | (have := Below.size hbel; simp; omega) | (have := Below.size hbel; omega)) _ | refine Below.setCell ?_ (by first | (simp; done) | (simp; omega) | omega) _)) (by simp) hb0⟩

theorem lv_bd (s : Bs) (b : P) (hk : (P.bd s b).kind = .t) : LV (.bd s b) := by
  intro w D a q n c ht hD
  have hh : bhead s = [109, 117] := by
    rw [P.kind] at hk
    rw [bhead]
    cases h : firstIs varB s
    · rfl
    · rw [h] at hk; cases hk
  rw [P.tree, hh] at ht
  have hcall := Lib.hid (head_lit ht hD)
  obtain ⟨rfl, hn, g, rfl, hg, hp⟩ := ht.part
  rw [show headOf [T.atom [109, 117], T.atom s, b.tree] = [109, 117] from rfl] at hcall
  rw [show (P.bd s b).val = false from rfl]
  clear hp hD ht hk hh hn
  go_enter Try.func16, Try.ntmps16
  go_wp2_with fail
  refine (hcall.out _ (by repeat (with_reducible first | exact hbel | exact Below.refl _ _ | refine Below.drew ?_ | refine Below.drewN ?_ _ | refine Below.alloc ?_ (by first | (simp; done) | (simp; omega) | omega | (have := Below.size hbel; simp; omega) | (have := Below.size hbel; omega)) _ | refine Below.setCell ?_ (by first | (simp; done) | (simp; omega) | omega) _))).mono ?_
  rintro e w0 ⟨rfl, hb0⟩
  go_wp2_with fail
  go_ret
  exact ⟨rfl, below_step (by repeat (with_reducible first | exact hbel | exact Below.refl _ _ | refine Below.drew ?_ | refine Below.drewN ?_ _ | refine Below.alloc ?_ (by first | (simp; done) | (simp; omega) | omega | (have := Below.size hbel; simp; omega) | (have := Below.size hbel; omega)) _ | refine Below.setCell ?_ (by first | (simp; done) | (simp; omega) | omega) _)) (by simp) hb0⟩

theorem lv_in (h : Bs) (hh : h = [105, 110, 108] ∨ h = [105, 110, 114]) (b : P) (H : Hid (LV b)) : LV (.f1 h b) := by
  intro w D a q n c ht hD
  rw [P.tree] at ht
  have hcall := Lib.hid (head_lit ht hD)
  obtain ⟨rfl, hn, g, rfl, hg, hp⟩ := ht.part
  rw [show headOf [T.atom h, b.tree] = h from rfl] at hcall
  rw [show (P.f1 h b).val = b.val from if_pos hh]
  have hn' : n = 2 := hn
  subst hn'
  obtain ⟨a1, p1, n1, c1, y0, y1, t1⟩ := hp 1 b.tree rfl
  have hgw := hD g hg
  simp only [Nat.one_mul, Nat.reduceAdd] at y0 y1
  have hA := Lib.hid (fun W (hW : Below w.heap.size w W) => H.out W D a1 p1 n1 c1 (t1.below hW hD) (fun g hg => Nat.lt_of_lt_of_le (hD g hg) hW.size))
  generalize b.val = r at *
  clear hp hD ht hn hg t1
  rcases hh with rfl | rfl
  all_goals
    go_enter Try.func16, Try.ntmps16
    go_wp2_with fail
    refine (hcall.out _ (by repeat (with_reducible first | exact hbel | exact Below.refl _ _ | refine Below.drew ?_ | refine Below.drewN ?_ _ | refine Below.alloc ?_ (by first | (simp; done) | (simp; omega) | omega | (have := Below.size hbel; simp; omega) | (have := Below.size hbel; omega)) _ | refine Below.setCell ?_ (by first | (simp; done) | (simp; omega) | omega) _))).mono ?_
    rintro e w0 ⟨rfl, hb0⟩
    have hw0 := Lib.hid (below_step ((Below.refl _ _).alloc (Nat.le_refl _) _ : Below w.heap.size w (w.alloc _)) (by simp) hb0)
    obtain ⟨z0, b0, b1, -, -⟩ := two_cells ((hb0.block w.heap.size (by simp)).trans (heap_alloc_new w _))
    have y0' := (hw0.out.cell (p := ⟨g, 2, none⟩) hgw).trans y0
    have y1' := (hw0.out.cell (p := ⟨g, 3, none⟩) hgw).trans y1
    clear hb0 y0 y1
    go_wp2_with fail
    refine Calls.mono (hA.out _ hw0.out) ?_
    rintro e w1 ⟨rfl, hb1⟩
    go_wp2_with fail
    go_ret
    exact ⟨rfl, below_step hw0.out (Nat.le_refl _) hb1⟩

theorem lv_not (b : P) : LV (.f1 [110, 111, 116] b) := by
  intro w D a q n c ht hD
  rw [P.tree] at ht
  have hcall := Lib.hid (head_lit ht hD)
  obtain ⟨rfl, hn, g, rfl, hg, hp⟩ := ht.part
  rw [show headOf [T.atom [110, 111, 116], b.tree] = [110, 111, 116] from rfl] at hcall
  rw [show (P.f1 [110, 111, 116] b).val = true from rfl]
  clear hp hD ht hn
  go_enter Try.func16, Try.ntmps16
  go_wp2_with fail
  refine (hcall.out _ (by repeat (with_reducible first | exact hbel | exact Below.refl _ _ | refine Below.drew ?_ | refine Below.drewN ?_ _ | refine Below.alloc ?_ (by first | (simp; done) | (simp; omega) | omega | (have := Below.size hbel; simp; omega) | (have := Below.size hbel; omega)) _ | refine Below.setCell ?_ (by first | (simp; done) | (simp; omega) | omega) _))).mono ?_
  rintro e w0 ⟨rfl, hb0⟩
  go_wp2_with fail
  go_ret
  exact ⟨rfl, below_step (by repeat (with_reducible first | exact hbel | exact Below.refl _ _ | refine Below.drew ?_ | refine Below.drewN ?_ _ | refine Below.alloc ?_ (by first | (simp; done) | (simp; omega) | omega | (have := Below.size hbel; simp; omega) | (have := Below.size hbel; omega)) _ | refine Below.setCell ?_ (by first | (simp; done) | (simp; omega) | omega) _)) (by simp) hb0⟩

theorem lv_pair (a b : P) (ha : Hid (LV a)) (hb : Hid (LV b)) : LV (.f2 [112, 97, 105, 114] a b) := by
  intro w D s q n c ht hD
  rw [P.tree] at ht
  have hcall := Lib.hid (head_lit ht hD)
  obtain ⟨rfl, hn, g, rfl, hg, hp⟩ := ht.part
  rw [show headOf [T.atom [112, 97, 105, 114], a.tree, b.tree] = [112, 97, 105, 114] from rfl] at hcall
  rw [show (P.f2 [112, 97, 105, 114] a b).val = (a.val && b.val) from rfl]
  have hn' : n = 3 := hn
  subst hn'
  obtain ⟨a1, p1, n1, c1, y0, y1, t1⟩ := hp 1 a.tree rfl
  obtain ⟨a2, p2, n2, c2, q0, q1, t2⟩ := hp 2 b.tree rfl
  have hgw := hD g hg
  simp only [Nat.one_mul, Nat.reduceMul, Nat.reduceAdd] at y0 y1 q0 q1
  have hA := Lib.hid (fun W (hW : Below w.heap.size w W) => ha.out W D a1 p1 n1 c1 (t1.below hW hD) (fun g hg => Nat.lt_of_lt_of_le (hD g hg) hW.size))
  have hB := Lib.hid (fun W (hW : Below w.heap.size w W) => hb.out W D a2 p2 n2 c2 (t2.below hW hD) (fun g hg => Nat.lt_of_lt_of_le (hD g hg) hW.size))
  generalize a.val = r at *
  generalize b.val = r' at *
  clear hp hD ht hn hg t1 t2
  go_enter Try.func16, Try.ntmps16
  go_wp2_with fail
  refine (hcall.out _ (by repeat (with_reducible first | exact hbel | exact Below.refl _ _ | refine Below.drew ?_ | refine Below.drewN ?_ _ | refine Below.alloc ?_ (by first | (simp; done) | (simp; omega) | omega | (have := Below.size hbel; simp; omega) | (have := Below.size hbel; omega)) _ | refine Below.setCell ?_ (by first | (simp; done) | (simp; omega) | omega) _))).mono ?_
  rintro e w0 ⟨rfl, hb0⟩
  have hw0 := Lib.hid (below_step ((Below.refl _ _).alloc (Nat.le_refl _) _ : Below w.heap.size w (w.alloc _)) (by simp) hb0)
  obtain ⟨z0, b0, b1, -, -⟩ := two_cells ((hb0.block w.heap.size (by simp)).trans (heap_alloc_new w _))
  have y0' := (hw0.out.cell (p := ⟨g, 2, none⟩) hgw).trans y0
  have y1' := (hw0.out.cell (p := ⟨g, 3, none⟩) hgw).trans y1
  have q0' := (hw0.out.cell (p := ⟨g, 4, none⟩) hgw).trans q0
  have q1' := (hw0.out.cell (p := ⟨g, 5, none⟩) hgw).trans q1
  clear hb0 y0 y1 q0 q1
  go_wp2_with fail
  refine Calls.mono (hA.out _ hw0.out) ?_
  rintro e w1 ⟨rfl, hb1⟩
  have hw1 := Lib.hid (below_step hw0.out (Nat.le_refl _) hb1 : Below w.heap.size w w1)
  have z1 : w.heap.size < w1.heap.size := Nat.lt_of_lt_of_le z0 hb1.size
  have d1 := (hb1.cell (p := ⟨w.heap.size, 1, none⟩) z0).trans b1
  have q0'' := (hb1.cell (p := ⟨g, 4, none⟩) (Nat.lt_of_lt_of_le hgw hw0.out.size)).trans q0'
  have q1'' := (hb1.cell (p := ⟨g, 5, none⟩) (Nat.lt_of_lt_of_le hgw hw0.out.size)).trans q1'
  clear hb1 y0' y1' q0' q1' b0 b1
  cases r
  · go_wp2_with fail
    go_ret
    exact ⟨rfl, hw1.out⟩
  · go_wp2_with (refine Calls.mono (hB.out _ hw1.out) ?_; rintro e w2 ⟨rfl, hb2⟩)
    go_ret
    exact ⟨rfl, below_step hw1.out (Nat.le_refl _) hb2⟩

theorem hd1_t {h : Bs} {l : K} (e : hd1 h = some (.t, l)) : ((h = [105, 110, 108] ∨ h = [105, 110, 114]) ∧ l = .t) ∨ (h = [110, 111, 116] ∧ l = .c) := by
  unfold hd1 at e
  repeat' split at e
  all_goals first | (simp at e; done) | (rename_i hh; subst hh; simp at e; subst e; simp)
theorem hd2_t {h : Bs} {l m : K} (e : hd2 h = some (.t, l, m)) : h = [112, 97, 105, 114] ∧ l = .t ∧ m = .t := by
  unfold hd2 at e
  repeat' split at e
  all_goals first | (simp at e; done) | (rename_i hh; subst hh; simp at e; obtain ⟨rfl, rfl⟩ := e; simp)

theorem lv_any : ∀ {p : P}, p.ok = true → p.kind = .t → LV p
  | .nm s, _, hk => lv_nm s hk
  | .bd s b, _, hk => lv_bd s b hk
  | .f1 h p, hok, hk => by
    rw [P.ok, Bool.and_eq_true, decide_eq_true_iff, hk] at hok
    rcases hd1_t hok.2 with ⟨hh, hl⟩ | ⟨hh, hl⟩
    · exact lv_in h hh p (lv_any hok.1 hl)
    · subst hh; exact lv_not p
  | .f2 h p q, hok, hk => by
    rw [P.ok, Bool.and_eq_true, Bool.and_eq_true, decide_eq_true_iff, hk] at hok
    obtain ⟨rfl, h1, h2⟩ := hd2_t hok.2
    exact lv_pair p q (lv_any hok.1.1 h1) (lv_any hok.1.2 h2)

end Go.Proofs.Ytijplnaoecoblaa
